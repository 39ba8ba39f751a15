/- The walk of DiskTorn. No condition. -/
import Derived.Test.YtafbphgfdnmilaaN2
namespace Go.Proofs.Ytafbphgfdnmilaa
open Go.RowKit Go.Own

theorem gi_atS {t : ByteArray} {i : Nat} (h : i < t.size) : gi (bys t) i = t[i].toNat := by
  have h3 : i < t.data.size := h
  simp only [gi, bys, List.getD_eq_getElem?_getD, List.getElem?_map]
  rw [List.getElem?_eq_getElem (by simpa using h3)]
  rfl
theorem ixS (t : ByteArray) (k : IntKind) (i : Nat) (W : World) (h1 : i < t.size) :
    (ixN 9 (.string t) (.int k (i : Int))).run Try.prog W = .ok (.int .u8 ((gi (bys t) i : Nat) : Int)) W := by
  rw [gi_atS h1]
  unfold ixN
  rw [run_index_string W 9 t k i Try.underlying9, dif_pos ⟨by omega, by omega⟩]
  simp
theorem ixM (L : List Nat) (hB : B8 L) (k : IntKind) (i : Nat) (W : World) (h1 : i < L.length) :
    (ixN 9 (.string (mkS L)) (.int k (i : Int))).run Try.prog W = .ok (.int .u8 ((gi L i : Nat) : Int)) W := by
  have h := ixS (mkS L) k i W (by rw [mkS_size]; exact h1)
  rwa [bys_mkS L hB] at h
def onlyAt (j : Nat) : Nat → Prop := fun p => p = j
theorem onlyAt_lt {j : Nat} {l : List Obj} {X : Obj} (h : l[j]? = some X) : ∀ p, onlyAt j p → p < l.length := fun p hp => by
  have : p = j := hp
  subst this
  exact (List.getElem?_eq_some_iff.1 h).1
theorem onlyAt_kp {j : Nat} {l l' : List Obj} {X : Obj} (h : l[j]? = some X) (hk : Kp (onlyAt j) l l') : l'[j]? = some X := by
  rw [hk.2 j rfl (List.getElem?_eq_some_iff.1 h).1, h]
theorem z60 : zeroOf Try.prog 5 = .int .u8 0 := z5
theorem hmk5 : (Try.prog.info? 5).map (fun i => (i.zero, i.size, i.bytes)) = some (some (.int .u8 0), 1, 1) := by kernel_rfl
theorem full_end : fin1 (fun _ => 120) 64 (rep 64) = fullL := by
  rw [fin1_end (by simp)]; rfl
attribute [local go_sem] set_same app_left set_left at_mid' set_mid'
set_option maxRecDepth 100000 in
set_option maxHeartbeats 2000000 in
theorem torn_any (n k : Nat) (t : Int) (hn : n < 256) (ht1 : -9223372036854775808 ≤ t) (ht2 : t ≤ 9223372036854775807) (w : World) :
    Calls Try.prog 6 #[.int .u8 (n : Int), .int .u64 (k : Int), .int .i64 t] w fun e w' => e = .returned (.bool true) ∧ Grows w w' := by
  obtain ⟨m0, hm0⟩ : ∃ m, n % 70 = m := ⟨_, rfl⟩
  have hm1 : (n : Int) % 70 = m0 := by omega
  have hm2 : (n : Int).tmod 70 = m0 := by rw [Int.tmod_eq_emod_of_nonneg (by omega)]; exact hm1
  have hm3 : IntKind.i64.wrap (m0 : Int) = m0 := IntWalk.i64_in _ (by omega)
  obtain ⟨c, hc⟩ : ∃ c : Nat, 1 + m0 = c := ⟨_, rfl⟩
  have hc1 : (1 : Int) + m0 = c := by omega
  have HC := Lib.hid (show 1 ≤ c ∧ c ≤ 70 by omega)
  have HMK := Lib.hid hmk5
  clear hm0 hc
  refine calls_wd ?_
  go_enter Try.func6, Try.ntmps6
  go_wp2_with fail
  refine (awake_any _).mono ?_
  rintro e w' ⟨rfl, g, d, rfl⟩
  rw [Wd_wd]
  generalize [] ++ g = l0 at *
  go_wp2_with fail
  refine (new_any w l0 _ c HC.out.1 (by have := HC.out.2; omega) none0 (no0 _)).mono ?_
  rintro e w' ⟨i, s, q, l1, d1, v1, rfl, rfl, hA, -⟩
  have HA1 := Lib.hid hA
  clear hA
  have hmk := hmk5
  go_wp2
  obtain ⟨j, hj⟩ : ∃ j, l1.length = j := ⟨_, rfl⟩
  rw [hj]
  go_loopw [11] (fun x wr => ∃ (kk d : Nat), kk ≤ 64 ∧ x = .int .i64 kk ∧ wr = Wd w (l1 ++ [.cells (cv .u8 (fin1 (fun _ => 120) kk (rep 64))) 5 (0, 0)]) d) (fun x _ => 64 - (intOf x).toNat)
  case atStart => exact ⟨0, _, by omega, rfl, by rw [fin1_zero]⟩
  case round =>
    obtain ⟨kk, d, hkk, rfl, rfl⟩ := hrel
    by_cases hlt : kk < 64
    · have hfl : (fin1 (fun _ => 120) kk (rep 64)).length = 64 := by rw [fin1_length (by rw [rep_length]; omega), rep_length]
      have HST := Lib.hid (fin1_step (f := fun _ => 120) (k := kk) (s := rep 64))
      obtain ⟨F, hF⟩ : ∃ F, fin1 (fun _ => 120) kk (rep 64) = F := ⟨_, rfl⟩
      rw [hF] at hfl HST ⊢
      clear hF
      go_wp2
      go_roundw
      case rel => exact ⟨kk + 1, _, by omega, by go_num, by rw [← HST.out]⟩
      case measure => simp [intOf]; omega
    · obtain rfl : kk = 64 := by omega
      rw [full_end]
      have hX : (l1 ++ [Obj.cells (cv .u8 fullL) 5 (0, 0)])[j]? = some (.cells (cv .u8 fullL) 5 (0, 0)) := at_mid' hj
      have HX := Lib.hid hX
      have HA2 : Hid (DAt w (l1 ++ [Obj.cells (cv .u8 fullL) 5 (0, 0)]) i s q v1 (onlyAt j) (newK c)) := Lib.hid (HA1.out.keep fun p _ hp => ⟨fun h => by have : p = j := h; omega, List.getElem?_append_left hp⟩)
      clear hX HA1 hmk
      generalize l1 ++ [Obj.cells (cv .u8 fullL) 5 (0, 0)] = l2 at *
      clear hj
      go_wp2
      rw [show ((64 : Nat) : Int) = 64 from rfl]
      go_loopw [12] (fun x wr => ∃ (kk : Nat) (l : List Obj) (d : Nat) (vw : Value) (M : Dk), kk ≤ c ∧ x = .int .i64 kk ∧ wr = Wd w l d ∧ Hid (DAt w l i s q vw (onlyAt j) M) ∧ Hid (Row c kk M) ∧ Hid (l[j]? = some (.cells (cv .u8 fullL) 5 (0, 0)))) (fun x _ => c - (intOf x).toNat)
      case atStart => exact ⟨0, l2, _, v1, _, by omega, rfl, rfl, HA2, Lib.hid (Row.new c), HX⟩
      case round =>
        clear HA2 HX
        obtain ⟨kk, l, d, vw, M, hkk, rfl, rfl, HA, HR, HX⟩ := hrel
        by_cases hlt : kk < c
        · have hX := HX.out
          have hfl := fullL_length
          go_wp2_with fail
          refine (write_any w l d i s q vw (onlyAt j) M (kk : Int) (mkS fullL) HA.out (by have := HC.out.2; rw [HR.out.count]; omega) (onlyAt_lt HX.out)).mono ?_
          rintro e w' ⟨rfl, l3, d3, v3, rfl, hA, hK⟩
          rw [bys_mkS fullL fullL_B8] at hA ⊢
          have HN := Lib.hid (HR.out.next hlt)
          rw [HN.out.1]
          have HA3 := Lib.hid hA
          have HX3 := Lib.hid (onlyAt_kp HX.out hK)
          clear hA hK hX hfl
          go_wp2
          go_roundw
          case rel => exact ⟨kk + 1, l3, d3, v3, _, by omega, by go_num, rfl, HA3, Lib.hid HN.out.2, HX3⟩
          case measure => simp [intOf]; omega
        · obtain rfl : kk = c := by omega
          have hX := HX.out
          go_wp2_with fail
          refine (crash_any w l _ i s q vw (onlyAt j) M k t HA.out (by have := HC.out.2; rw [HR.out.count]; omega) (onlyAt_lt HX.out)).mono ?_
          rintro e w' ⟨rfl, l4, d4, v4, rfl, hA, hK⟩
          have HA4 := Lib.hid hA
          have HGI := Lib.hid (fun a b ha hb => HR.out.crash k t (a := a) (b := b) ha hb)
          have HSL := Lib.hid (show (M.crash k t).last.length = kk * 64 by
            have h := HA4.out.ok.lastL
            have e : (M.crash k t).n = kk := by unfold Dk.crash; split <;> exact HR.out.n
            rw [e] at h
            exact h)
          have HSB := Lib.hid HA4.out.ok.lastB
          clear hA hK hX HX HA
          go_wp2_with fail
          refine (image_any w l4 _ i s q v4 (onlyAt j) _ HA4.out).mono ?_
          rintro e w' ⟨rfl, g5, d5, rfl⟩
          obtain ⟨S, hS⟩ : ∃ S, (M.crash k t).last = S := ⟨_, rfl⟩
          simp only [hS] at HGI HSL HSB ⊢
          clear hS HA4 HR
          generalize l4 ++ g5 = l5 at *
          obtain ⟨c, hcc⟩ : ∃ c, kk = c := ⟨_, rfl⟩
          subst hcc
          go_wp2
          go_loop [14] (fun x => ∃ a : Nat, a ≤ kk ∧ x = .int .i64 a) (fun x => kk - (intOf x).toNat)
          case atStart => exact ⟨0, by omega, rfl⟩
          case round =>
            obtain ⟨a, ha, rfl⟩ := hrel
            by_cases hac : a < kk
            · have hwr : IntKind.i64.wrap ((a : Int) + 1) = (a : Int) + 1 := IntWalk.i64_in _ (by have := HC.out.2; omega)
              by_cases h64 : a < 64
              · obtain ⟨bb, hbb⟩ : ∃ b, shr64 k a % 2 = b := ⟨_, rfl⟩
                have hbb1 : ((shr64 k a : Nat) : Int) % 2 = bb := by omega
                have hbb2 : ((shr64 k a : Nat) : Int).tmod 2 = bb := by rw [Int.tmod_eq_emod_of_nonneg (by omega)]; exact hbb1
                have ha64 : a ≤ 64 := by omega
                have hwu : IntKind.u64.wrap (a : Int) = a := by rw [wrap64n, Nat.mod_eq_of_lt (by omega)]
                by_cases hbit : bb = 1
                · have HBB := Lib.hid (hbb.trans hbit)
                  subst hbit
                  clear hbb
                  by_cases hl : a + 1 = kk
                  · have hl1 : ((a : Int) == (kk : Int) - 1) = true := by rw [beq_iff_eq]; omega
                    have HW0 : Hid (wantN k t kk a = clampN t) := Lib.hid (by unfold wantN; rw [if_pos ⟨h64, HBB.out⟩, if_pos hl])
                    clear hl
                    by_cases hta : t < 0
                    · have HW : Hid (wantN k t kk a = 0) := Lib.hid (HW0.out.trans (by unfold clampN; omega))
                      go_wp2
                      go_loop [16] (fun x => ∃ b : Nat, b ≤ 64 ∧ x = .int .i64 b) (fun x => 64 - (intOf x).toNat)
                      case atStart => exact ⟨0, by omega, rfl⟩
                      case round =>
                        obtain ⟨b, hb, rfl⟩ := hrel
                        by_cases hb64 : b < 64
                        · have hp : (64 : Int) * (a : Int) + (b : Int) = ((a * 64 + b : Nat) : Int) := by omega
                          have hplt : a * 64 + b < S.length := by have := HSL.out; have := Nat.mul_le_mul_right 64 (show a + 1 ≤ kk from hac); omega
                          have hix : ∀ kk W, (ixN 9 (.string (mkS S)) (.int kk ((a * 64 + b : Nat) : Int))).run Try.prog W = .ok (.int .u8 ((gi S (a * 64 + b) : Nat) : Int)) W := fun kk W => ixM S HSB.out kk _ W hplt
                          have HG := Lib.hid (HGI.out a b hac hb64)
                          obtain ⟨p, hpp⟩ : ∃ p, a * 64 + b = p := ⟨_, rfl⟩
                          rw [hpp] at hp hix HG
                          clear hpp hplt
                          have hgi : gi S p = 0 := by rw [HG.out, HW.out, if_neg (by omega)]
                          go_wp2
                          go_round
                          case rel => exact ⟨b + 1, by omega, by go_num⟩
                          case measure => simp [intOf]; omega
                        · obtain rfl : b = 64 := by omega
                          go_wp2
                          go_round
                          case rel => exact ⟨a + 1, by omega, by go_num⟩
                          case measure => simp [intOf]; omega
                    · by_cases htb : 64 < t
                      · have HW : Hid (wantN k t kk a = 64) := Lib.hid (HW0.out.trans (by unfold clampN; omega))
                        go_wp2
                        go_loop [16] (fun x => ∃ b : Nat, b ≤ 64 ∧ x = .int .i64 b) (fun x => 64 - (intOf x).toNat)
                        case atStart => exact ⟨0, by omega, rfl⟩
                        case round =>
                          obtain ⟨b, hb, rfl⟩ := hrel
                          by_cases hb64 : b < 64
                          · have hp : (64 : Int) * (a : Int) + (b : Int) = ((a * 64 + b : Nat) : Int) := by omega
                            have hplt : a * 64 + b < S.length := by have := HSL.out; have := Nat.mul_le_mul_right 64 (show a + 1 ≤ kk from hac); omega
                            have hix : ∀ kk W, (ixN 9 (.string (mkS S)) (.int kk ((a * 64 + b : Nat) : Int))).run Try.prog W = .ok (.int .u8 ((gi S (a * 64 + b) : Nat) : Int)) W := fun kk W => ixM S HSB.out kk _ W hplt
                            have HG := Lib.hid (HGI.out a b hac hb64)
                            obtain ⟨p, hpp⟩ : ∃ p, a * 64 + b = p := ⟨_, rfl⟩
                            rw [hpp] at hp hix HG
                            clear hpp hplt
                            have hgi : gi S p = 120 := by rw [HG.out, HW.out, if_pos hb64]
                            go_wp2
                            go_round
                            case rel => exact ⟨b + 1, by omega, by go_num⟩
                            case measure => simp [intOf]; omega
                          · obtain rfl : b = 64 := by omega
                            go_wp2
                            go_round
                            case rel => exact ⟨a + 1, by omega, by go_num⟩
                            case measure => simp [intOf]; omega
                      · by_cases htz : t = 0
                        · subst htz
                          have HW : Hid (wantN k 0 kk a = 0) := Lib.hid (HW0.out.trans (by unfold clampN; omega))
                          go_wp2
                          go_loop [16] (fun x => ∃ b : Nat, b ≤ 64 ∧ x = .int .i64 b) (fun x => 64 - (intOf x).toNat)
                          case atStart => exact ⟨0, by omega, rfl⟩
                          case round =>
                            obtain ⟨b, hb, rfl⟩ := hrel
                            by_cases hb64 : b < 64
                            · have hp : (64 : Int) * (a : Int) + (b : Int) = ((a * 64 + b : Nat) : Int) := by omega
                              have hplt : a * 64 + b < S.length := by have := HSL.out; have := Nat.mul_le_mul_right 64 (show a + 1 ≤ kk from hac); omega
                              have hix : ∀ kk W, (ixN 9 (.string (mkS S)) (.int kk ((a * 64 + b : Nat) : Int))).run Try.prog W = .ok (.int .u8 ((gi S (a * 64 + b) : Nat) : Int)) W := fun kk W => ixM S HSB.out kk _ W hplt
                              have HG := Lib.hid (HGI.out a b hac hb64)
                              obtain ⟨p, hpp⟩ : ∃ p, a * 64 + b = p := ⟨_, rfl⟩
                              rw [hpp] at hp hix HG
                              clear hpp hplt
                              have hgi : gi S p = 0 := by rw [HG.out, HW.out, if_neg (by omega)]
                              go_wp2
                              go_round
                              case rel => exact ⟨b + 1, by omega, by go_num⟩
                              case measure => simp [intOf]; omega
                            · obtain rfl : b = 64 := by omega
                              go_wp2
                              go_round
                              case rel => exact ⟨a + 1, by omega, by go_num⟩
                              case measure => simp [intOf]; omega
                        · have HW : Hid (wantN k t kk a = t.toNat) := Lib.hid (HW0.out.trans (by unfold clampN; omega))
                          have htp : 0 < t := by omega
                          clear htz
                          go_wp2
                          go_loop [16] (fun x => ∃ b : Nat, b ≤ 64 ∧ x = .int .i64 b) (fun x => 64 - (intOf x).toNat)
                          case atStart => exact ⟨0, by omega, rfl⟩
                          case round =>
                            obtain ⟨b, hb, rfl⟩ := hrel
                            by_cases hb64 : b < 64
                            · have hp : (64 : Int) * (a : Int) + (b : Int) = ((a * 64 + b : Nat) : Int) := by omega
                              have hplt : a * 64 + b < S.length := by have := HSL.out; have := Nat.mul_le_mul_right 64 (show a + 1 ≤ kk from hac); omega
                              have hix : ∀ kk W, (ixN 9 (.string (mkS S)) (.int kk ((a * 64 + b : Nat) : Int))).run Try.prog W = .ok (.int .u8 ((gi S (a * 64 + b) : Nat) : Int)) W := fun kk W => ixM S HSB.out kk _ W hplt
                              have HG := Lib.hid (HGI.out a b hac hb64)
                              obtain ⟨p, hpp⟩ : ∃ p, a * 64 + b = p := ⟨_, rfl⟩
                              rw [hpp] at hp hix HG
                              clear hpp hplt
                              by_cases hbt : (b : Int) < t
                              · have hgi : gi S p = 120 := by rw [HG.out, HW.out, if_pos (by omega)]
                                go_wp2
                                go_round
                                case rel => exact ⟨b + 1, by omega, by go_num⟩
                                case measure => simp [intOf]; omega
                              · have hgi : gi S p = 0 := by rw [HG.out, HW.out, if_neg (by omega)]
                                go_wp2
                                go_round
                                case rel => exact ⟨b + 1, by omega, by go_num⟩
                                case measure => simp [intOf]; omega
                            · obtain rfl : b = 64 := by omega
                              go_wp2
                              go_round
                              case rel => exact ⟨a + 1, by omega, by go_num⟩
                              case measure => simp [intOf]; omega
                  · have hl1 : ((a : Int) == (kk : Int) - 1) = false := by rw [beq_eq_false_iff_ne]; omega
                    have HW : Hid (wantN k t kk a = 64) := Lib.hid (by unfold wantN; rw [if_pos ⟨h64, HBB.out⟩, if_neg hl])
                    clear hl
                    go_wp2
                    go_loop [16] (fun x => ∃ b : Nat, b ≤ 64 ∧ x = .int .i64 b) (fun x => 64 - (intOf x).toNat)
                    case atStart => exact ⟨0, by omega, rfl⟩
                    case round =>
                      obtain ⟨b, hb, rfl⟩ := hrel
                      by_cases hb64 : b < 64
                      · have hp : (64 : Int) * (a : Int) + (b : Int) = ((a * 64 + b : Nat) : Int) := by omega
                        have hplt : a * 64 + b < S.length := by have := HSL.out; have := Nat.mul_le_mul_right 64 (show a + 1 ≤ kk from hac); omega
                        have hix : ∀ kk W, (ixN 9 (.string (mkS S)) (.int kk ((a * 64 + b : Nat) : Int))).run Try.prog W = .ok (.int .u8 ((gi S (a * 64 + b) : Nat) : Int)) W := fun kk W => ixM S HSB.out kk _ W hplt
                        have HG := Lib.hid (HGI.out a b hac hb64)
                        obtain ⟨p, hpp⟩ : ∃ p, a * 64 + b = p := ⟨_, rfl⟩
                        rw [hpp] at hp hix HG
                        clear hpp hplt
                        have hgi : gi S p = 120 := by rw [HG.out, HW.out, if_pos hb64]
                        go_wp2
                        go_round
                        case rel => exact ⟨b + 1, by omega, by go_num⟩
                        case measure => simp [intOf]; omega
                      · obtain rfl : b = 64 := by omega
                        go_wp2
                        go_round
                        case rel => exact ⟨a + 1, by omega, by go_num⟩
                        case measure => simp [intOf]; omega
                · have HW : Hid (wantN k t kk a = 0) := Lib.hid (by unfold wantN; rw [if_neg (fun h => hbit (hbb.symm.trans h.2))])
                  have hbit1 : ((bb : Int) == 1) = false := by rw [beq_eq_false_iff_ne]; omega
                  clear hbb hbit
                  go_wp2
                  go_loop [16] (fun x => ∃ b : Nat, b ≤ 64 ∧ x = .int .i64 b) (fun x => 64 - (intOf x).toNat)
                  case atStart => exact ⟨0, by omega, rfl⟩
                  case round =>
                    obtain ⟨b, hb, rfl⟩ := hrel
                    by_cases hb64 : b < 64
                    · have hp : (64 : Int) * (a : Int) + (b : Int) = ((a * 64 + b : Nat) : Int) := by omega
                      have hplt : a * 64 + b < S.length := by have := HSL.out; have := Nat.mul_le_mul_right 64 (show a + 1 ≤ kk from hac); omega
                      have hix : ∀ kk W, (ixN 9 (.string (mkS S)) (.int kk ((a * 64 + b : Nat) : Int))).run Try.prog W = .ok (.int .u8 ((gi S (a * 64 + b) : Nat) : Int)) W := fun kk W => ixM S HSB.out kk _ W hplt
                      have HG := Lib.hid (HGI.out a b hac hb64)
                      obtain ⟨p, hpp⟩ : ∃ p, a * 64 + b = p := ⟨_, rfl⟩
                      rw [hpp] at hp hix HG
                      clear hpp hplt
                      have hgi : gi S p = 0 := by rw [HG.out, HW.out, if_neg (by omega)]
                      go_wp2
                      go_round
                      case rel => exact ⟨b + 1, by omega, by go_num⟩
                      case measure => simp [intOf]; omega
                    · obtain rfl : b = 64 := by omega
                      go_wp2
                      go_round
                      case rel => exact ⟨a + 1, by omega, by go_num⟩
                      case measure => simp [intOf]; omega
              · have HW : Hid (wantN k t kk a = 0) := Lib.hid (want_far (by omega))
                have h64b : ¬ (a : Int) < 64 := by omega
                go_wp2
                go_loop [16] (fun x => ∃ b : Nat, b ≤ 64 ∧ x = .int .i64 b) (fun x => 64 - (intOf x).toNat)
                case atStart => exact ⟨0, by omega, rfl⟩
                case round =>
                  obtain ⟨b, hb, rfl⟩ := hrel
                  by_cases hb64 : b < 64
                  · have hp : (64 : Int) * (a : Int) + (b : Int) = ((a * 64 + b : Nat) : Int) := by omega
                    have hplt : a * 64 + b < S.length := by have := HSL.out; have := Nat.mul_le_mul_right 64 (show a + 1 ≤ kk from hac); omega
                    have hix : ∀ kk W, (ixN 9 (.string (mkS S)) (.int kk ((a * 64 + b : Nat) : Int))).run Try.prog W = .ok (.int .u8 ((gi S (a * 64 + b) : Nat) : Int)) W := fun kk W => ixM S HSB.out kk _ W hplt
                    have HG := Lib.hid (HGI.out a b hac hb64)
                    obtain ⟨p, hpp⟩ : ∃ p, a * 64 + b = p := ⟨_, rfl⟩
                    rw [hpp] at hp hix HG
                    clear hpp hplt
                    have hgi : gi S p = 0 := by rw [HG.out, HW.out, if_neg (by omega)]
                    go_wp2
                    go_round
                    case rel => exact ⟨b + 1, by omega, by go_num⟩
                    case measure => simp [intOf]; omega
                  · obtain rfl : b = 64 := by omega
                    go_wp2
                    go_round
                    case rel => exact ⟨a + 1, by omega, by go_num⟩
                    case measure => simp [intOf]; omega
            · obtain rfl : a = kk := by omega
              go_wp2
              go_ret
              exact ⟨rfl, Grows.of _ _ _⟩
end Go.Proofs.Ytafbphgfdnmilaa
