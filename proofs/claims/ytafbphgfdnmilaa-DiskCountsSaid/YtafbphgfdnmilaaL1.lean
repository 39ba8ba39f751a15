/- The walk of DiskCounts. No condition. -/
import Derived.Test.YtafbphgfdnmilaaN1
namespace Go.Proofs.Ytafbphgfdnmilaa
open Go.RowKit Go.Own

/-- Of a disk that is armed with a, i writes and flushes later. -/
def Left (a : Int) (i : Nat) (M : Dk) : Prop := M.off = false ∧ M.n = 2 ∧ M.count ≤ i ∧ ((a < 1 ∧ M.cat = 0) ∨ (1 ≤ a - i ∧ M.cat = a - i))
theorem Left.fires {a : Int} {i : Nat} {M : Dk} (h : Left a i M) : M.cat = 1 ↔ a = (i : Int) + 1 := by
  obtain ⟨_, _, _, h | h⟩ := h <;> omega
theorem Left.next {a : Int} {i : Nat} {M N : Dk} {c : Nat} (h : Left a i M) (hs : Step M N c) (h1 : ¬ a = (i : Int) + 1) : Left a (i + 1) N := by
  have hc : M.cat ≠ 1 := fun e => h1 (h.fires.1 e)
  refine ⟨(hs.calm hc).2, hs.n.trans h.2.1, by have := hs.count; have := h.2.2.1; omega, ?_⟩
  have := hs.cat
  rcases h.2.2.2 with ⟨h3, h4⟩ | ⟨h3, h4⟩
  · rw [if_pos h4] at this
    exact .inl ⟨h3, this⟩
  · rw [if_neg (by omega)] at this
    exact .inr ⟨by omega, by omega⟩
theorem Left.cat0 {a : Int} {i : Nat} {M : Dk} (h : Left a i M) : 0 ≤ M.cat := by
  rcases h.2.2.2 with ⟨_, h4⟩ | ⟨h3, h4⟩ <;> omega
/-- Nothing is armed. -/
def Calm (m : Nat) (M : Dk) : Prop := M.off = false ∧ M.n = 2 ∧ M.cat = 0 ∧ M.count ≤ m
theorem Calm.next {m c : Nat} {M N : Dk} (h : Calm m M) (hs : Step M N c) : c = 0 ∧ Calm (m + 1) N := by
  have hc : M.cat ≠ 1 := by rw [h.2.2.1]; decide
  have := hs.cat
  rw [if_pos h.2.2.1] at this
  exact ⟨(hs.calm hc).1, (hs.calm hc).2, hs.n.trans h.2.1, this, by have := hs.count; have := h.2.2.2; omega⟩
theorem Step.start {M N : Dk} {c : Nat} (h : Step M N c) (h1 : M.cat = 1) (hn : M.n = 2) (hc : M.count ≤ 60) : Calm 62 N.start :=
  ⟨rfl, h.n.trans hn, (h.down h1).2.2, by have := h.count; show N.count ≤ _; omega⟩
theorem arm_left (a : Int) (k : Nat) (t : Int) : Left a 0 ((newK 2).arm a k t) := by
  refine ⟨rfl, rfl, Nat.le_refl _, ?_⟩
  by_cases h : a < 1
  · exact .inl ⟨h, by simp only [Dk.arm, armA]; rw [if_pos h]⟩
  · exact .inr ⟨by omega, by simp only [Dk.arm, armA]; rw [if_neg h]; omega⟩

def only0 : Nat → Prop := fun p => p = 0
theorem only0_lt {l : List Obj} {X : Obj} (h : l[0]? = some X) : ∀ p, only0 p → p < l.length := fun p hp => by
  have : p = 0 := hp
  subst this
  exact (List.getElem?_eq_some_iff.1 h).1
theorem only0_kp {l l' : List Obj} {X : Obj} (h : l[0]? = some X) (hk : Kp only0 l l') : l'[0]? = some X := by
  rw [hk.2 0 rfl (List.getElem?_eq_some_iff.1 h).1, h]

theorem counts_long (a : Int) (k : Nat) (t : Int) (po : Option Addr) (n cap : Nat) (hn : 60 < n) (w : World) :
    Calls Try.prog 5 #[.agg (kc a k t), .slice po n cap] w fun e w' => e = .returned (.bool true) ∧ Grows w w' := by
  have hn' : 60 < (n : Int) := by omega
  refine calls_wd ?_
  go_enter Try.func5, Try.ntmps5
  go_wp2_with fail
  refine (awake_any _).mono ?_
  rintro e w' ⟨rfl, g, d, rfl⟩
  rw [Wd_wd]
  go_wp2
  go_ret
  exact ⟨rfl, Grows.of _ _ _⟩

set_option maxRecDepth 100000 in
set_option maxHeartbeats 2000000 in
theorem counts_short (a : Int) (k : Nat) (t : Int) (ha : a ≤ 9223372036854775807) (L : List Bool) (v : Value) (w : World) (hL : Bools w v L) (hn : L.length ≤ 60) :
    Calls Try.prog 5 #[.agg (kc a k t), v] w fun e w' => e = .returned (.bool true) ∧ Grows w w' := by
  obtain ⟨po, cap, rfl, hP⟩ := hL
  have HP := Lib.hid hP
  obtain ⟨n, hLn⟩ : ∃ n, L.length = n := ⟨_, rfl⟩
  rw [hLn] at hn ⊢
  have HLN := Lib.hid hLn
  have hn' : ¬ 60 < (n : Int) := by omega
  clear hP hLn
  refine calls_wd ?_
  go_enter Try.func5, Try.ntmps5
  go_wp2_with fail
  refine (awake_any _).mono ?_
  rintro e w' ⟨rfl, g, d, rfl⟩
  rw [Wd_wd]
  have hb0 : ([Obj.cells (kc a k t) 33 (0, 0)] ++ g)[0]? = some (.cells (kc a k t) 33 (0, 0)) := rfl
  have HB0 := Lib.hid hb0
  clear hb0
  generalize [Obj.cells (kc a k t) 33 (0, 0)] ++ g = l0 at *
  go_wp2_with fail
  refine (new_any w l0 _ 2 (by decide) (by decide) only0 (only0_lt HB0.out)).mono ?_
  rintro e w' ⟨i, s, q, l1, d1, v1, rfl, rfl, hA, hK⟩
  have HB1 := Lib.hid (only0_kp HB0.out hK)
  have HA1 := Lib.hid hA
  clear hA hK HB0
  have hb1 := HB1.out
  go_wp2_with fail
  refine (armS_any w l1 d1 i s q v1 only0 _ a k t HA1.out ha).mono ?_
  rintro e w' ⟨rfl, l2, d2, v2, rfl, hA, hK⟩
  have HB2 := Lib.hid (only0_kp HB1.out hK)
  have HA2 := Lib.hid hA
  clear hA hK HB1 HA1 hb1
  go_wp2
  go_loopw [7] (fun x wr => ∃ (kk : Nat) (l : List Obj) (d : Nat) (vw : Value) (M : Dk), kk ≤ n ∧ x = .int .i64 kk ∧ wr = Wd w l d ∧ Hid (DAt w l i s q vw only0 M) ∧ Hid (Left a kk M) ∧ Hid (l[0]? = some (.cells (kc a k t) 33 (0, 0)))) (fun x _ => n - (intOf x).toNat)
  case atStart => exact ⟨0, l2, _, v2, _, by omega, rfl, rfl, HA2, Lib.hid (arm_left a k t), HB2⟩
  case round =>
    obtain ⟨kk, l, d, vw, M, hkk, rfl, rfl, HA, HL, HB⟩ := hrel
    clear HA2 HB2
    by_cases hlt : kk < n
    · obtain ⟨b, hb⟩ : ∃ b, L[kk]? = some b := ⟨L[kk]'(by rw [HLN.out]; exact hlt), List.getElem?_eq_getElem _⟩
      obtain ⟨gb, ob, C, tb, fb, rfl, hblk, hC⟩ := HP.out kk b hb
      have hbk : ∀ l d, blk (Wd w l d) gb = some (.cells C tb fb) := fun l d => blk_old _ _ _ _ hblk
      have hld : ∀ l d, ldX Try.prog 4 none (some (.cells C tb fb)) gb (ob + kk) (Wd w l d) = .ok (.bool b) (Wd w l d) := fun l d => ldX_mix1 (isa4 _) (hbk l d) hC
      clear hblk hC hb
      have hr : ∃ r : Nat, r < 2 ∧ (kk : Int) % 2 = r ∧ (kk : Int).tmod 2 = r := ⟨kk % 2, Nat.mod_lt _ (by decide), by omega, by rw [Int.tmod_eq_emod_of_nonneg (by omega)]; omega⟩
      obtain ⟨r, hr1, hr2, hr3⟩ := hr
      have HR := Lib.hid hr1
      clear hr1
      have hwr : IntKind.i64.wrap ((kk : Int) + 1) = (kk : Int) + 1 := IntWalk.i64_in _ (by omega)
      have hl0 := HB.out
      by_cases hf : a = (kk : Int) + 1
      · have HC1 := Lib.hid (HL.out.fires.2 hf)
        have hf1 : (a == (kk : Int) + 1) = true := by rw [beq_iff_eq]; exact hf
        have hf2 : (a != (kk : Int) + 1) = false := by simp [bne, hf1]
        clear hf
        cases b with
        | true =>
          go_wp2_with fail
          refine (flush_any w l d i s q vw only0 _ HA.out (by have := HL.out.2.2.1; omega) (only0_lt HB.out)).mono ?_
          rintro e w' ⟨rfl, l3, d3, v3, rfl, hA, hK⟩
          have HS := Lib.hid (flush_step HL.out.cat0 HL.out.1)
          have HA3 := Lib.hid hA
          have HB3 := Lib.hid (only0_kp HB.out hK)
          have HF := HS.out.down HC1.out
          rw [HF.1]
          clear hA hK hl0
          have hl3 := HB3.out
          have HD : Hid (∀ d, Calls Try.prog 22 #[.pointer (some ⟨w.heap.size + i, 0, none⟩)] (Wd w l3 d) fun e w' => e = .returned (.bool true) ∧ w' = Wd w l3 d) := Lib.hid fun d => by
            have h := down2_any w l3 d i s q v3 only0 _ HA3.out
            rwa [HF.2.1] at h
          have HN : Hid (Calm 62 (Dk.start _)) := Lib.hid (HS.out.start HC1.out HL.out.2.1 (by have := HL.out.2.2.1; omega))
          clear HF
          go_wp2
          refine wp_region_read (by kernel_rfl) (by kernel_rfl) ?_
          repeat (first | still_step | still_call (HD.out _))
          refine wpStill_nil ?_
          go_wp2_with fail
          refine (HD.out _).mono ?_
          rintro e w' ⟨rfl, rfl⟩
          go_wp2_with fail
          refine (startS_any w l3 _ i s q v3 only0 _ HA3.out).mono ?_
          rintro e w' ⟨rfl, l4, d4, v4, rfl, hA, hK⟩
          have HA4 := Lib.hid hA
          have HB4 := Lib.hid (only0_kp HB3.out hK)
          clear hA hK hl3 HA3 HB3 HD HA HB hld hbk
          go_wp2
          go_loopw [9] (fun x wr => ∃ (j : Nat) (l : List Obj) (d : Nat) (vw : Value) (M : Dk), j ≤ 5 ∧ x = .int .i64 j ∧ wr = Wd w l d ∧ Hid (DAt w l i s q vw only0 M) ∧ Hid (Calm (62 + 2 * j) M) ∧ Hid (l[0]? = some (.cells (kc a k t) 33 (0, 0)))) (fun x _ => 5 - (intOf x).toNat)
          case atStart => exact ⟨0, l4, _, v4, _, by omega, rfl, rfl, HA4, HN, HB4⟩
          case round =>
            clear HA4 HN HB4
            obtain ⟨j, l5, d5, v5, M5, hj, rfl, rfl, HA, HN, HB⟩ := hrel
            by_cases hj5 : j < 5
            · have HS1 := Lib.hid (write_step (M := M5) (a := 0) (s := bys sY) (by rw [HN.out.2.2.1]; decide) HN.out.1 (by rw [HN.out.2.1]; decide) (by decide))
              go_wp2_with fail
              refine (write_any w l5 d5 i s q v5 only0 M5 ((0 : Nat) : Int) sY HA.out (by have := HN.out.2.2.2; omega) (only0_lt HB.out)).mono ?_
              rintro e w' ⟨rfl, l6, d6, v6, rfl, hA, hK⟩
              have HN1 := Lib.hid (HN.out.next HS1.out)
              rw [HN1.out.1]
              have HA6 := Lib.hid hA
              have HB6 := Lib.hid (only0_kp HB.out hK)
              clear hA hK
              have HS2 := Lib.hid (flush_step (by rw [HN1.out.2.2.2.1]; decide) HN1.out.2.1)
              go_wp2_with fail
              refine (flush_any w l6 d6 i s q v6 only0 _ HA6.out (by have := HN1.out.2.2.2.2; omega) (only0_lt HB6.out)).mono ?_
              rintro e w' ⟨rfl, l7, d7, v7, rfl, hA, hK⟩
              have HN2 := Lib.hid (HN1.out.2.next HS2.out)
              rw [HN2.out.1]
              have HA7 := Lib.hid hA
              have HB7 := Lib.hid (only0_kp HB6.out hK)
              clear hA hK
              go_wp2
              go_roundw
              case rel => exact ⟨j + 1, l7, d7, v7, _, by omega, by go_num, rfl, HA7, Lib.hid HN2.out.2, HB7⟩
              case measure => simp [intOf]; omega
            · obtain rfl : j = 5 := by omega
              go_wp2_with fail
              refine (down2_any w l5 _ i s q v5 only0 _ HA.out).mono ?_
              rintro e w' ⟨rfl, rfl⟩
              rw [HN.out.1]
              go_wp2
              go_ret
              exact ⟨rfl, Grows.of _ _ _⟩
        | false =>
          go_wp2_with fail
          refine (write_any w l d i s q vw only0 _ (r : Int) sX HA.out (by have := HL.out.2.2.1; omega) (only0_lt HB.out)).mono ?_
          rintro e w' ⟨rfl, l3, d3, v3, rfl, hA, hK⟩
          have HS := Lib.hid (write_step (s := bys sX) HL.out.cat0 HL.out.1 (by rw [HL.out.2.1]; exact HR.out) (by decide))
          have HA3 := Lib.hid hA
          have HB3 := Lib.hid (only0_kp HB.out hK)
          have HF := HS.out.down HC1.out
          rw [HF.1]
          clear hA hK hl0
          have hl3 := HB3.out
          have HD : Hid (∀ d, Calls Try.prog 22 #[.pointer (some ⟨w.heap.size + i, 0, none⟩)] (Wd w l3 d) fun e w' => e = .returned (.bool true) ∧ w' = Wd w l3 d) := Lib.hid fun d => by
            have h := down2_any w l3 d i s q v3 only0 _ HA3.out
            rwa [HF.2.1] at h
          have HN : Hid (Calm 62 (Dk.start _)) := Lib.hid (HS.out.start HC1.out HL.out.2.1 (by have := HL.out.2.2.1; omega))
          clear HF
          go_wp2
          refine wp_region_read (by kernel_rfl) (by kernel_rfl) ?_
          repeat (first | still_step | still_call (HD.out _))
          refine wpStill_nil ?_
          go_wp2_with fail
          refine (HD.out _).mono ?_
          rintro e w' ⟨rfl, rfl⟩
          go_wp2_with fail
          refine (startS_any w l3 _ i s q v3 only0 _ HA3.out).mono ?_
          rintro e w' ⟨rfl, l4, d4, v4, rfl, hA, hK⟩
          have HA4 := Lib.hid hA
          have HB4 := Lib.hid (only0_kp HB3.out hK)
          clear hA hK hl3 HA3 HB3 HD HA HB hld hbk
          go_wp2
          go_loopw [9] (fun x wr => ∃ (j : Nat) (l : List Obj) (d : Nat) (vw : Value) (M : Dk), j ≤ 5 ∧ x = .int .i64 j ∧ wr = Wd w l d ∧ Hid (DAt w l i s q vw only0 M) ∧ Hid (Calm (62 + 2 * j) M) ∧ Hid (l[0]? = some (.cells (kc a k t) 33 (0, 0)))) (fun x _ => 5 - (intOf x).toNat)
          case atStart => exact ⟨0, l4, _, v4, _, by omega, rfl, rfl, HA4, HN, HB4⟩
          case round =>
            clear HA4 HN HB4
            obtain ⟨j, l5, d5, v5, M5, hj, rfl, rfl, HA, HN, HB⟩ := hrel
            by_cases hj5 : j < 5
            · have HS1 := Lib.hid (write_step (M := M5) (a := 0) (s := bys sY) (by rw [HN.out.2.2.1]; decide) HN.out.1 (by rw [HN.out.2.1]; decide) (by decide))
              go_wp2_with fail
              refine (write_any w l5 d5 i s q v5 only0 M5 ((0 : Nat) : Int) sY HA.out (by have := HN.out.2.2.2; omega) (only0_lt HB.out)).mono ?_
              rintro e w' ⟨rfl, l6, d6, v6, rfl, hA, hK⟩
              have HN1 := Lib.hid (HN.out.next HS1.out)
              rw [HN1.out.1]
              have HA6 := Lib.hid hA
              have HB6 := Lib.hid (only0_kp HB.out hK)
              clear hA hK
              have HS2 := Lib.hid (flush_step (by rw [HN1.out.2.2.2.1]; decide) HN1.out.2.1)
              go_wp2_with fail
              refine (flush_any w l6 d6 i s q v6 only0 _ HA6.out (by have := HN1.out.2.2.2.2; omega) (only0_lt HB6.out)).mono ?_
              rintro e w' ⟨rfl, l7, d7, v7, rfl, hA, hK⟩
              have HN2 := Lib.hid (HN1.out.2.next HS2.out)
              rw [HN2.out.1]
              have HA7 := Lib.hid hA
              have HB7 := Lib.hid (only0_kp HB6.out hK)
              clear hA hK
              go_wp2
              go_roundw
              case rel => exact ⟨j + 1, l7, d7, v7, _, by omega, by go_num, rfl, HA7, Lib.hid HN2.out.2, HB7⟩
              case measure => simp [intOf]; omega
            · obtain rfl : j = 5 := by omega
              go_wp2_with fail
              refine (down2_any w l5 _ i s q v5 only0 _ HA.out).mono ?_
              rintro e w' ⟨rfl, rfl⟩
              rw [HN.out.1]
              go_wp2
              go_ret
              exact ⟨rfl, Grows.of _ _ _⟩
      · have hf1 : (a == (kk : Int) + 1) = false := by rw [beq_eq_false_iff_ne]; exact hf
        have hf2 : (a != (kk : Int) + 1) = true := by simp [bne, hf1]
        have HF := Lib.hid hf
        clear hf
        cases b with
        | true =>
          go_wp2_with fail
          refine (flush_any w l d i s q vw only0 _ HA.out (by have := HL.out.2.2.1; omega) (only0_lt HB.out)).mono ?_
          rintro e w' ⟨rfl, l3, d3, v3, rfl, hA, hK⟩
          have HS := Lib.hid (flush_step HL.out.cat0 HL.out.1)
          have HA3 := Lib.hid hA
          have HB3 := Lib.hid (only0_kp HB.out hK)
          rw [(HS.out.calm (fun e => HF.out (HL.out.fires.1 e))).1]
          clear hA hK hl0
          have hl3 := HB3.out
          have HD : Hid (∀ d, Calls Try.prog 22 #[.pointer (some ⟨w.heap.size + i, 0, none⟩)] (Wd w l3 d) fun e w' => e = .returned (.bool false) ∧ w' = Wd w l3 d) := Lib.hid fun d => by
            have h := down2_any w l3 d i s q v3 only0 _ HA3.out
            rwa [(HS.out.calm (fun e => HF.out (HL.out.fires.1 e))).2] at h
          have HN := Lib.hid (HL.out.next HS.out HF.out)
          go_wp2
          refine wp_region_read (by kernel_rfl) (by kernel_rfl) ?_
          repeat (first | still_step | still_call (HD.out _))
          refine wpStill_nil ?_
          go_wp2_with fail
          refine (HD.out _).mono ?_
          rintro e w' ⟨rfl, rfl⟩
          go_wp2
          go_roundw
          case rel => exact ⟨kk + 1, l3, _, v3, _, by omega, by go_num, rfl, HA3, HN, HB3⟩
          case measure => simp [intOf]; omega
        | false =>
          go_wp2_with fail
          refine (write_any w l d i s q vw only0 _ (r : Int) sX HA.out (by have := HL.out.2.2.1; omega) (only0_lt HB.out)).mono ?_
          rintro e w' ⟨rfl, l3, d3, v3, rfl, hA, hK⟩
          have HS := Lib.hid (write_step (s := bys sX) HL.out.cat0 HL.out.1 (by rw [HL.out.2.1]; exact HR.out) (by decide))
          have HA3 := Lib.hid hA
          have HB3 := Lib.hid (only0_kp HB.out hK)
          rw [(HS.out.calm (fun e => HF.out (HL.out.fires.1 e))).1]
          clear hA hK hl0
          have hl3 := HB3.out
          have HD : Hid (∀ d, Calls Try.prog 22 #[.pointer (some ⟨w.heap.size + i, 0, none⟩)] (Wd w l3 d) fun e w' => e = .returned (.bool false) ∧ w' = Wd w l3 d) := Lib.hid fun d => by
            have h := down2_any w l3 d i s q v3 only0 _ HA3.out
            rwa [(HS.out.calm (fun e => HF.out (HL.out.fires.1 e))).2] at h
          have HN := Lib.hid (HL.out.next HS.out HF.out)
          go_wp2
          refine wp_region_read (by kernel_rfl) (by kernel_rfl) ?_
          repeat (first | still_step | still_call (HD.out _))
          refine wpStill_nil ?_
          go_wp2_with fail
          refine (HD.out _).mono ?_
          rintro e w' ⟨rfl, rfl⟩
          go_wp2
          go_roundw
          case rel => exact ⟨kk + 1, l3, _, v3, _, by omega, by go_num, rfl, HA3, HN, HB3⟩
          case measure => simp [intOf]; omega
    · obtain rfl : kk = n := by omega
      go_wp2
      go_ret
      exact ⟨rfl, Grows.of _ _ _⟩
end Go.Proofs.Ytafbphgfdnmilaa
