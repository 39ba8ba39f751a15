/- The walk of DiskLasts. No condition. -/
import Derived.Test.YtafbphgfdnmilaaM1
namespace Go.Proofs.Ytafbphgfdnmilaa
open Go.RowKit Go.Own

def FewOk (L : List Ac) : Prop := L.length ≤ 200 ∧ ∀ x ∈ L, okA x
set_option maxRecDepth 100000 in
theorem lasts_few1 (A : List Ac) (va vb : Value) (k : Nat) (t : Int) (w : World) (hA : Acts w va A) (hno : ¬ FewOk A) :
    Calls Try.prog 4 #[va, vb, .int .u64 (k : Int), .int .i64 t] w fun e w' => e = .returned (.bool true) ∧ Grows w w' := by
  refine calls_wd ?_
  go_enter Try.func4, Try.ntmps4
  go_wp2_with fail
  refine (awake_any _).mono ?_
  rintro e w' ⟨rfl, g, d, rfl⟩
  rw [Wd_wd]
  go_wp2_with fail
  refine (few_no A va w _ _ hA hno).mono ?_
  rintro e w' ⟨rfl, rfl⟩
  go_wp2
  go_ret
  exact ⟨rfl, Grows.of _ _ _⟩
set_option maxRecDepth 100000 in
theorem lasts_few2 (A B : List Ac) (va vb : Value) (k : Nat) (t : Int) (w : World) (hA : Acts w va A) (hB : Acts w vb B) (hyes : FewOk A) (hno : ¬ FewOk B) :
    Calls Try.prog 4 #[va, vb, .int .u64 (k : Int), .int .i64 t] w fun e w' => e = .returned (.bool true) ∧ Grows w w' := by
  refine calls_wd ?_
  go_enter Try.func4, Try.ntmps4
  go_wp2_with fail
  refine (awake_any _).mono ?_
  rintro e w' ⟨rfl, g, d, rfl⟩
  rw [Wd_wd]
  go_wp2_with fail
  refine (few_yes A va w _ _ hA hyes.1 hyes.2).mono ?_
  rintro e w' ⟨rfl, rfl⟩
  go_wp2_with fail
  refine (few_no B vb w _ _ hB hno).mono ?_
  rintro e w' ⟨rfl, rfl⟩
  go_wp2
  go_ret
  exact ⟨rfl, Grows.of _ _ _⟩
theorem read_back {M : Dk} {c a : Nat} {y : List Nat} (hq : Quiet c M) (hok : M.Ok) (ha : a < 4) (hy : y.length = 64) : (M.waited a y).read (a : Int) = (y, 0) := by
  have hr : refE (M.waited a y).off (M.waited a y).n (a : Int) = 0 := by
    show refE M.off M.n _ = 0
    unfold refE
    rw [if_neg (by rw [hq.off]; simp), if_neg (by rw [hq.n]; omega)]
  unfold Dk.read
  rw [if_pos hr]
  show (sec (spl M.seen (a * 64) y) ((a : Int).toNat), 0) = _
  rw [Int.toNat_natCast, sec_spl hok.seenL (by rw [hq.n]; exact ha) hy]
attribute [local go_sem] bs29 ldM stM z56 z38 al38 al56 ldA ldA0 ldA1 ldA2 stA ixS set_same app_left set_left at_mid' set_mid'
set_option maxRecDepth 100000 in
set_option maxHeartbeats 4000000 in
theorem lasts_any (A B : List Ac) (va vb : Value) (k : Nat) (t : Int) (w : World) (hA : Acts w va A) (hB : Acts w vb B) (hfA : FewOk A) (hfB : FewOk B) :
    Calls Try.prog 4 #[va, vb, .int .u64 (k : Int), .int .i64 t] w fun e w' => e = .returned (.bool true) ∧ Grows w w' := by
  have HA := Lib.hid hA
  have HB := Lib.hid hB
  obtain ⟨pa, capa, rfl, hPA⟩ := hA
  obtain ⟨pb, capb, rfl, hPB⟩ := hB
  obtain ⟨na, hna⟩ : ∃ n, A.length = n := ⟨_, rfl⟩
  obtain ⟨nb, hnb⟩ : ∃ n, B.length = n := ⟨_, rfl⟩
  rw [hna, hnb]
  rw [hna] at HA
  rw [hnb] at HB
  have HFA := Lib.hid hfA
  have HFB := Lib.hid hfB
  have HPA := Lib.hid hPA
  have HPB := Lib.hid hPB
  have ha200 : na ≤ 200 := by rw [← hna]; exact hfA.1
  have hb200 : nb ≤ 200 := by rw [← hnb]; exact hfB.1
  have HNA := Lib.hid hna
  have HNB := Lib.hid hnb
  clear hfA hfB hPA hPB hna hnb
  refine calls_wd ?_
  go_enter Try.func4, Try.ntmps4
  go_wp2_with fail
  refine (awake_any _).mono ?_
  rintro e w' ⟨rfl, g, d, rfl⟩
  rw [Wd_wd]
  go_wp2_with fail
  refine (few_yes A _ w _ _ HA.out HFA.out.1 HFA.out.2).mono ?_
  rintro e w' ⟨rfl, rfl⟩
  go_wp2_with fail
  refine (few_yes B _ w _ _ HB.out HFB.out.1 HFB.out.2).mono ?_
  rintro e w' ⟨rfl, rfl⟩
  clear HA HB
  go_wp2_with fail
  refine (new_any w _ _ 4 (by decide) (by decide) none0 (no0 _)).mono ?_
  rintro e w' ⟨i, s, q, l1, d1, v1, rfl, rfl, hA, -⟩
  have HA1 := Lib.hid hA
  clear hA
  go_wp2
  go_loopw [11] (fun x wr => ∃ (kk : Nat) (l : List Obj) (d : Nat) (vw : Value) (M : Dk), kk ≤ na ∧ x = .int .i64 kk ∧ wr = Wd w l d ∧ Hid (DAt w l i s q vw none0 M) ∧ Hid (Quiet kk M)) (fun x _ => na - (intOf x).toNat)
  case atStart => exact ⟨0, l1, _, v1, _, by omega, rfl, rfl, HA1, Lib.hid newK_quiet⟩
  case round =>
    clear HA1
    obtain ⟨kk, l, d, vw, M, hkk, rfl, rfl, HA, HQ⟩ := hrel
    by_cases hlt : kk < na
    · obtain ⟨x, hx⟩ : ∃ x, A[kk]? = some x := ⟨A[kk]'(by rw [HNA.out]; exact hlt), List.getElem?_eq_getElem _⟩
      obtain ⟨_, _, ga, oa, C, tt, f, rfl, hb, hs, hE⟩ := HPA.out kk x hx
      have hR := Reads.mk' hb hs hE
      have r1 := hR.blk
      have r2 := hR.data
      have r3 := hR.kind
      have r4 := hR.at_
      clear hx hb hs hE hR
      by_cases hk0 : x.kind = 0
      · have hk0' : (x.kind == 0) = true := by rw [beq_iff_eq]; exact hk0
        clear hk0
        go_wp2
        refine wp_region_tail 11 (by kernel_rfl) (by kernel_rfl) ?_
        simp only [List.take_succ_cons, List.take_zero, List.drop_succ_cons, List.drop_zero]
        repeat still_step
        refine wpStill_nil ?_
        go_wp2_with fail
        refine (write_any w l _ i s q vw none0 M x.at_ x.data HA.out (by have := HQ.out.count; omega) (no0 _)).mono ?_
        rintro e w' ⟨rfl, l3, d3, v3, rfl, hA, -⟩
        have HA3 := Lib.hid hA
        have HQ3 := Lib.hid (HQ.out.write x.at_ (bys x.data))
        clear hA
        go_wp2
        go_roundw
        case rel => exact ⟨kk + 1, l3, _, v3, _, by omega, by go_num, rfl, HA3, HQ3⟩
        case measure => simp [intOf]; omega
      · have hk0' : (x.kind == 0) = false := by rw [beq_eq_false_iff_ne]; exact hk0
        clear hk0
        go_wp2
        go_roundw
        case rel => exact ⟨kk + 1, l, _, vw, M, by omega, by go_num, rfl, HA, Lib.hid ⟨HQ.out.off, HQ.out.n, HQ.out.cat, by have := HQ.out.count; omega⟩⟩
        case measure => simp [intOf]; omega
    · obtain rfl : kk = na := by omega
      clear HPA HFA HNA
      go_wp2_with fail
      refine (flush_any w l _ i s q vw none0 M HA.out (by have := HQ.out.count; omega) (no0 _)).mono ?_
      rintro e w' ⟨rfl, l3, d3, v3, rfl, hA, -⟩
      rw [HQ.out.flush] at hA ⊢
      have HA3 := Lib.hid hA
      have HQ3 := Lib.hid HQ.out.flushed
      clear hA HA HQ
      go_wp2_with fail
      refine (image_any w l3 _ i s q v3 none0 _ HA3.out).mono ?_
      rintro e w' ⟨rfl, g5, d5, rfl⟩
      have HA5 := Lib.hid (HA3.out.app g5)
      obtain ⟨U, hU⟩ : ∃ U, M.flushed.last = U := ⟨_, rfl⟩
      have HS5 : Hid (Seen M.flushed U (fun _ => [])) := Lib.hid ⟨hU, fun p hp => by simp [Dk.flushed] at hp, fun a s hs => by simp at hs⟩
      have HUL : Hid (U.length = 256) := Lib.hid (by rw [← hU, HA3.out.ok.lastL, HQ3.out.n])
      have HUB : Hid (B8 U) := Lib.hid (by rw [← hU]; exact HA3.out.ok.lastB)
      have hU2 : M.flushed.last = U := hU
      rw [hU2]
      clear hU hU2 HA3
      generalize M.flushed = M5 at *
      generalize l3 ++ g5 = l5 at *
      go_wp2
      obtain ⟨mb, hmb⟩ : ∃ m, l5.length = m := ⟨_, rfl⟩
      rw [hmb]
      have hM6 : (l5 ++ [Obj.cells (m4 mv0) 56 (0, 0)])[mb]? = some (.cells (m4 mv0) 56 (0, 0)) := at_mid' hmb
      have HM6 := Lib.hid (may0 (w := w) (O := onlyAt mb) hM6 rfl)
      have HO6 := Lib.hid (onlyAt_lt hM6)
      have HA6 : Hid (DAt w (l5 ++ [Obj.cells (m4 mv0) 56 (0, 0)]) i s q v3 (onlyAt mb) M5) := Lib.hid (HA5.out.keep fun p _ hp => ⟨fun h => by have : p = mb := h; omega, List.getElem?_append_left hp⟩)
      clear hM6 HA5
      generalize l5 ++ [Obj.cells (m4 mv0) 56 (0, 0)] = l6 at *
      clear hmb
      go_loopw [14] (fun x wr => ∃ (kk : Nat) (l : List Obj) (d : Nat) (vw : Value) (M : Dk) (O : Nat → Prop) (tag : Nat → Nat) (mv : Nat → Value) (ms : Nat → List ByteArray), kk ≤ nb ∧ x = .int .i64 kk ∧ wr = Wd w l d ∧ Hid (∀ p, O p → p < l.length) ∧ Hid (DAt w l i s q vw O M) ∧ Hid (Quiet kk M) ∧ Hid (Seen M U ms) ∧ Hid (May w l mb O tag mv ms) ∧ Hid (∀ a, (ms a).length ≤ kk)) (fun x _ => nb - (intOf x).toNat)
      case atStart => exact ⟨0, l6, _, v3, M5, onlyAt mb, fun _ => 0, mv0, fun _ => [], by omega, rfl, rfl, HO6, HA6, HQ3, HS5, HM6, Lib.hid fun a => Nat.le_refl _⟩
      case round =>
        clear HO6 HA6 HQ3 HS5 HM6
        obtain ⟨kb, l, d, vw, M, O, tag, mv, ms, hkb, rfl, rfl, HO, HA, HQ, HS, HM, HN⟩ := hrel
        by_cases hlt : kb < nb
        · obtain ⟨x, hx⟩ : ∃ x, B[kb]? = some x := ⟨B[kb]'(by rw [HNB.out]; exact hlt), List.getElem?_eq_getElem _⟩
          obtain ⟨_, _, gb, ob, C, tt, f, rfl, hb, hs, hE⟩ := HPB.out kb x hx
          have hR := Reads.mk' hb hs hE
          have r1 := hR.blk
          have r2 := hR.all
          clear hx hb hs hE hR
          have HL1 := Lib.hid (show l.length ≤ (l ++ [Obj.cells (ac x) 38 (0, 0)]).length by simp)
          have HO1 := Lib.hid (Omore_lt HO.out HL1.out)
          have HA1 := Lib.hid (HA.out.push (l' := l ++ [Obj.cells (ac x) 38 (0, 0)]) fun p hp _ => List.getElem?_append_left hp)
          have HM1 := Lib.hid (HM.out.more [Obj.cells (ac x) 38 (0, 0)])
          have HTAG := Lib.hid (tagMore_new tag l 4)
          generalize tagMore tag l 4 = tag1 at *
          have HX1 : Hid ((l ++ [Obj.cells (ac x) 38 (0, 0)])[l.length]? = some (.cells (ac x) 38 (0, 0))) := Lib.hid (at_mid' rfl)
          have HOX : Hid (Omore O l (l ++ [Obj.cells (ac x) 38 (0, 0)]) l.length) := Lib.hid (.inr ⟨Nat.le_refl _, by simp⟩)
          by_cases hk0 : x.kind = 0
          · have hk0' : (x.kind == 0) = true := by rw [beq_iff_eq]; exact hk0
            clear hk0
            by_cases hgood : refE M.off M.n x.at_ = 0 ∧ (bys x.data).length ≤ 64
            · obtain ⟨_, a, hat, han⟩ := refE_ok hgood.1
              rw [HQ.out.n] at han
              have hai : (a : Int) < 4 := by omega
              have hyl : (filL (bys x.data)).length = 64 := filL_length hgood.2
              have hwr := HQ.out.good hgood.1 hgood.2
              rw [hat, Int.toNat_natCast] at hwr
              have HW := Lib.hid hwr
              clear hwr hgood
              obtain ⟨y, hy⟩ : ∃ y, filL (bys x.data) = y := ⟨_, rfl⟩
              rw [hy] at HW hyl
              clear hy
              have HYL := Lib.hid hyl
              have HRB := Lib.hid (read_back HQ.out HA.out.ok han hyl)
              have HS2 := Lib.hid (HS.out.next a hyl)
              have HQ2 := Lib.hid (HQ.out.waited a y)
              have HAN := Lib.hid han
              clear hyl
              go_wp2_with fail
              refine (write_any w _ _ i s q vw _ M (a : Int) x.data HA1.out (by have := HQ.out.count; omega) HO1.out).mono ?_
              rintro e w' ⟨rfl, l2, d2, v2, rfl, hA, hK⟩
              rw [HW.out] at hA ⊢
              have HA2 := Lib.hid hA
              have HM2 := Lib.hid (HM1.out.kp hK)
              have HO2 := Lib.hid (fun p hp => Nat.lt_of_lt_of_le (HO1.out p hp) hK.1)
              have HX2 : Hid (l2[l.length]? = some (.cells (ac x) 38 (0, 0))) := Lib.hid (by rw [hK.2 _ HOX.out (List.getElem?_eq_some_iff.1 HX1.out).1]; exact HX1.out)
              generalize Omore O l (l ++ [Obj.cells (ac x) 38 (0, 0)]) = O1 at *
              clear hA hK HA1 HM1 HO1 HX1 HOX HA HM HO HL1
              have hX2 := HX2.out
              have hmb := HM2.out.blk
              go_wp2_with fail
              refine (read_any w l2 _ i s q v2 O1 _ (a : Int) HA2.out).mono ?_
              rintro e w' ⟨rfl, rfl⟩
              rw [HRB.out]
              have HROW : Hid (RowV (Arow O1 l2 mb tag1 a) w l2 1 (ms a).length (mv a) ((ms a).map Value.string)) := Lib.hid ((HM2.out.rows a han).mono fun p hp _ => ⟨fun _ => hp, rfl⟩)
              have HB1 := Lib.hid (show (ms a).length + 1 ≤ 1048576 by have := HN.out a; omega)
              obtain ⟨T, hT⟩ : ∃ T, mkS y = T := ⟨_, rfl⟩
              have HT := Lib.hid hT
              rw [show (mkS ((y, 0) : List Nat × Nat).1) = T from hT]
              clear hT
              have HS3 : Hid (Seen (M.waited a y) U (upd ms a (ms a ++ [T]))) := Lib.hid (by rw [← HT.out]; exact HS2.out)
              have HN3 : Hid (∀ b, (upd ms a (ms a ++ [T]) b).length ≤ kb + 1) := Lib.hid fun b => by
                by_cases hba : b = a
                · subst hba; rw [upd_same, List.length_append, List.length_singleton]; have := HN.out b; omega
                · rw [upd_other _ _ hba]; have := HN.out b; omega
              go_wp2
              go_region_law (refine step_row rfl (.tmp 105) (.tmp 107) 29 9 rfl rt29 (A := Arow O1 l2 mb tag1 a) (B := fun _ => True) (fun p hp h => absurd h (by simp at hp; omega)) (mv a) (ms a).length ((ms a).map Value.string) rfl (HROW.out.more _) (.slice (some ⟨w.heap.size + l2.length, 0, none⟩) 1 1) 1 [.string T] rfl (.inr ⟨l2.length, 1, [.string T], 9, trivial, rfl, at_mid' rfl, rfl, by decide, rfl⟩) (by intro u hu; obtain rfl := List.mem_singleton.1 hu; rfl) HB1.out ?_; intro v' l' d' H1 H2 H3; have hv1 := RowV.one H1.out; have hl1 := (H3.out mb (List.getElem?_eq_some_iff.1 (app_some hmb)).1 (RowV.notAt (HM2.out.rows a HAN.out) (fun h => h.2.1 rfl))).trans (app_some hmb); have hl2 := (H3.out l.length (List.getElem?_eq_some_iff.1 (app_some hX2)).1 (RowV.notAt (HM2.out.rows a HAN.out) (fun h => by have := h.2.2; have := HTAG.out; have := HAN.out; omega))).trans (app_some hX2))
              all_goals
                have HP := Lib.hid (HM2.out.push HAN.out (s := T) H1.out H2.out H3.out (fun p hp => List.getElem?_append_left hp) (by simp))
                have HO3 := Lib.hid (Omore_lt HO2.out HP.out.2.2)
                have HA3 := Lib.hid (HA2.out.push fun p hp hno => HP.out.2.1 p hp (fun e => hno (e ▸ HM2.out.own)) (fun h => hno h.1))
                have HM3 := Lib.hid HP.out.1
                clear hX2 hmb HP
                go_wp2
                go_roundw
                case rel => exact ⟨kb + 1, _, _, v2, _, _, _, _, _, by omega, by go_num, rfl, HO3, HA3, HQ2, HS3, HM3, HN3⟩
                case measure => simp [intOf]; omega
            · have HBAD := Lib.hid (HQ.out.bad hgood)
              clear hgood
              go_wp2_with fail
              refine (write_any w _ _ i s q vw _ M x.at_ x.data HA1.out (by have := HQ.out.count; omega) HO1.out).mono ?_
              rintro e w' ⟨rfl, l2, d2, v2, rfl, hA, hK⟩
              rw [HBAD.out.1] at hA
              have HA2 := Lib.hid hA
              have HM2 := Lib.hid (HM1.out.kp hK)
              have HO2 := Lib.hid (fun p hp => Nat.lt_of_lt_of_le (HO1.out p hp) hK.1)
              clear hA hK
              obtain ⟨c, hc⟩ : ∃ c, (M.write x.at_ (bys x.data)).2 = c := ⟨_, rfl⟩
              have hcb : ((c : Int) == 0) = false := by rw [beq_eq_false_iff_ne]; have := HBAD.out.2; omega
              rw [hc]
              clear hc HBAD
              go_wp2
              go_roundw
              case rel => exact ⟨kb + 1, l2, _, v2, M, _, tag1, mv, ms, by omega, by go_num, rfl, HO2, HA2, Lib.hid ⟨HQ.out.off, HQ.out.n, HQ.out.cat, by have := HQ.out.count; omega⟩, HS, HM2, Lib.hid fun a => by have := HN.out a; omega⟩
              case measure => simp [intOf]; omega
          · have hk0' : (x.kind == 0) = false := by rw [beq_eq_false_iff_ne]; exact hk0
            clear hk0
            go_wp2
            go_roundw
            case rel => exact ⟨kb + 1, _, _, vw, M, _, tag1, mv, ms, by omega, by go_num, rfl, HO1, HA1, Lib.hid ⟨HQ.out.off, HQ.out.n, HQ.out.cat, by have := HQ.out.count; omega⟩, HS, HM1, Lib.hid fun a => by have := HN.out a; omega⟩
            case measure => simp [intOf]; omega
        · obtain rfl : kb = nb := by omega
          clear HPB HFB HNB
          have HOD := HO.out
          go_wp2_with fail
          refine (image_any w l _ i s q vw O M HA.out).mono ?_
          rintro e w' ⟨rfl, g6, d6, rfl⟩
          rw [HS.out.last]
          have HO1 := Lib.hid (Omore_lt HO.out (show l.length ≤ (l ++ g6).length by simp))
          have HA1 := Lib.hid (HA.out.push (l' := l ++ g6) fun p hp _ => List.getElem?_append_left hp)
          have HM1 := Lib.hid (HM.out.more g6)
          clear HOD HA HM HO
          generalize Omore O l (l ++ g6) = O1 at *
          generalize tagMore tag l 4 = tag1 at *
          generalize l ++ g6 = l7 at *
          go_wp2_with fail
          refine (crash_any w l7 _ i s q vw O1 M k t HA1.out (by have := HQ.out.count; omega) HO1.out).mono ?_
          rintro e w' ⟨rfl, l8, d8, v8, rfl, hA, hK⟩
          have HA8 := Lib.hid hA
          have HM8 := Lib.hid (HM1.out.kp hK)
          have HOK := Lib.hid (fun a b ha hb => okB_all HS.out HQ.out HA1.out.ok k t (a := a) (b := b) ha hb)
          have HSZ := Lib.hid HS.out.size
          clear hA hK
          go_wp2_with fail
          refine (image_any w l8 _ i s q v8 O1 _ HA8.out).mono ?_
          rintro e w' ⟨rfl, g9, d9, rfl⟩
          have HM9 := Lib.hid (HM8.out.more g9)
          have HSL : Hid ((M.crash k t).last.length = 256) := Lib.hid (by
            have h := HA8.out.ok.lastL
            have e : (M.crash k t).n = 4 := by unfold Dk.crash; split <;> exact HQ.out.n
            rw [e] at h
            exact h)
          have HSB := Lib.hid HA8.out.ok.lastB
          obtain ⟨S, hS⟩ : ∃ S, (M.crash k t).last = S := ⟨_, rfl⟩
          simp only [hS] at HOK HSL HSB ⊢
          clear hS HA8 HM8 HA1 HM1 HO1 HS HQ
          generalize Omore O1 l8 (l8 ++ g9) = O9 at *
          generalize tagMore tag1 l8 4 = tag9 at *
          generalize l8 ++ g9 = l9 at *
          have hM9 := HM9.out.blk
          have hSs : (mkS S).size = 256 := by rw [mkS_size]; exact HSL.out
          have hUs : (mkS U).size = 256 := by rw [mkS_size]; exact HUL.out
          go_wp2
          go_loopw [19] (fun x wr => ∃ (p d : Nat), p ≤ 256 ∧ x = .int .i64 p ∧ wr = Wd w l9 d) (fun x _ => 256 - (intOf x).toNat)
          case atStart => exact ⟨0, _, by omega, rfl, rfl⟩
          case round =>
            obtain ⟨p, d, hp, rfl, rfl⟩ := hrel
            by_cases hp256 : p < 256
            · obtain ⟨a, ha⟩ : ∃ a, p / 64 = a := ⟨_, rfl⟩
              obtain ⟨b, hb⟩ : ∃ b, p % 64 = b := ⟨_, rfl⟩
              have hpe : a * 64 + b = p := by omega
              have ha4 : a < 4 := by omega
              have hb64 : b < 64 := by omega
              have d1 : (p : Int) / 64 = a := by omega
              have d2 : (p : Int).tdiv 64 = a := by rw [Int.tdiv_eq_ediv_of_nonneg (by omega)]; exact d1
              have d3 : (p : Int) % 64 = b := by omega
              have d4 : (p : Int).tmod 64 = b := by rw [Int.tmod_eq_emod_of_nonneg (by omega)]; exact d3
              have hix : ∀ kk W, (ixN 9 (.string (mkS S)) (.int kk (p : Int))).run Try.prog W = .ok (.int .u8 ((gi S p : Nat) : Int)) W := fun kk W => ixM S HSB.out kk _ W (by rw [HSL.out]; exact hp256)
              have hiy : ∀ kk W, (ixN 9 (.string (mkS U)) (.int kk (p : Int))).run Try.prog W = .ok (.int .u8 ((gi U p : Nat) : Int)) W := fun kk W => ixM U HUB.out kk _ W (by rw [HUL.out]; exact hp256)
              have hfin := HOK.out a b ha4 hb64
              rw [hpe] at hfin
              obtain ⟨X, hX⟩ : ∃ X, gi S p = X := ⟨_, rfl⟩
              obtain ⟨Y, hY⟩ : ∃ Y, gi U p = Y := ⟨_, rfl⟩
              rw [hX] at hix
              rw [hY] at hiy
              rw [hX, hY] at hfin
              have HF := Lib.hid hfin
              have hrow := HM9.out.rows a ha4
              have hsz := HSZ.out a
              have hai : (a : Int) < 4 := by omega
              obtain ⟨ss, hss⟩ : ∃ ss, ms a = ss := ⟨_, rfl⟩
              rw [hss] at hrow hsz HF
              obtain ⟨m, hm⟩ : ∃ m, ss.length = m := ⟨_, rfl⟩
              rw [hm] at hrow HF
              have HMS : Hid (m ≤ 200) := Lib.hid (by have := HN.out a; rw [hss, hm] at this; omega)
              have HMM := Lib.hid hm
              have HSZA := Lib.hid hsz
              have HB64 := Lib.hid hb64
              clear hfin hX hY ha hb hpe hss hm hsz hb64
              have hb0 : ((X : Int) == (Y : Int)) = okB X Y b ss 0 := by
                show _ = decide (X = Y)
                by_cases h : X = Y
                · subst h; simp
                · rw [decide_eq_false h, beq_eq_false_iff_ne]; omega
              have hrow2 : ∃ po c, mv a = .slice po m c ∧ ∀ j, j < m → ∃ i' Z tz, po = some ⟨w.heap.size + i', 0, none⟩ ∧ l9[i']? = some (.cells (List.toArray Z) tz (0, 0)) ∧ ∀ s, ss[j]? = some s → (List.toArray Z)[j]? = some (.string s) := by
                rcases hrow with ⟨h1, h2, h3⟩ | ⟨i', c, Z, tz, _, h1, h2, h3, h4, h5⟩
                · exact ⟨none, 0, by rw [h1, h2], fun j hj => by omega⟩
                · refine ⟨_, c, h1, fun j hj => ⟨i', Z, tz, rfl, h2, fun s hs => ?_⟩⟩
                  rw [List.getElem?_toArray]
                  have : (Z.take (m * 1))[j]? = some (.string s) := by rw [h5, List.getElem?_map, hs]; rfl
                  rwa [List.getElem?_take_of_lt (by omega)] at this
              obtain ⟨po, c, hmv, hpo⟩ := hrow2
              have HPO := Lib.hid hpo
              have hm200 := HMS.out
              clear hrow hpo
              go_wp2
              refine wp_region_read (by kernel_rfl) (by kernel_rfl) ?_
              repeat still_step
              refine wpStill_nil ?_
              go_wp2
              go_loopw [20, 21] (fun v x wr => ∃ (j d : Nat), j ≤ m ∧ x = .int .i64 j ∧ v = .bool (okB X Y b ss j) ∧ wr = Wd w l9 d) (fun _ x _ => m - (intOf x).toNat)
              case atStart => exact ⟨0, _, by omega, rfl, rfl, rfl⟩
              case round =>
                obtain ⟨j, d, hj, rfl, rfl, rfl⟩ := hrel
                clear hb0
                by_cases hjm : j < m
                · obtain ⟨s1, hs1⟩ : ∃ s1, ss[j]? = some s1 := ⟨ss[j]'(by rw [HMM.out]; exact hjm), List.getElem?_eq_getElem _⟩
                  obtain ⟨i', Z, tz, rfl, hl9, hZ⟩ := HPO.out j hjm
                  have hbk : ∀ d, blk (Wd w l9 d) (w.heap.size + i') = some (.cells (List.toArray Z) tz (0, 0)) := fun d => by rw [blk_at]; exact hl9
                  have hld : ∀ d, ldX Try.prog 9 none (some (.cells (List.toArray Z) tz (0, 0))) (w.heap.size + i') j (Wd w l9 d) = .ok (.string s1) (Wd w l9 d) := fun d => ldX_mix1 (isa9 _) (hbk d) (hZ s1 hs1)
                  have hs64 := HSZA.out s1 (List.mem_of_getElem? hs1)
                  have hiz : ∀ kk W, (ixN 9 (.string s1) (.int kk (b : Int))).run Try.prog W = .ok (.int .u8 ((gi (bys s1) b : Nat) : Int)) W := fun kk W => ixS s1 kk b W (by rw [hs64]; exact HB64.out)
                  obtain ⟨Zb, hZb⟩ : ∃ z, gi (bys s1) b = z := ⟨_, rfl⟩
                  rw [hZb] at hiz
                  have HST : Hid (okB X Y b ss (j + 1) = (okB X Y b ss j || decide (X = Zb))) := Lib.hid (by
                    show (okB X Y b ss j || decide (X = gi (bys (ss.getD j ByteArray.empty)) b)) = _
                    rw [List.getD_eq_getElem?_getD, hs1, ← hZb]; rfl)
                  clear hZ hs1 hZb hs64
                  cases hok : okB X Y b ss j with
                  | true =>
                    rw [hok] at HST
                    have HOK1 := Lib.hid hok
                    clear hok
                    go_wp2
                    refine wp_region_drew_all (by kernel_rfl) (by kernel_rfl) ?_
                    repeat (go_big_quiet_step (fail))
                    refine wpQuiet_nil ?_
                    intro eR
                    go_wp2
                    go_roundw
                    case rel => exact ⟨j + 1, _, by omega, by go_num, by rw [HST.out]; rfl, rfl⟩
                    case measure => simp [intOf]; omega
                  | false =>
                    rw [hok] at HST
                    clear hok
                    have hbz : ((X : Int) == (Zb : Int)) = decide (X = Zb) := by
                      by_cases h : X = Zb
                      · subst h; simp
                      · rw [decide_eq_false h, beq_eq_false_iff_ne]; omega
                    go_wp2
                    refine wp_region_drew_all (by kernel_rfl) (by kernel_rfl) ?_
                    repeat (go_big_quiet_step (fail))
                    refine wpQuiet_nil ?_
                    intro eR
                    go_wp2
                    go_roundw
                    case rel => exact ⟨j + 1, _, by omega, by go_num, by rw [HST.out, Bool.false_or], rfl⟩
                    case measure => simp [intOf]; omega
                · obtain rfl : j = m := by omega
                  rw [HF.out.1]
                  by_cases hk0 : k = 0
                  · have hXY := HF.out.2 hk0
                    have hk1 : ((k : Int) == 0) = true := by rw [beq_iff_eq]; omega
                    clear hk0
                    subst hXY
                    go_wp2
                    refine wp_region_drew_all (by kernel_rfl) (by kernel_rfl) ?_
                    repeat (go_big_quiet_step (fail))
                    refine wpQuiet_nil ?_
                    intro eR
                    go_wp2
                    go_roundw
                    case rel => exact ⟨p + 1, _, by omega, by go_num, rfl⟩
                    case measure => simp [intOf]; omega
                  · have hk1 : ((k : Int) == 0) = false := by rw [beq_eq_false_iff_ne]; omega
                    clear hk0
                    go_wp2
                    refine wp_region_drew_all (by kernel_rfl) (by kernel_rfl) ?_
                    repeat (go_big_quiet_step (fail))
                    refine wpQuiet_nil ?_
                    intro eR
                    go_wp2
                    go_roundw
                    case rel => exact ⟨p + 1, _, by omega, by go_num, rfl⟩
                    case measure => simp [intOf]; omega
            · obtain rfl : p = 256 := by omega
              go_wp2
              go_ret
              exact ⟨rfl, Grows.of _ _ _⟩
end Go.Proofs.Ytafbphgfdnmilaa
