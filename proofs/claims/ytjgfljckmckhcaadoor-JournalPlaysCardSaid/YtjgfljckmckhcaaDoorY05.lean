/- The journal side by side with the document's, act by act: the law's walk. No condition. -/
import Derived.Test.YtjgfljckmckhcaaDoorY04
namespace Go.Proofs.YtjgfljckmckhcaaDoor
open Go Go.RowKit Go.Own
theorem getD_lit (xs : List Value) (k : Nat) : xs.toArray.getD k undef = xs.getD k undef := by
  rw [Array.getD_eq_getD_getElem?, List.getElem?_toArray, List.getD_eq_getElem?_getD]
/-- Side by side, k acts on. -/
def PlI (w : World) (bx i s q m k jo : Nat) (L : List Obj) : Prop := ∃ P J M md vt, St w P L i s q jo J M ∧ Inv J M ∧ M.count = 0 ∧ J.now.gen ≤ k ∧ M.n = m ∧ Alike J md ∧ P bx ∧ L[bx]? = some (.cells (mc md.half vt md.taken md.gen) 34 (0, 0)) ∧ RowV (fun p => P p ∧ p ≠ bx) w L 1 md.texts.length vt (strs md.texts)
attribute [-go_sem] Sm.execOp_bs run_string_add_if
attribute [local go_sem] agj61 csj61 szj61 agj64 csj64 szj64 agj25 isaj25 csj25 szj25 agj9 isaj9 csj9 szj9 agj32 isaj32 csj32 szj32 bsj32s ldX_mix1 ag42 cs42 sz42 ag34 cs34 sz34 z34 alXA ldMA stMs
set_option maxRecDepth 100000 in
set_option maxHeartbeats 8000000 in
theorem plays_any2 (A : List Ac) (v : Value) (m : Nat) (w : World) (hR : Sm.Roots w) (hA : Acts w v A) (hok : ∀ x ∈ A, AcOk x) (hf : FewOk A) (h8 : 8 ≤ m) (h200 : m ≤ 200) (h2 : m % 2 = 0) :
    Calls Tryd.prog 3 #[.int .i64 (m : Int), v] w fun e w' => e = .returned (.bool true) ∧ Grows w w' := by
  refine calls_wd ?_
  have HFW := Lib.hid fun l d => few_any A v w l d hA hok
  obtain ⟨po, cap, rfl, hP⟩ := hA
  obtain ⟨n, hN⟩ : ∃ n, A.length = n := ⟨_, rfl⟩
  rw [hN] at HFW ⊢
  have HP := Lib.hid hP
  have HN := Lib.hid hN
  have HF := Lib.hid hf
  have HOK := Lib.hid hok
  have hn60 : n ≤ 60 := by rw [← hN]; exact hf.1
  have hO := open_new h8 h2 (by omega : m ≤ 4096)
  have HO := Lib.hid hO
  have h8i : ¬ (m : Int) < 8 := by omega
  have h200i : ¬ (200 : Int) < (m : Int) := by omega
  have hm0 : (m : Int) % 2 = 0 := by omega
  have HM := Lib.hid (And.intro h8 (And.intro h200 h2))
  clear hP hN hf hO hok
  go_enter Tryd.func3, Tryd.ntmps3
  go_wp2_with fail
  refine (awake_any w hR [] _).mono ?_
  rintro e w' ⟨rfl, g1, d1, rfl⟩
  rw [List.nil_append]
  go_wp2_with fail
  refine (HFW.out _ _).mono ?_
  rintro e w' ⟨b, d2, rfl, hb, rfl⟩
  obtain rfl : b = true := hb.2 HF.out
  clear hb HFW
  go_wp2_with fail
  clear h200i h200 h2 h8
  refine (new_st w g1 d2 m (by have := HM.out.1; omega) (by have := HM.out.2.1; omega)).mono ?_
  rintro e w' ⟨i, s, q, g2, d3, rfl, rfl, hs⟩
  have HS := Lib.hid hs
  obtain ⟨L1, hL1⟩ : ∃ L1, g1 ++ g2 = L1 := ⟨_, rfl⟩
  rw [hL1] at HS ⊢
  clear hs hL1
  go_wp2_with fail
  refine (open_st hR HS.out HO.out.2.live HM.out.1 HM.out.2.2 HO.out.1 d3).mono ?_
  rintro e w' ⟨jo, g3, d4, rfl, rfl, hs⟩
  have HT := Lib.hid hs
  obtain ⟨L2, hL2⟩ : ∃ L2, L1 ++ g3 = L2 := ⟨_, rfl⟩
  rw [hL2] at HT ⊢
  clear hs hL2 HS
  go_wp2_with fail
  refine (rnew_any m (by have := HM.out.2.1; omega) w L2 _).mono ?_
  rintro e w' ⟨rfl, g4, d5, rfl⟩
  have HT3 := Lib.hid (HT.out.app g4)
  obtain ⟨L3, hL3⟩ : ∃ L3, L2 ++ g4 = L3 := ⟨_, rfl⟩
  rw [hL3] at HT3 ⊢
  clear hL3 HT h8i hm0
  obtain ⟨hf2, hhf⟩ : ∃ hf2, m / 2 = hf2 := ⟨_, rfl⟩
  rw [hhf]
  have HH := Lib.hid hhf
  clear hhf
  have HI0 : Hid (PlI w L3.length i s q m 0 jo (L3 ++ [.cells (mc hf2 (.slice none 0 0) 0 0) 34 (0, 0)])) := Lib.hid ⟨_, _, _, ⟨m / 2, [], 0, 0⟩, .slice none 0 0, HT3.out.app _, HO.out.2, rfl, Nat.le_refl _, rfl, ⟨rfl, rfl, rfl, rfl⟩, .inr ⟨Nat.le_refl _, by simp⟩, by rw [← HH.out]; simp, .inl ⟨rfl, rfl, rfl⟩⟩
  clear HT3 HH
  go_wp2_with fail
  go_loopw [7, 10] (fun jx ix wr => ∃ (k jo : Nat) (L : List Obj) (d : Nat), k ≤ n ∧ jx = .pointer (some ⟨w.heap.size + jo, 0, none⟩) ∧ ix = .int .i64 (k : Int) ∧ Hid (PlI w L3.length i s q m k jo L) ∧ wr = Wd w L d) (fun _ ix _ => n - (intOf ix).toNat)
  case atStart => exact ⟨0, jo, _, _, Nat.zero_le _, rfl, rfl, HI0, rfl⟩
  case round =>
    clear HI0
    obtain ⟨k, jo, L, d6, hk, rfl, rfl, HI, rfl⟩ := hrel
    obtain ⟨bx, hbx⟩ : ∃ bx, L3.length = bx := ⟨_, rfl⟩
    rw [hbx] at HI ⊢
    by_cases hlt : k < n
    · obtain ⟨x, hx⟩ : ∃ x, A[k]? = some x := ⟨_, List.getElem?_eq_getElem (by rw [HN.out]; exact hlt)⟩
      obtain ⟨htx, g, o, C, t, f, rfl, hb, hs, hE⟩ := HP.out k x hx
      have hRd := Reads.mk' hb hs hE
      have HRB := Lib.hid hRd.blk
      have HRA := Lib.hid hRd.all
      have hki : (k : Int) < n := by omega
      have hLb : x.L.length ≤ 100000 := by
        have h1 := tot_take A k x hx
        have h2 := tot_le A (k + 1)
        have h3 := HF.out.2
        omega
      have HX := Lib.hid (And.intro htx (And.intro (HOK.out x (List.mem_of_getElem? hx)) hLb))
      clear hb hs hE hRd hx htx hLb
      obtain ⟨P, J, M, md, vt, HQ⟩ := HI.out
      have HQ := Lib.hid HQ
      clear HI
      have HMD : Hid (∀ g' d', Calls Tryd.prog 11 #[.agg (mc md.half vt md.taken md.gen), .agg (ac x)] (Wd w (L ++ g') d') fun e w' => ModQ w (fun p => P p ∧ p ≠ bx) (L ++ g') (md.act x) e w') := Lib.hid fun g' d' => by
        obtain ⟨_, q2, _, q4, _, ⟨a1, a2, a3, a4⟩, _, _, q9⟩ := HQ.out
        have hsm := q2.small
        have hgd := q2.good
        have hfew := q2.few
        have hgf := hgd.fits
        exact model_any w (L ++ g') d' _ md vt (q9.more g') x HX.out.1 HX.out.2.1 HX.out.2.2 (by rw [a1]; omega) (by rw [a1, a3]; exact hgf) (by rw [a2]; exact Nat.le_trans hfew (by decide)) (by rw [a4]; have := HN.out; have := HF.out.1; omega)
      obtain ⟨r, hr⟩ : ∃ r, md.act x = r := ⟨_, rfl⟩
      rw [hr] at HMD
      have HRR := Lib.hid hr
      have HBX : Hid (L[bx]? = some (.cells (mc md.half vt md.taken md.gen) 34 (0, 0)) ∧ bx < L.length) := Lib.hid ⟨HQ.out.2.2.2.2.2.2.2.1, (List.getElem?_eq_some_iff.1 HQ.out.2.2.2.2.2.2.2.1).1⟩
      clear hr
      go_wp2_with fail
      refine wp_region_fine_store 11 10 (by decide) (fun _ W => ∃ g' d', W = Wd w (L ++ g') d') (fun b => TL [eqv (.agg (mc md.half vt md.taken md.gen)), eqv (.slice (some ⟨g, o, none⟩) n cap), eqv (.int .i64 (k : Int)), eqv (.pointer (some ⟨g, o + k * 6, none⟩)), eqv (.agg (ac x)), mdT w (fun p => (P p ∧ p ≠ bx) ∨ L.length ≤ p) r, mdT w (fun p => (P p ∧ p ≠ bx) ∨ L.length ≤ p) r, mdA w (fun p => (P p ∧ p ≠ bx) ∨ L.length ≤ p) r, eqv (.int .i64 ((r.2 : Nat) : Int)), (if b = true then mdS w (fun p => (P p ∧ p ≠ bx) ∨ L.length ≤ p) L.length r else mdZ w L.length)]) (by kernel_rfl) (by kernel_rfl) (by kernel_rfl) (by kernel_rfl) ⟨[], _, by rw [List.append_nil]; rfl⟩ ?_ ?_ ?_ ?_ ?_
      · rintro b W W' ⟨g', d', rfl⟩ hB
        obtain ⟨g2, d2, rfl⟩ := below_grows hB
        exact ⟨g' ++ g2, d2, by rw [List.append_assoc]⟩
      · intro b ii v W W' hT hB
        refine TL_last (List.forall_mem_cons.2 ⟨eqv_last _, List.forall_mem_cons.2 ⟨eqv_last _, List.forall_mem_cons.2 ⟨eqv_last _, List.forall_mem_cons.2 ⟨eqv_last _, List.forall_mem_cons.2 ⟨eqv_last _, List.forall_mem_cons.2 ⟨mdT_last, List.forall_mem_cons.2 ⟨mdT_last, List.forall_mem_cons.2 ⟨mdA_last, List.forall_mem_cons.2 ⟨eqv_last _, List.forall_mem_cons.2 ⟨?_, fun _ h => (List.not_mem_nil h).elim⟩⟩⟩⟩⟩⟩⟩⟩⟩⟩) ii v W W' hT hB
        cases b with
        | true => exact mdS_last
        | false => exact mdZ_last
      · rintro o0 ho a W ⟨g', d', rfl⟩ hdep hfix Q
        simp only [List.take_succ_cons, List.take_zero, List.getElem?_cons_zero, List.getElem?_cons_succ, Option.some.injEq] at ho hdep hfix
        subst ho
        obtain ⟨v7, L7, d7, hW7, e76, hrow⟩ : mdA w (fun p => (P p ∧ p ≠ bx) ∨ L.length ≤ p) r (a.tmps.getD 76 undef) (Wd w (L ++ g') d') := hdep 7 _ 76 rfl rfl (by decide +kernel)
        obtain ⟨j, L9, d9, hW9, hBj, e11, hj⟩ : mdZ w L.length (a.tmps.getD 11 undef) (Wd w (L ++ g') d') := hdep 9 _ 11 rfl rfl (by decide +kernel)
        obtain rfl := Wd_inj hW7
        obtain rfl := Wd_inj hW9
        obtain ⟨q7, c7, rfl⟩ := hrow.form
        refine store34 e11 e76 hj ⟨rfl, ⟨g'.set (j - L.length) (.cells (mc r.1.half (.slice q7 r.1.texts.length c7) r.1.taken r.1.gen) 34 (0, 0)), d', by rw [List.set_append_right _ _ hBj]⟩, ?_⟩
        intro jj oj s hoj _ hne hs hT
        simp only [List.take_succ_cons, List.take_zero] at hoj
        match jj, hoj with
        | 0, _ => exact hT
        | 1, _ => exact hT
        | 2, _ => exact hT
        | 3, _ => exact hT
        | 4, _ => exact hT
        | 5, _ =>
          obtain ⟨v5, L5, d5, hW5, e5, hr5⟩ := hT
          obtain rfl := Wd_inj hW5
          exact ⟨v5, _, _, rfl, e5, row_mset hr5 hj⟩
        | 6, _ =>
          obtain ⟨v5, L5, d5, hW5, e5, hr5⟩ := hT
          obtain rfl := Wd_inj hW5
          exact ⟨v5, _, _, rfl, e5, row_mset hr5 hj⟩
        | 7, _ =>
          obtain ⟨v5, L5, d5, hW5, e5, hr5⟩ := hT
          obtain rfl := Wd_inj hW5
          exact ⟨v5, _, _, rfl, e5, row_mset hr5 hj⟩
        | 8, _ => exact hT
        | 9, hoj =>
          simp only [List.getElem?_cons_zero, List.getElem?_cons_succ, Option.some.injEq] at hoj; subst hoj
          simp only [Option.some.injEq] at hs
          subst hs
          exact ⟨j, _, _, _, rfl, hBj, e11, by rw [List.getElem?_set_self (List.getElem?_eq_some_iff.1 hj).1], row_mset hrow hj⟩
        | 10, hoj => exact absurd rfl hne
        | ix + 11, hoj => simp at hoj
      · rintro ix o ho hne a W b ⟨g', d', rfl⟩ hwb hsb hdep hfix
        simp only [List.take_succ_cons, List.take_zero] at ho hsb hdep hfix
        match ix, ho with
        | 0, ho =>
          simp only [List.getElem?_cons_zero, Option.some.injEq] at ho; subst ho
          have hb9 : blk (Wd w (L ++ g') d') (w.heap.size + bx) = some (.cells (mc md.half vt md.taken md.gen) 34 (0, 0)) := by rw [blk_at]; exact app_some HBX.out.1
          exact lays_eq _ rfl (exec_load (hfix 9 (by decide +kernel)) (ldMA ag34 hb9))
        | 1, ho =>
          simp only [List.getElem?_cons_zero, List.getElem?_cons_succ, Option.some.injEq] at ho; subst ho
          exact lays_eq _ rfl (exec_move (hfix 1 (by decide +kernel)))
        | 2, ho =>
          simp only [List.getElem?_cons_zero, List.getElem?_cons_succ, Option.some.injEq] at ho; subst ho
          exact lays_eq _ rfl (exec_move (hfix 10 (by decide +kernel)))
        | 3, ho =>
          simp only [List.getElem?_cons_zero, List.getElem?_cons_succ, Option.some.injEq] at ho; subst ho
          have e1 : a.tmps.getD 71 undef = .slice (some ⟨g, o, none⟩) n cap := hdep 1 _ 71 rfl rfl (by decide +kernel)
          have e2 : a.tmps.getD 72 undef = .int .i64 (k : Int) := hdep 2 _ 72 rfl rfl (by decide +kernel)
          exact lays_eq _ rfl (exec_index22 e1 e2 hlt)
        | 4, ho =>
          simp only [List.getElem?_cons_zero, List.getElem?_cons_succ, Option.some.injEq] at ho; subst ho
          have e1 : a.tmps.getD 73 undef = .pointer (some ⟨g, o + k * 6, none⟩) := hdep 3 _ 73 rfl rfl (by decide +kernel)
          exact lays_eq _ rfl (exec_load e1 (HRA.out _ _))
        | 5, ho =>
          simp only [List.getElem?_cons_zero, List.getElem?_cons_succ, Option.some.injEq] at ho; subst ho
          have e1 : a.tmps.getD 70 undef = .agg (mc md.half vt md.taken md.gen) := hdep 0 _ 70 rfl rfl (by decide +kernel)
          have e2 : a.tmps.getD 74 undef = .agg (ac x) := hdep 4 _ 74 rfl rfl (by decide +kernel)
          refine lays_call #[.agg (mc md.half vt md.taken md.gen), .agg (ac x)] (by simp [Act.eval, e1, e2]) (by kernel_rfl) ((HMD.out g' d').mono ?_)
          rintro e W' ⟨v5, g5, d5, he, rfl, hr5⟩
          exact ⟨_, he, below_of _ _ _ _ _, v5, _, _, rfl, rfl, hr5.mono fun p hp _ => ⟨hp.imp id fun h => by rw [List.length_append] at h; omega, rfl⟩⟩
        | 6, ho =>
          simp only [List.getElem?_cons_zero, List.getElem?_cons_succ, Option.some.injEq] at ho; subst ho
          have e1 : mdT w (fun p => (P p ∧ p ≠ bx) ∨ L.length ≤ p) r (a.tmps.getD 75 undef) (Wd w (L ++ g') d') := hdep 5 _ 75 rfl rfl (by decide +kernel)
          exact lays_eq _ e1 (exec_move rfl)
        | 7, ho =>
          simp only [List.getElem?_cons_zero, List.getElem?_cons_succ, Option.some.injEq] at ho; subst ho
          obtain ⟨v5, L5, d5, hW5, e5, hr5⟩ : mdT w (fun p => (P p ∧ p ≠ bx) ∨ L.length ≤ p) r (a.tmps.getD 69 undef) (Wd w (L ++ g') d') := hdep 6 _ 69 rfl rfl (by decide +kernel)
          exact lays_eq (.agg (mc r.1.half v5 r.1.taken r.1.gen)) ⟨v5, L5, d5, hW5, rfl, hr5⟩ (exec_extract e5 rfl)
        | 8, ho =>
          simp only [List.getElem?_cons_zero, List.getElem?_cons_succ, Option.some.injEq] at ho; subst ho
          obtain ⟨v5, L5, d5, hW5, e5, hr5⟩ : mdT w (fun p => (P p ∧ p ≠ bx) ∨ L.length ≤ p) r (a.tmps.getD 69 undef) (Wd w (L ++ g') d') := hdep 6 _ 69 rfl rfl (by decide +kernel)
          exact lays_eq (.int .i64 ((r.2 : Nat) : Int)) rfl (exec_extract e5 rfl)
        | 9, ho =>
          simp only [List.getElem?_cons_zero, List.getElem?_cons_succ, Option.some.injEq] at ho; subst ho
          cases b with
          | true => exact absurd (hsb _ rfl rfl) (by decide +kernel)
          | false => exact lays_alloc34 (by rw [List.length_append]; omega) fun v W h => h
        | 10, ho => exact absurd rfl hne
        | ix + 11, ho => simp at ho
      · rintro a W ⟨g', d', rfl⟩ hd hsz hfix hT
        simp only [List.take_succ_cons, List.take_zero, List.drop_succ_cons, List.drop_zero] at hfix hT ⊢
        have f0 := hfix 0 (by decide +kernel)
        have f2 := hfix 2 (by decide +kernel)
        have f3 := hfix 3 (by decide +kernel)
        have f6 := hfix 6 (by decide +kernel)
        have f8 := hfix 8 (by decide +kernel)
        have f15 := hfix 15 (by decide +kernel)
        have f16 := hfix 16 (by decide +kernel)
        have f17 := hfix 17 (by decide +kernel)
        have f18 := hfix 18 (by decide +kernel)
        have f19 := hfix 19 (by decide +kernel)
        have f20 := hfix 20 (by decide +kernel)
        have f21 := hfix 21 (by decide +kernel)
        have f22 := hfix 22 (by decide +kernel)
        have f23 := hfix 23 (by decide +kernel)
        have f24 := hfix 24 (by decide +kernel)
        have f25 := hfix 25 (by decide +kernel)
        have f26 := hfix 26 (by decide +kernel)
        have f27 := hfix 27 (by decide +kernel)
        have f28 := hfix 28 (by decide +kernel)
        have f29 := hfix 29 (by decide +kernel)
        have f30 := hfix 30 (by decide +kernel)
        have f31 := hfix 31 (by decide +kernel)
        have f32 := hfix 32 (by decide +kernel)
        have f33 := hfix 33 (by decide +kernel)
        have f34 := hfix 34 (by decide +kernel)
        have f35 := hfix 35 (by decide +kernel)
        have f36 := hfix 36 (by decide +kernel)
        have f37 := hfix 37 (by decide +kernel)
        have f38 := hfix 38 (by decide +kernel)
        have f39 := hfix 39 (by decide +kernel)
        have f40 := hfix 40 (by decide +kernel)
        have f41 := hfix 41 (by decide +kernel)
        have f42 := hfix 42 (by decide +kernel)
        have f43 := hfix 43 (by decide +kernel)
        have f44 := hfix 44 (by decide +kernel)
        have f45 := hfix 45 (by decide +kernel)
        have f46 := hfix 46 (by decide +kernel)
        have f47 := hfix 47 (by decide +kernel)
        have f48 := hfix 48 (by decide +kernel)
        have f49 := hfix 49 (by decide +kernel)
        have f50 := hfix 50 (by decide +kernel)
        have f51 := hfix 51 (by decide +kernel)
        have f52 := hfix 52 (by decide +kernel)
        have f53 := hfix 53 (by decide +kernel)
        have f54 := hfix 54 (by decide +kernel)
        have f55 := hfix 55 (by decide +kernel)
        have f56 := hfix 56 (by decide +kernel)
        have f57 := hfix 57 (by decide +kernel)
        have f58 := hfix 58 (by decide +kernel)
        have f59 := hfix 59 (by decide +kernel)
        have f60 := hfix 60 (by decide +kernel)
        have f61 := hfix 61 (by decide +kernel)
        have f62 := hfix 62 (by decide +kernel)
        simp only [getD_lit, List.getD_cons_succ, List.getD_cons_zero] at f0 f2 f3 f6 f8 f15 f16 f17 f18 f19 f20 f21 f22 f23 f24 f25 f26 f27 f28 f29 f30 f31 f32 f33 f34 f35 f36 f37 f38 f39 f40 f41 f42 f43 f44 f45 f46 f47 f48 f49 f50 f51 f52 f53 f54 f55 f56 f57 f58 f59 f60 f61 f62
        have f1 : a.tmps.getD 1 undef = .slice (some ⟨g, o, none⟩) n cap := hfix 1 (by decide +kernel)
        have f5 : a.tmps.getD 5 undef = .pointer (some ⟨w.heap.size + i, 0, none⟩) := hfix 5 (by decide +kernel)
        have f7 : a.tmps.getD 7 undef = .pointer (some ⟨w.heap.size + jo, 0, none⟩) := hfix 7 (by decide +kernel)
        have f9 : a.tmps.getD 9 undef = .pointer (some ⟨w.heap.size + bx, 0, none⟩) := hfix 9 (by decide +kernel)
        have f10 : a.tmps.getD 10 undef = .int .i64 (k : Int) := hfix 10 (by decide +kernel)
        have f77 : a.tmps.getD 77 undef = .int .i64 ((r.2 : Nat) : Int) := hT 8 _ 77 rfl rfl
        obtain ⟨j, v9, L9, d9, hW9, hBj, f11, hj, hrow⟩ : mdS w (fun p => (P p ∧ p ≠ bx) ∨ L.length ≤ p) L.length r (a.tmps.getD 11 undef) (Wd w (L ++ g') d') := hT 9 _ 11 rfl rfl
        obtain rfl := Wd_inj hW9
        obtain ⟨q9, c9, rfl⟩ := hrow.form
        rw [frame_lit a 132 hsz hd]
        clear hfix hT hsz hd hW9
        simp only [List.range, List.range.loop, List.map]
        generalize a.tmps = t at *
        simp only [f1, f5, f7, f9, f10, f11, f77, f0, f2, f3, f6, f8, f15, f16, f17, f18, f19, f20, f21, f22, f23, f24, f25, f26, f27, f28, f29, f30, f31, f32, f33, f34, f35, f36, f37, f38, f39, f40, f41, f42, f43, f44, f45, f46, f47, f48, f49, f50, f51, f52, f53, f54, f55, f56, f57, f58, f59, f60, f61, f62]
        clear f1 f5 f7 f9 f10 f11 f77 f0 f2 f3 f6 f8 f15 f16 f17 f18 f19 f20 f21 f22 f23 f24 f25 f26 f27 f28 f29 f30 f31 f32 f33 f34 f35 f36 f37 f38 f39 f40 f41 f42 f43 f44 f45 f46 f47 f48 f49 f50 f51 f52 f53 f54 f55 f56 f57 f58 f59 f60 f61 f62
        have HS4 := Lib.hid (HQ.out.1.app g')
        obtain ⟨L4, hL4⟩ : ∃ L4, L ++ g' = L4 := ⟨_, rfl⟩
        have h9 : L4[bx]? = some (.cells (mc md.half vt md.taken md.gen) 34 (0, 0)) := by rw [← hL4]; exact app_some HBX.out.1
        rw [hL4] at HS4 hj hrow ⊢
        obtain ⟨P4, hP4⟩ : ∃ P4, Pn P L L4 = P4 := ⟨_, rfl⟩
        rw [hP4] at HS4
        have hlt4 := (List.getElem?_eq_some_iff.1 h9).1
        have HS5 : Hid (St w P4 (L4.set bx (.cells (mc r.1.half (.slice q9 r.1.texts.length c9) r.1.taken r.1.gen) 34 (0, 0))) i s q jo J M) := Lib.hid (HS4.out.other (by rw [List.length_set]; exact Nat.le_refl _) fun p _ hp => by
          rw [List.getElem?_set_ne]
          rintro rfl
          exact hp (by rw [← hP4]; exact .inl HQ.out.2.2.2.2.2.2.1))
        have HR5 : Hid (RowV (fun p => P4 p ∧ p ≠ bx) w (L4.set bx (.cells (mc r.1.half (.slice q9 r.1.texts.length c9) r.1.taken r.1.gen) 34 (0, 0))) 1 r.1.texts.length (.slice q9 r.1.texts.length c9) (strs r.1.texts)) := Lib.hid (hrow.mono fun p hp hlt => by
          have hne : p ≠ bx := hp.elim (fun h => h.2) fun h => by have := HBX.out.2; omega
          exact ⟨⟨by rw [← hP4]; exact hp.elim (fun h => .inl h.1) fun h => .inr ⟨h, hlt⟩, hne⟩, List.getElem?_set_ne (Ne.symm hne)⟩)
        have HB5 : Hid ((L4.set bx (.cells (mc r.1.half (.slice q9 r.1.texts.length c9) r.1.taken r.1.gen) 34 (0, 0)))[bx]? = some (.cells (mc r.1.half (.slice q9 r.1.texts.length c9) r.1.taken r.1.gen) 34 (0, 0)) ∧ P4 bx) := Lib.hid ⟨List.getElem?_set_self hlt4, by rw [← hP4]; exact .inl HQ.out.2.2.2.2.2.2.1⟩
        have HQ2 := Lib.hid (And.intro HQ.out.2.1 (And.intro HQ.out.2.2.1 (And.intro HQ.out.2.2.2.1 (And.intro HQ.out.2.2.2.2.1 HQ.out.2.2.2.2.2.1))))
        obtain ⟨m', hm'⟩ : ∃ m', r.1 = m' := ⟨_, rfl⟩
        obtain ⟨c, hc⟩ : ∃ c, r.2 = c := ⟨_, rfl⟩
        rw [hm'] at HS5 HR5 HB5 hj
        rw [hc]
        have hact : md.act x = (m', c) := by rw [HRR.out, ← hm', ← hc]
        obtain ⟨J', M', c2, m2, hdo, hact2, hi', hc', hn', hg', hal⟩ := alike_act HQ2.out.1 HQ2.out.2.1 (by have h1 := HQ2.out.2.2.1; have h2 := HN.out; have h3 := HF.out.1; omega) HQ2.out.2.2.2.2 x
        rw [hact] at hact2
        obtain ⟨rfl, rfl⟩ := Prod.mk.inj hact2
        obtain ⟨rm, hrm⟩ : ∃ rm, J'.now.room = rm := ⟨_, rfl⟩
        have hmr : min 65535 (((m'.half : Int) - m'.taken) * 64 - 50) = rm := by rw [← hrm, hal.1, hal.2.2.1]; rfl
        have HJ : Hid (Inv J' M' ∧ M'.count = 0 ∧ M'.n = m ∧ J'.now.gen ≤ k + 1 ∧ m'.half = J'.now.size ∧ m'.texts = J'.now.texts ∧ Alike J' m' ∧ J'.now.room = rm ∧ m'.texts.length ≤ 100000 ∧ J'.now.used ≤ J'.now.size) := Lib.hid ⟨hi', hc', by rw [hn']; exact HQ2.out.2.2.2.1, by have := HQ2.out.2.2.1; omega, hal.1, hal.2.1, hal, hrm, by rw [hal.2.1]; exact Nat.le_trans hi'.few (by decide), hi'.good.fits⟩
        have HRM : Hid (∀ l d, Calls Tryd.prog 16 #[.agg (mc m'.half (.slice q9 m'.texts.length c9) m'.taken m'.gen)] (Wd w l d) fun e w' => e = .returned (.int .i64 rm) ∧ ∃ g' d', w' = Wd w (l ++ g') d') := Lib.hid fun l d => by
          have h1 := hi'.small
          have h2 := hi'.good.fits
          have := rroom_any m'.half m'.taken m'.gen (.slice q9 m'.texts.length c9) (by rw [hal.1]; omega) (by rw [hal.1, hal.2.2.1]; exact h2) w l d
          rw [hmr] at this
          exact this
        have HDO : Hid (doJ J M x = (J', M', c)) := Lib.hid hdo
        clear hrow HS4 HMD HQ hlt4 hL4 hP4 HBX hm' hc hact hact2 hdo hi' hc' hn' hg' hal hmr hrm HRR
        go_wp2_with fail
        obtain ⟨L5, hL5⟩ : ∃ L5, L4.set bx (.cells (mc m'.half (.slice q9 m'.texts.length c9) m'.taken m'.gen) 34 (0, 0)) = L5 := ⟨_, rfl⟩
        rw [hL5] at HS5 HR5 HB5 ⊢
        clear hL5 hj h9 L4
        have HD : Hid (∀ g' d', Calls Tryd.prog 12 #[(.pointer (some ⟨w.heap.size + jo, 0, none⟩)), .agg (ac x)] (Wd w (L5 ++ g') d') fun e w' => OpQ w P4 (L5 ++ g') i s q jo (J', M', c) e w') := Lib.hid fun g' d' => by
          have h1 := does_st hR ((HS5.out.app g').mono (P' := P4) fun p hp => .inl hp) (by have := HQ2.out.1.first; omega) x HX.out.1 HX.out.2.2 (by rw [HQ2.out.2.1]; decide) d'
          rw [HDO.out] at h1
          exact h1
        obtain ⟨WI, hWIe⟩ : ∃ WI : Bool → World → Prop, WI = fun b W => if b = true then ∃ L' d', W = Wd w L' d' ∧ St w P4 L' i s q jo J' M' ∧ Up L5 L' P4 else ∃ g' d', W = Wd w (L5 ++ g') d' := ⟨_, rfl⟩
        have hWIt : ∀ W, WI true W ↔ ∃ L' d', W = Wd w L' d' ∧ St w P4 L' i s q jo J' M' ∧ Up L5 L' P4 := fun W => by rw [hWIe]; exact Iff.rfl
        have hWIf : ∀ W, WI false W ↔ ∃ g' d', W = Wd w (L5 ++ g') d' := fun W => by rw [hWIe]; exact Iff.rfl
        clear hWIe
        have HWD : Hid (∀ b W, WI b W → ∃ L' d', W = Wd w L' d') := Lib.hid fun b W h => by
          cases b with
          | true => obtain ⟨L', d', rfl, _⟩ := (hWIt W).1 h; exact ⟨_, _, rfl⟩
          | false => obtain ⟨g', d', rfl⟩ := (hWIf W).1 h; exact ⟨_, _, rfl⟩
        have HT0 : Hid (Wd w L5 d' = Wd w L5 d') := Lib.hid rfl
        refine wp_region_fine_spec 23 5 (by decide) WI (fun _ _ => True) (TL [eqv (.pointer (some ⟨w.heap.size + jo, 0, none⟩)), eqv (.slice (some ⟨g, o, none⟩) n cap), eqv (.int .i64 (k : Int)), eqv (.pointer (some ⟨g, o + k * 6, none⟩)), eqv (.agg (ac x)), eqv (.int .i64 (c : Int)), eqv (.int .i64 (c : Int)), eqv (.bool false), eqv (.bool false), eqv (.pointer (some ⟨w.heap.size + jo, 0, none⟩)), txB w (m'.texts.map mkS), eqv (.pointer (some ⟨w.heap.size + bx, 1, none⟩)), eqv (.slice q9 m'.texts.length c9), eqv (.bool true), eqv (.bool false), eqv (.bool false), eqv (.bool false), eqv (.pointer (some ⟨w.heap.size + jo, 0, none⟩)), eqv (.int .i64 rm), eqv (.agg (mc m'.half (.slice q9 m'.texts.length c9) m'.taken m'.gen)), eqv (.int .i64 rm), eqv (.bool false), eqv (.bool false)]) (by kernel_rfl) (by kernel_rfl) (by kernel_rfl) (by kernel_rfl) ((hWIf _).2 ⟨[], _, by rw [List.append_nil]; rfl⟩) ?_ ?_ (TL_last (List.forall_mem_cons.2 ⟨eqv_last _, List.forall_mem_cons.2 ⟨eqv_last _, List.forall_mem_cons.2 ⟨eqv_last _, List.forall_mem_cons.2 ⟨eqv_last _, List.forall_mem_cons.2 ⟨eqv_last _, List.forall_mem_cons.2 ⟨eqv_last _, List.forall_mem_cons.2 ⟨eqv_last _, List.forall_mem_cons.2 ⟨eqv_last _, List.forall_mem_cons.2 ⟨eqv_last _, List.forall_mem_cons.2 ⟨eqv_last _, List.forall_mem_cons.2 ⟨txB_last, List.forall_mem_cons.2 ⟨eqv_last _, List.forall_mem_cons.2 ⟨eqv_last _, List.forall_mem_cons.2 ⟨eqv_last _, List.forall_mem_cons.2 ⟨eqv_last _, List.forall_mem_cons.2 ⟨eqv_last _, List.forall_mem_cons.2 ⟨eqv_last _, List.forall_mem_cons.2 ⟨eqv_last _, List.forall_mem_cons.2 ⟨eqv_last _, List.forall_mem_cons.2 ⟨eqv_last _, List.forall_mem_cons.2 ⟨eqv_last _, List.forall_mem_cons.2 ⟨eqv_last _, List.forall_mem_cons.2 ⟨eqv_last _, fun _ h => (List.not_mem_nil h).elim⟩⟩⟩⟩⟩⟩⟩⟩⟩⟩⟩⟩⟩⟩⟩⟩⟩⟩⟩⟩⟩⟩⟩)) ?_ ?_ ?_ ?_
        · intro b W W' h hB
          cases b with
          | true =>
            obtain ⟨L', d', rfl, h1, h2⟩ := (hWIt W).1 h
            obtain ⟨g2, d2, rfl⟩ := below_grows hB
            exact (hWIt _).2 ⟨_, _, rfl, (h1.app g2).mono (P' := P4) fun p hp => .inl hp, h2.trans (Up.app _ _ h1.disk.lt)⟩
          | false =>
            obtain ⟨g2, d2, rfl⟩ := (hWIf W).1 h
            obtain ⟨g3, d3, rfl⟩ := below_grows hB
            exact (hWIf _).2 ⟨g2 ++ g3, d3, by rw [List.append_assoc]⟩
        · intro ix o v W W' ho hw hne hT _
          simp only [List.take_succ_cons, List.take_zero] at ho
          match ix, ho with
          | 0, _ => exact hT
          | 1, _ => exact hT
          | 2, _ => exact hT
          | 3, _ => exact hT
          | 4, _ => exact hT
          | 5, _ => exact hT
          | 6, _ => exact hT
          | 7, _ => exact hT
          | 8, _ => exact hT
          | 9, _ => exact hT
          | 10, ho =>
            simp only [List.getElem?_cons_zero, List.getElem?_cons_succ, Option.some.injEq] at ho; subst ho
            exact absurd hw (by decide +kernel)
          | 11, _ => exact hT
          | 12, _ => exact hT
          | 13, _ => exact hT
          | 14, _ => exact hT
          | 15, _ => exact hT
          | 16, _ => exact hT
          | 17, _ => exact hT
          | 18, _ => exact hT
          | 19, _ => exact hT
          | 20, _ => exact hT
          | 21, _ => exact hT
          | 22, _ => exact hT
          | ix + 23, ho => simp at ho
        · intro ix o j b ho hg v W hT
          simp only [List.take_succ_cons, List.take_zero] at ho
          match ix, ho with
          | 0, ho =>
            simp only [List.getElem?_cons_zero, Option.some.injEq] at ho; subst ho
            cases hg
          | 1, ho =>
            simp only [List.getElem?_cons_zero, List.getElem?_cons_succ, Option.some.injEq] at ho; subst ho
            cases hg
          | 2, ho =>
            simp only [List.getElem?_cons_zero, List.getElem?_cons_succ, Option.some.injEq] at ho; subst ho
            cases hg
          | 3, ho =>
            simp only [List.getElem?_cons_zero, List.getElem?_cons_succ, Option.some.injEq] at ho; subst ho
            cases hg
          | 4, ho =>
            simp only [List.getElem?_cons_zero, List.getElem?_cons_succ, Option.some.injEq] at ho; subst ho
            cases hg
          | 5, ho =>
            simp only [List.getElem?_cons_zero, List.getElem?_cons_succ, Option.some.injEq] at ho; subst ho
            cases hg
          | 6, ho =>
            simp only [List.getElem?_cons_zero, List.getElem?_cons_succ, Option.some.injEq] at ho; subst ho
            cases hg
          | 7, ho =>
            simp only [List.getElem?_cons_zero, List.getElem?_cons_succ, Option.some.injEq] at ho; subst ho
            cases hg
          | 8, ho =>
            simp only [List.getElem?_cons_zero, List.getElem?_cons_succ, Option.some.injEq] at ho; subst ho
            cases hg
          | 9, ho =>
            simp only [List.getElem?_cons_zero, List.getElem?_cons_succ, Option.some.injEq] at ho; subst ho
            obtain ⟨rfl, rfl⟩ := Prod.mk.inj (Option.some.inj hg)
            exact hT
          | 10, ho =>
            simp only [List.getElem?_cons_zero, List.getElem?_cons_succ, Option.some.injEq] at ho; subst ho
            obtain ⟨rfl, rfl⟩ := Prod.mk.inj (Option.some.inj hg)
            exact hT
          | 11, ho =>
            simp only [List.getElem?_cons_zero, List.getElem?_cons_succ, Option.some.injEq] at ho; subst ho
            obtain ⟨rfl, rfl⟩ := Prod.mk.inj (Option.some.inj hg)
            exact hT
          | 12, ho =>
            simp only [List.getElem?_cons_zero, List.getElem?_cons_succ, Option.some.injEq] at ho; subst ho
            obtain ⟨rfl, rfl⟩ := Prod.mk.inj (Option.some.inj hg)
            exact hT
          | 13, ho =>
            simp only [List.getElem?_cons_zero, List.getElem?_cons_succ, Option.some.injEq] at ho; subst ho
            obtain ⟨rfl, rfl⟩ := Prod.mk.inj (Option.some.inj hg)
            exact hT
          | 14, ho =>
            simp only [List.getElem?_cons_zero, List.getElem?_cons_succ, Option.some.injEq] at ho; subst ho
            obtain ⟨rfl, rfl⟩ := Prod.mk.inj (Option.some.inj hg)
            exact hT
          | 15, ho =>
            simp only [List.getElem?_cons_zero, List.getElem?_cons_succ, Option.some.injEq] at ho; subst ho
            cases hg
          | 16, ho =>
            simp only [List.getElem?_cons_zero, List.getElem?_cons_succ, Option.some.injEq] at ho; subst ho
            cases hg
          | 17, ho =>
            simp only [List.getElem?_cons_zero, List.getElem?_cons_succ, Option.some.injEq] at ho; subst ho
            obtain ⟨rfl, rfl⟩ := Prod.mk.inj (Option.some.inj hg)
            exact hT
          | 18, ho =>
            simp only [List.getElem?_cons_zero, List.getElem?_cons_succ, Option.some.injEq] at ho; subst ho
            obtain ⟨rfl, rfl⟩ := Prod.mk.inj (Option.some.inj hg)
            exact hT
          | 19, ho =>
            simp only [List.getElem?_cons_zero, List.getElem?_cons_succ, Option.some.injEq] at ho; subst ho
            obtain ⟨rfl, rfl⟩ := Prod.mk.inj (Option.some.inj hg)
            exact hT
          | 20, ho =>
            simp only [List.getElem?_cons_zero, List.getElem?_cons_succ, Option.some.injEq] at ho; subst ho
            obtain ⟨rfl, rfl⟩ := Prod.mk.inj (Option.some.inj hg)
            exact hT
          | 21, ho =>
            simp only [List.getElem?_cons_zero, List.getElem?_cons_succ, Option.some.injEq] at ho; subst ho
            obtain ⟨rfl, rfl⟩ := Prod.mk.inj (Option.some.inj hg)
            exact hT
          | 22, ho =>
            simp only [List.getElem?_cons_zero, List.getElem?_cons_succ, Option.some.injEq] at ho; subst ho
            cases hg
          | ix + 23, ho => simp at ho
        · intro o0 ho a W hWI hdep hfix Q
          simp only [List.take_succ_cons, List.take_zero, List.getElem?_cons_zero, List.getElem?_cons_succ, Option.some.injEq] at ho hdep hfix
          subst ho
          obtain ⟨g2, d2, rfl⟩ := (hWIf W).1 hWI
          have e1 : a.tmps.getD 79 undef = (.pointer (some ⟨w.heap.size + jo, 0, none⟩)) := hdep 0 _ 79 rfl rfl (by decide +kernel)
          have e2 : a.tmps.getD 83 undef = (.agg (ac x)) := hdep 4 _ 83 rfl rfl (by decide +kernel)
          refine wp_call #[(.pointer (some ⟨w.heap.size + jo, 0, none⟩)), .agg (ac x)] (by simp [Act.eval, e1, e2]) (by kernel_rfl) ((HD.out g2 d2).mono ?_)
          rintro e W' ⟨L7, d7, rfl, rfl, hs7, hu7⟩
          exact ⟨_, rfl, _, rfl, trivial, (hWIt _).2 ⟨_, _, rfl, hs7, (Up.app L5 g2 HS5.out.disk.lt).trans hu7⟩, rfl⟩
        · intro ix o ho hne a W b hWI hwb hdep hfix
          simp only [List.take_succ_cons, List.take_zero] at ho hdep hfix
          match ix, ho with
          | 0, ho =>
            simp only [List.getElem?_cons_zero, Option.some.injEq] at ho; subst ho
            exact lays_eq _ rfl (exec_move (hfix 7 (by decide +kernel)))
          | 1, ho =>
            simp only [List.getElem?_cons_zero, List.getElem?_cons_succ, Option.some.injEq] at ho; subst ho
            exact lays_eq _ rfl (exec_move (hfix 1 (by decide +kernel)))
          | 2, ho =>
            simp only [List.getElem?_cons_zero, List.getElem?_cons_succ, Option.some.injEq] at ho; subst ho
            exact lays_eq _ rfl (exec_move (hfix 10 (by decide +kernel)))
          | 3, ho =>
            simp only [List.getElem?_cons_zero, List.getElem?_cons_succ, Option.some.injEq] at ho; subst ho
            have e1 : a.tmps.getD 80 undef = (.slice (some ⟨g, o, none⟩) n cap) := hdep 1 _ 80 rfl rfl (by decide +kernel)
            have e2 : a.tmps.getD 81 undef = (.int .i64 (k : Int)) := hdep 2 _ 81 rfl rfl (by decide +kernel)
            exact lays_eq _ rfl (exec_index22 e1 e2 hlt)
          | 4, ho =>
            simp only [List.getElem?_cons_zero, List.getElem?_cons_succ, Option.some.injEq] at ho; subst ho
            have e1 : a.tmps.getD 82 undef = (.pointer (some ⟨g, o + k * 6, none⟩)) := hdep 3 _ 82 rfl rfl (by decide +kernel)
            obtain ⟨L6, d6, rfl⟩ := HWD.out b W hWI
            exact lays_eq _ rfl (exec_load e1 (HRA.out _ _))
          | 5, ho =>
            exact absurd rfl hne
          | 6, ho =>
            simp only [List.getElem?_cons_zero, List.getElem?_cons_succ, Option.some.injEq] at ho; subst ho
            exact lays_eq _ rfl (exec_move (hfix 12 (by decide +kernel)))
          | 7, ho =>
            simp only [List.getElem?_cons_zero, List.getElem?_cons_succ, Option.some.injEq] at ho; subst ho
            have e1 : a.tmps.getD 84 undef = (.int .i64 (c : Int)) := hdep 5 _ 84 rfl rfl (by decide +kernel)
            have e2 : a.tmps.getD 85 undef = (.int .i64 (c : Int)) := hdep 6 _ 85 rfl rfl (by decide +kernel)
            exact lays_eq _ rfl (exec_same3 e1 e2)
          | 8, ho =>
            simp only [List.getElem?_cons_zero, List.getElem?_cons_succ, Option.some.injEq] at ho; subst ho
            have e1 : a.tmps.getD 86 undef = (.bool false) := hdep 7 _ 86 rfl rfl (by decide +kernel)
            exact lays_eq _ rfl (exec_move e1)
          | 9, ho =>
            simp only [List.getElem?_cons_zero, List.getElem?_cons_succ, Option.some.injEq] at ho; subst ho
            exact lays_eq _ rfl (exec_move (hfix 7 (by decide +kernel)))
          | 10, ho =>
            simp only [List.getElem?_cons_zero, List.getElem?_cons_succ, Option.some.injEq] at ho; subst ho
            have e1 : a.tmps.getD 88 undef = (.pointer (some ⟨w.heap.size + jo, 0, none⟩)) := hdep 9 _ 88 rfl rfl (by decide +kernel)
            obtain rfl : b = true := hwb (by decide +kernel)
            obtain ⟨L6, d6, rfl, hS6, hU6⟩ := (hWIt W).1 hWI
            refine lays_call #[(.pointer (some ⟨w.heap.size + jo, 0, none⟩))] (by simp [Act.eval, e1]) (by kernel_rfl) ((texts_st hS6 HJ.out.1.texts d6).mono ?_)
            rintro e W' ⟨v6, g6, d7, he, rfl, hr6⟩
            exact ⟨v6, he, below_of _ _ _ _ _, _, _, rfl, by rw [HJ.out.2.2.2.2.2.1]; exact TxAt.row hr6⟩
          | 11, ho =>
            simp only [List.getElem?_cons_zero, List.getElem?_cons_succ, Option.some.injEq] at ho; subst ho
            exact lays_eq _ rfl (exec_field (off := 1) (hfix 9 (by decide +kernel)) (by simp [go_sem]))
          | 12, ho =>
            simp only [List.getElem?_cons_zero, List.getElem?_cons_succ, Option.some.injEq] at ho; subst ho
            have e1 : a.tmps.getD 90 undef = (.pointer (some ⟨w.heap.size + bx, 1, none⟩)) := hdep 11 _ 90 rfl rfl (by decide +kernel)
            obtain rfl : b = true := hwb (by decide +kernel)
            obtain ⟨L6, d6, rfl, hS6, hU6⟩ := (hWIt W).1 hWI
            have hb9 : blk (Wd w L6 d6) (w.heap.size + bx) = some (.cells (mc m'.half (.slice q9 m'.texts.length c9) m'.taken m'.gen) 34 (0, 0)) := by rw [blk_at, hU6.2 bx HB5.out.2]; exact HB5.out.1
            exact lays_eq _ rfl (exec_load e1 (ldM1 (isaj32 _) hb9))
          | 13, ho =>
            simp only [List.getElem?_cons_zero, List.getElem?_cons_succ, Option.some.injEq] at ho; subst ho
            have e1 : txB w (m'.texts.map mkS) (a.tmps.getD 89 undef) W := hdep 10 _ 89 rfl rfl (by decide +kernel)
            have e2 : a.tmps.getD 91 undef = (.slice q9 m'.texts.length c9) := hdep 12 _ 91 rfl rfl (by decide +kernel)
            obtain rfl : b = true := hwb (by decide +kernel)
            obtain ⟨L6, d6, rfl, hS6, hU6⟩ := (hWIt W).1 hWI
            obtain ⟨L7, d7, hW7, htx⟩ := e1
            obtain rfl := Wd_inj hW7
            have hrow6 : RowV (fun p => P4 p ∧ p ≠ bx) w L6 1 m'.texts.length (.slice q9 m'.texts.length c9) (strs m'.texts) := HR5.out.mono fun p hp _ => ⟨hp, hU6.2 p hp.1⟩
            refine lays_call #[a.tmps.getD 89 undef, (.slice q9 m'.texts.length c9)] (by simp [Act.eval, e2]) (by kernel_rfl) ((same_any w L6 d6 _ _ _ htx (TxAt.row hrow6) (by rw [List.length_map]; exact HJ.out.2.2.2.2.2.2.2.2.1)).mono ?_)
            rintro e W' ⟨he, d8, rfl⟩
            exact ⟨_, he, by have h9 := below_of w L6 [] d6 d8; rw [List.append_nil] at h9; exact h9, rfl⟩
          | 14, ho =>
            simp only [List.getElem?_cons_zero, List.getElem?_cons_succ, Option.some.injEq] at ho; subst ho
            have e1 : a.tmps.getD 92 undef = (.bool true) := hdep 13 _ 92 rfl rfl (by decide +kernel)
            exact lays_eq _ rfl (exec_not1 e1)
          | 15, ho =>
            simp only [List.getElem?_cons_zero, List.getElem?_cons_succ, Option.some.injEq] at ho; subst ho
            have e1 : a.tmps.getD 87 undef = (.bool false) := hdep 8 _ 87 rfl rfl (by decide +kernel)
            have e2 : a.tmps.getD 93 undef = (.bool false) := hdep 14 _ 93 rfl rfl (by decide +kernel)
            exact lays_eq _ rfl (exec_or e1 e2)
          | 16, ho =>
            simp only [List.getElem?_cons_zero, List.getElem?_cons_succ, Option.some.injEq] at ho; subst ho
            have e1 : a.tmps.getD 94 undef = (.bool false) := hdep 15 _ 94 rfl rfl (by decide +kernel)
            exact lays_eq _ rfl (exec_move e1)
          | 17, ho =>
            simp only [List.getElem?_cons_zero, List.getElem?_cons_succ, Option.some.injEq] at ho; subst ho
            exact lays_eq _ rfl (exec_move (hfix 7 (by decide +kernel)))
          | 18, ho =>
            simp only [List.getElem?_cons_zero, List.getElem?_cons_succ, Option.some.injEq] at ho; subst ho
            have e1 : a.tmps.getD 96 undef = (.pointer (some ⟨w.heap.size + jo, 0, none⟩)) := hdep 17 _ 96 rfl rfl (by decide +kernel)
            obtain rfl : b = true := hwb (by decide +kernel)
            obtain ⟨L6, d6, rfl, hS6, hU6⟩ := (hWIt W).1 hWI
            refine lays_call #[(.pointer (some ⟨w.heap.size + jo, 0, none⟩))] (by simp [Act.eval, e1]) (by kernel_rfl) ((room_st hS6 d6).mono ?_)
            rintro e W' ⟨he, g6, d7, rfl⟩
            rw [HJ.out.2.2.2.2.2.2.2.1] at he
            exact ⟨_, he, below_of _ _ _ _ _, rfl⟩
          | 19, ho =>
            simp only [List.getElem?_cons_zero, List.getElem?_cons_succ, Option.some.injEq] at ho; subst ho
            obtain rfl : b = true := hwb (by decide +kernel)
            obtain ⟨L6, d6, rfl, hS6, hU6⟩ := (hWIt W).1 hWI
            have hb9 : blk (Wd w L6 d6) (w.heap.size + bx) = some (.cells (mc m'.half (.slice q9 m'.texts.length c9) m'.taken m'.gen) 34 (0, 0)) := by rw [blk_at, hU6.2 bx HB5.out.2]; exact HB5.out.1
            exact lays_eq _ rfl (exec_load (hfix 9 (by decide +kernel)) (ldMA ag34 hb9))
          | 20, ho =>
            simp only [List.getElem?_cons_zero, List.getElem?_cons_succ, Option.some.injEq] at ho; subst ho
            have e1 : a.tmps.getD 98 undef = (.agg (mc m'.half (.slice q9 m'.texts.length c9) m'.taken m'.gen)) := hdep 19 _ 98 rfl rfl (by decide +kernel)
            obtain rfl : b = true := hwb (by decide +kernel)
            obtain ⟨L6, d6, rfl, hS6, hU6⟩ := (hWIt W).1 hWI
            refine lays_call #[.agg (mc m'.half (.slice q9 m'.texts.length c9) m'.taken m'.gen)] (by simp [Act.eval, e1]) (by kernel_rfl) ((HRM.out L6 d6).mono ?_)
            rintro e W' ⟨he, g6, d7, rfl⟩
            exact ⟨_, he, below_of _ _ _ _ _, rfl⟩
          | 21, ho =>
            simp only [List.getElem?_cons_zero, List.getElem?_cons_succ, Option.some.injEq] at ho; subst ho
            have e1 : a.tmps.getD 97 undef = (.int .i64 rm) := hdep 18 _ 97 rfl rfl (by decide +kernel)
            have e2 : a.tmps.getD 99 undef = (.int .i64 rm) := hdep 20 _ 99 rfl rfl (by decide +kernel)
            exact lays_eq _ rfl (exec_same3 e1 e2)
          | 22, ho =>
            simp only [List.getElem?_cons_zero, List.getElem?_cons_succ, Option.some.injEq] at ho; subst ho
            have e1 : a.tmps.getD 95 undef = (.bool false) := hdep 16 _ 95 rfl rfl (by decide +kernel)
            have e2 : a.tmps.getD 100 undef = (.bool false) := hdep 21 _ 100 rfl rfl (by decide +kernel)
            exact lays_eq _ rfl (exec_or e1 e2)
          | ix + 23, ho => simp at ho
        · intro a W hWI hd hsz hfix hT
          simp only [List.take_succ_cons, List.take_zero, List.drop_succ_cons, List.drop_zero] at hfix hT ⊢
          have f0 := hfix 0 (by decide +kernel)
          have f2 := hfix 2 (by decide +kernel)
          have f3 := hfix 3 (by decide +kernel)
          have f6 := hfix 6 (by decide +kernel)
          have f8 := hfix 8 (by decide +kernel)
          have f15 := hfix 15 (by decide +kernel)
          have f16 := hfix 16 (by decide +kernel)
          have f17 := hfix 17 (by decide +kernel)
          have f18 := hfix 18 (by decide +kernel)
          have f19 := hfix 19 (by decide +kernel)
          have f20 := hfix 20 (by decide +kernel)
          have f21 := hfix 21 (by decide +kernel)
          have f22 := hfix 22 (by decide +kernel)
          have f23 := hfix 23 (by decide +kernel)
          have f24 := hfix 24 (by decide +kernel)
          have f25 := hfix 25 (by decide +kernel)
          have f26 := hfix 26 (by decide +kernel)
          have f27 := hfix 27 (by decide +kernel)
          have f28 := hfix 28 (by decide +kernel)
          have f29 := hfix 29 (by decide +kernel)
          have f30 := hfix 30 (by decide +kernel)
          have f31 := hfix 31 (by decide +kernel)
          have f32 := hfix 32 (by decide +kernel)
          have f33 := hfix 33 (by decide +kernel)
          have f34 := hfix 34 (by decide +kernel)
          have f35 := hfix 35 (by decide +kernel)
          have f36 := hfix 36 (by decide +kernel)
          have f37 := hfix 37 (by decide +kernel)
          have f38 := hfix 38 (by decide +kernel)
          have f39 := hfix 39 (by decide +kernel)
          have f40 := hfix 40 (by decide +kernel)
          have f41 := hfix 41 (by decide +kernel)
          have f42 := hfix 42 (by decide +kernel)
          have f43 := hfix 43 (by decide +kernel)
          have f44 := hfix 44 (by decide +kernel)
          have f45 := hfix 45 (by decide +kernel)
          have f46 := hfix 46 (by decide +kernel)
          have f47 := hfix 47 (by decide +kernel)
          have f48 := hfix 48 (by decide +kernel)
          have f49 := hfix 49 (by decide +kernel)
          have f50 := hfix 50 (by decide +kernel)
          have f51 := hfix 51 (by decide +kernel)
          have f52 := hfix 52 (by decide +kernel)
          have f53 := hfix 53 (by decide +kernel)
          have f54 := hfix 54 (by decide +kernel)
          have f55 := hfix 55 (by decide +kernel)
          have f56 := hfix 56 (by decide +kernel)
          have f57 := hfix 57 (by decide +kernel)
          have f58 := hfix 58 (by decide +kernel)
          have f59 := hfix 59 (by decide +kernel)
          have f60 := hfix 60 (by decide +kernel)
          have f61 := hfix 61 (by decide +kernel)
          have f62 := hfix 62 (by decide +kernel)
          simp only [getD_lit, List.getD_cons_succ, List.getD_cons_zero] at f0 f2 f3 f6 f8 f15 f16 f17 f18 f19 f20 f21 f22 f23 f24 f25 f26 f27 f28 f29 f30 f31 f32 f33 f34 f35 f36 f37 f38 f39 f40 f41 f42 f43 f44 f45 f46 f47 f48 f49 f50 f51 f52 f53 f54 f55 f56 f57 f58 f59 f60 f61 f62
          have f1 : a.tmps.getD 1 undef = .slice (some ⟨g, o, none⟩) n cap := hfix 1 (by decide +kernel)
          have f5 : a.tmps.getD 5 undef = .pointer (some ⟨w.heap.size + i, 0, none⟩) := hfix 5 (by decide +kernel)
          have f7 : a.tmps.getD 7 undef = .pointer (some ⟨w.heap.size + jo, 0, none⟩) := hfix 7 (by decide +kernel)
          have f9 : a.tmps.getD 9 undef = .pointer (some ⟨w.heap.size + bx, 0, none⟩) := hfix 9 (by decide +kernel)
          have f10 : a.tmps.getD 10 undef = .int .i64 (k : Int) := hfix 10 (by decide +kernel)
          have f101 : a.tmps.getD 101 undef = .bool false := hT 22 _ 101 rfl rfl
          obtain ⟨L6, d6, rfl, hS6, hU6⟩ := (hWIt W).1 hWI
          rw [frame_lit a 132 hsz hd]
          clear hfix hT hsz hd hWI
          simp only [List.range, List.range.loop, List.map]
          generalize a.tmps = t2 at *
          simp only [f1, f5, f7, f9, f10, f101, f0, f2, f3, f6, f8, f15, f16, f17, f18, f19, f20, f21, f22, f23, f24, f25, f26, f27, f28, f29, f30, f31, f32, f33, f34, f35, f36, f37, f38, f39, f40, f41, f42, f43, f44, f45, f46, f47, f48, f49, f50, f51, f52, f53, f54, f55, f56, f57, f58, f59, f60, f61, f62]
          clear f1 f5 f7 f9 f10 f101 f0 f2 f3 f6 f8 f15 f16 f17 f18 f19 f20 f21 f22 f23 f24 f25 f26 f27 f28 f29 f30 f31 f32 f33 f34 f35 f36 f37 f38 f39 f40 f41 f42 f43 f44 f45 f46 f47 f48 f49 f50 f51 f52 f53 f54 f55 f56 f57 f58 f59 f60 f61 f62
          have HR6 : Hid (RowV (fun p => P4 p ∧ p ≠ bx) w L6 1 m'.texts.length (.slice q9 m'.texts.length c9) (strs m'.texts)) := Lib.hid (HR5.out.mono fun p hp _ => ⟨hp, hU6.2 p hp.1⟩)
          have HB6 : Hid (L6[bx]? = some (.cells (mc m'.half (.slice q9 m'.texts.length c9) m'.taken m'.gen) 34 (0, 0)) ∧ P4 bx) := Lib.hid ⟨by rw [hU6.2 bx HB5.out.2]; exact HB5.out.1, HB5.out.2⟩
          have HS6 := Lib.hid hS6
          clear hS6 hU6 hWIt hWIf HWD HT0 HD HDO HS5 HR5 HB5 L5 HQ2
          by_cases hk4 : (k : Int) % 4 = 3
          · go_wp2_with fail
            refine (open_st hR HS6.out.disk HJ.out.1.live (by rw [HJ.out.2.2.1]; exact HM.out.1) (by rw [HJ.out.2.2.1]; exact HM.out.2.2) HJ.out.1.again _).mono ?_
            rintro e w' ⟨jo2, g8, d8, rfl, rfl, hs8⟩
            have HSO := Lib.hid (HS6.out.app g8)
            have HSN := Lib.hid hs8
            have HR8 := Lib.hid (HR6.out.more g8)
            have HB8 : Hid ((L6 ++ g8)[bx]? = some (.cells (mc m'.half (.slice q9 m'.texts.length c9) m'.taken m'.gen) 34 (0, 0))) := Lib.hid (app_some HB6.out.1)
            have HP8 := Lib.hid HB6.out.2
            obtain ⟨PO, hPO⟩ : ∃ PO, Pn P4 L6 (L6 ++ g8) = PO := ⟨_, rfl⟩
            rw [hPO] at HSO
            obtain ⟨L8, hL8⟩ : ∃ L8, L6 ++ g8 = L8 := ⟨_, rfl⟩
            rw [hL8] at HSO HSN HR8 HB8 ⊢
            clear hs8 hPO hL8 HS6 HR6 HB6
            go_wp2_with fail
            refine wp_region_fine_drop 21 (TL [eqv (.pointer (some ⟨w.heap.size + jo2, 0, none⟩)), eqv (.bool false), eqv (.bool false), eqv (.int .i64 0), eqv (.bool false), eqv (.bool false), eqv (.bool false), eqv (.pointer (some ⟨w.heap.size + jo2, 0, none⟩)), txB w (m'.texts.map mkS), eqv (.pointer (some ⟨w.heap.size + bx, 1, none⟩)), eqv (.slice q9 m'.texts.length c9), eqv (.bool true), eqv (.bool false), eqv (.bool false), eqv (.bool false), eqv (.pointer (some ⟨w.heap.size + jo2, 0, none⟩)), eqv (.int .i64 rm), eqv (.pointer (some ⟨w.heap.size + jo, 0, none⟩)), eqv (.int .i64 rm), eqv (.bool false), eqv (.bool false)]) (by kernel_rfl) (by kernel_rfl) (by kernel_rfl) (by kernel_rfl) (TL_last (List.forall_mem_cons.2 ⟨eqv_last _, List.forall_mem_cons.2 ⟨eqv_last _, List.forall_mem_cons.2 ⟨eqv_last _, List.forall_mem_cons.2 ⟨eqv_last _, List.forall_mem_cons.2 ⟨eqv_last _, List.forall_mem_cons.2 ⟨eqv_last _, List.forall_mem_cons.2 ⟨eqv_last _, List.forall_mem_cons.2 ⟨eqv_last _, List.forall_mem_cons.2 ⟨txB_last, List.forall_mem_cons.2 ⟨eqv_last _, List.forall_mem_cons.2 ⟨eqv_last _, List.forall_mem_cons.2 ⟨eqv_last _, List.forall_mem_cons.2 ⟨eqv_last _, List.forall_mem_cons.2 ⟨eqv_last _, List.forall_mem_cons.2 ⟨eqv_last _, List.forall_mem_cons.2 ⟨eqv_last _, List.forall_mem_cons.2 ⟨eqv_last _, List.forall_mem_cons.2 ⟨eqv_last _, List.forall_mem_cons.2 ⟨eqv_last _, List.forall_mem_cons.2 ⟨eqv_last _, List.forall_mem_cons.2 ⟨eqv_last _, fun _ h => (List.not_mem_nil h).elim⟩⟩⟩⟩⟩⟩⟩⟩⟩⟩⟩⟩⟩⟩⟩⟩⟩⟩⟩⟩⟩)) ?_ ?_ ?_
            · intro ix o j b ho hg v W hT
              simp only [List.take_succ_cons, List.take_zero] at ho
              match ix, ho with
              | 0, ho =>
                simp only [List.getElem?_cons_zero, Option.some.injEq] at ho; subst ho
                cases hg
              | 1, ho =>
                simp only [List.getElem?_cons_zero, List.getElem?_cons_succ, Option.some.injEq] at ho; subst ho
                cases hg
              | 2, ho =>
                simp only [List.getElem?_cons_zero, List.getElem?_cons_succ, Option.some.injEq] at ho; subst ho
                cases hg
              | 3, ho =>
                simp only [List.getElem?_cons_zero, List.getElem?_cons_succ, Option.some.injEq] at ho; subst ho
                obtain ⟨rfl, rfl⟩ := Prod.mk.inj (Option.some.inj hg)
                exact hT
              | 4, ho =>
                simp only [List.getElem?_cons_zero, List.getElem?_cons_succ, Option.some.injEq] at ho; subst ho
                obtain ⟨rfl, rfl⟩ := Prod.mk.inj (Option.some.inj hg)
                exact hT
              | 5, ho =>
                simp only [List.getElem?_cons_zero, List.getElem?_cons_succ, Option.some.injEq] at ho; subst ho
                cases hg
              | 6, ho =>
                simp only [List.getElem?_cons_zero, List.getElem?_cons_succ, Option.some.injEq] at ho; subst ho
                cases hg
              | 7, ho =>
                simp only [List.getElem?_cons_zero, List.getElem?_cons_succ, Option.some.injEq] at ho; subst ho
                obtain ⟨rfl, rfl⟩ := Prod.mk.inj (Option.some.inj hg)
                exact hT
              | 8, ho =>
                simp only [List.getElem?_cons_zero, List.getElem?_cons_succ, Option.some.injEq] at ho; subst ho
                obtain ⟨rfl, rfl⟩ := Prod.mk.inj (Option.some.inj hg)
                exact hT
              | 9, ho =>
                simp only [List.getElem?_cons_zero, List.getElem?_cons_succ, Option.some.injEq] at ho; subst ho
                obtain ⟨rfl, rfl⟩ := Prod.mk.inj (Option.some.inj hg)
                exact hT
              | 10, ho =>
                simp only [List.getElem?_cons_zero, List.getElem?_cons_succ, Option.some.injEq] at ho; subst ho
                obtain ⟨rfl, rfl⟩ := Prod.mk.inj (Option.some.inj hg)
                exact hT
              | 11, ho =>
                simp only [List.getElem?_cons_zero, List.getElem?_cons_succ, Option.some.injEq] at ho; subst ho
                obtain ⟨rfl, rfl⟩ := Prod.mk.inj (Option.some.inj hg)
                exact hT
              | 12, ho =>
                simp only [List.getElem?_cons_zero, List.getElem?_cons_succ, Option.some.injEq] at ho; subst ho
                obtain ⟨rfl, rfl⟩ := Prod.mk.inj (Option.some.inj hg)
                exact hT
              | 13, ho =>
                simp only [List.getElem?_cons_zero, List.getElem?_cons_succ, Option.some.injEq] at ho; subst ho
                cases hg
              | 14, ho =>
                simp only [List.getElem?_cons_zero, List.getElem?_cons_succ, Option.some.injEq] at ho; subst ho
                cases hg
              | 15, ho =>
                simp only [List.getElem?_cons_zero, List.getElem?_cons_succ, Option.some.injEq] at ho; subst ho
                obtain ⟨rfl, rfl⟩ := Prod.mk.inj (Option.some.inj hg)
                exact hT
              | 16, ho =>
                simp only [List.getElem?_cons_zero, List.getElem?_cons_succ, Option.some.injEq] at ho; subst ho
                obtain ⟨rfl, rfl⟩ := Prod.mk.inj (Option.some.inj hg)
                exact hT
              | 17, ho =>
                simp only [List.getElem?_cons_zero, List.getElem?_cons_succ, Option.some.injEq] at ho; subst ho
                obtain ⟨rfl, rfl⟩ := Prod.mk.inj (Option.some.inj hg)
                exact hT
              | 18, ho =>
                simp only [List.getElem?_cons_zero, List.getElem?_cons_succ, Option.some.injEq] at ho; subst ho
                obtain ⟨rfl, rfl⟩ := Prod.mk.inj (Option.some.inj hg)
                exact hT
              | 19, ho =>
                simp only [List.getElem?_cons_zero, List.getElem?_cons_succ, Option.some.injEq] at ho; subst ho
                obtain ⟨rfl, rfl⟩ := Prod.mk.inj (Option.some.inj hg)
                exact hT
              | 20, ho =>
                simp only [List.getElem?_cons_zero, List.getElem?_cons_succ, Option.some.injEq] at ho; subst ho
                cases hg
              | ix + 21, ho => simp at ho
            · intro ix o ho a W hB hdep hfix
              simp only [List.take_succ_cons, List.take_zero] at ho hdep hfix
              obtain ⟨g', d', rfl⟩ := below_grows hB
              match ix, ho with
              | 0, ho =>
                simp only [List.getElem?_cons_zero, Option.some.injEq] at ho; subst ho
                exact lays_eq _ rfl (exec_move (hfix 13 (by decide +kernel)))
              | 1, ho =>
                simp only [List.getElem?_cons_zero, List.getElem?_cons_succ, Option.some.injEq] at ho; subst ho
                have e1 : a.tmps.getD 110 undef = (.pointer (some ⟨w.heap.size + jo2, 0, none⟩)) := hdep 0 _ 110 rfl rfl (by decide +kernel)
                exact lays_eq _ rfl (exec_nil29 e1 rfl)
              | 2, ho =>
                simp only [List.getElem?_cons_zero, List.getElem?_cons_succ, Option.some.injEq] at ho; subst ho
                have e1 : a.tmps.getD 111 undef = (.bool false) := hdep 1 _ 111 rfl rfl (by decide +kernel)
                exact lays_eq _ rfl (exec_move e1)
              | 3, ho =>
                simp only [List.getElem?_cons_zero, List.getElem?_cons_succ, Option.some.injEq] at ho; subst ho
                exact lays_eq _ rfl (exec_move (hfix 14 (by decide +kernel)))
              | 4, ho =>
                simp only [List.getElem?_cons_zero, List.getElem?_cons_succ, Option.some.injEq] at ho; subst ho
                have e1 : a.tmps.getD 113 undef = (.int .i64 0) := hdep 3 _ 113 rfl rfl (by decide +kernel)
                exact lays_eq _ rfl (exec_same26 e1 rfl)
              | 5, ho =>
                simp only [List.getElem?_cons_zero, List.getElem?_cons_succ, Option.some.injEq] at ho; subst ho
                have e1 : a.tmps.getD 112 undef = (.bool false) := hdep 2 _ 112 rfl rfl (by decide +kernel)
                have e2 : a.tmps.getD 114 undef = (.bool false) := hdep 4 _ 114 rfl rfl (by decide +kernel)
                exact lays_eq _ rfl (exec_or e1 e2)
              | 6, ho =>
                simp only [List.getElem?_cons_zero, List.getElem?_cons_succ, Option.some.injEq] at ho; subst ho
                have e1 : a.tmps.getD 115 undef = (.bool false) := hdep 5 _ 115 rfl rfl (by decide +kernel)
                exact lays_eq _ rfl (exec_move e1)
              | 7, ho =>
                simp only [List.getElem?_cons_zero, List.getElem?_cons_succ, Option.some.injEq] at ho; subst ho
                exact lays_eq _ rfl (exec_move (hfix 13 (by decide +kernel)))
              | 8, ho =>
                simp only [List.getElem?_cons_zero, List.getElem?_cons_succ, Option.some.injEq] at ho; subst ho
                have e1 : a.tmps.getD 117 undef = (.pointer (some ⟨w.heap.size + jo2, 0, none⟩)) := hdep 7 _ 117 rfl rfl (by decide +kernel)
                refine lays_call #[(.pointer (some ⟨w.heap.size + jo2, 0, none⟩))] (by simp [Act.eval, e1]) (by kernel_rfl) ((texts_st ((HSN.out.app g').mono (P' := P4) fun p hp => .inl hp) HJ.out.1.texts d').mono ?_)
                rintro e W' ⟨v6, g6, d7, he, rfl, hr6⟩
                exact ⟨v6, he, below_of _ _ _ _ _, _, _, rfl, by rw [HJ.out.2.2.2.2.2.1]; exact TxAt.row hr6⟩
              | 9, ho =>
                simp only [List.getElem?_cons_zero, List.getElem?_cons_succ, Option.some.injEq] at ho; subst ho
                exact lays_eq _ rfl (exec_field (off := 1) (hfix 9 (by decide +kernel)) (by simp [go_sem]))
              | 10, ho =>
                simp only [List.getElem?_cons_zero, List.getElem?_cons_succ, Option.some.injEq] at ho; subst ho
                have e1 : a.tmps.getD 119 undef = (.pointer (some ⟨w.heap.size + bx, 1, none⟩)) := hdep 9 _ 119 rfl rfl (by decide +kernel)
                have hb9 : blk (Wd w (L8 ++ g') d') (w.heap.size + bx) = some (.cells (mc m'.half (.slice q9 m'.texts.length c9) m'.taken m'.gen) 34 (0, 0)) := by rw [blk_at]; exact app_some HB8.out
                exact lays_eq _ rfl (exec_load e1 (ldM1 (isaj32 _) hb9))
              | 11, ho =>
                simp only [List.getElem?_cons_zero, List.getElem?_cons_succ, Option.some.injEq] at ho; subst ho
                have e1 : txB w (m'.texts.map mkS) (a.tmps.getD 118 undef) (Wd w (L8 ++ g') d') := hdep 8 _ 118 rfl rfl (by decide +kernel)
                have e2 : a.tmps.getD 120 undef = (.slice q9 m'.texts.length c9) := hdep 10 _ 120 rfl rfl (by decide +kernel)
                obtain ⟨L7, d7, hW7, htx⟩ := e1
                obtain rfl := Wd_inj hW7
                refine lays_call #[a.tmps.getD 118 undef, (.slice q9 m'.texts.length c9)] (by simp [Act.eval, e2]) (by kernel_rfl) ((same_any w (L8 ++ g') d' _ _ _ htx (TxAt.row (HR8.out.more g')) (by rw [List.length_map]; exact HJ.out.2.2.2.2.2.2.2.2.1)).mono ?_)
                rintro e W' ⟨he, d8, rfl⟩
                exact ⟨_, he, by have h9 := below_of w (L8 ++ g') [] d' d8; rw [List.append_nil] at h9; exact h9, rfl⟩
              | 12, ho =>
                simp only [List.getElem?_cons_zero, List.getElem?_cons_succ, Option.some.injEq] at ho; subst ho
                have e1 : a.tmps.getD 121 undef = (.bool true) := hdep 11 _ 121 rfl rfl (by decide +kernel)
                exact lays_eq _ rfl (exec_not1 e1)
              | 13, ho =>
                simp only [List.getElem?_cons_zero, List.getElem?_cons_succ, Option.some.injEq] at ho; subst ho
                have e1 : a.tmps.getD 116 undef = (.bool false) := hdep 6 _ 116 rfl rfl (by decide +kernel)
                have e2 : a.tmps.getD 122 undef = (.bool false) := hdep 12 _ 122 rfl rfl (by decide +kernel)
                exact lays_eq _ rfl (exec_or e1 e2)
              | 14, ho =>
                simp only [List.getElem?_cons_zero, List.getElem?_cons_succ, Option.some.injEq] at ho; subst ho
                have e1 : a.tmps.getD 123 undef = (.bool false) := hdep 13 _ 123 rfl rfl (by decide +kernel)
                exact lays_eq _ rfl (exec_move e1)
              | 15, ho =>
                simp only [List.getElem?_cons_zero, List.getElem?_cons_succ, Option.some.injEq] at ho; subst ho
                exact lays_eq _ rfl (exec_move (hfix 13 (by decide +kernel)))
              | 16, ho =>
                simp only [List.getElem?_cons_zero, List.getElem?_cons_succ, Option.some.injEq] at ho; subst ho
                have e1 : a.tmps.getD 125 undef = (.pointer (some ⟨w.heap.size + jo2, 0, none⟩)) := hdep 15 _ 125 rfl rfl (by decide +kernel)
                refine lays_call #[(.pointer (some ⟨w.heap.size + jo2, 0, none⟩))] (by simp [Act.eval, e1]) (by kernel_rfl) ((room_st ((HSN.out.app g').mono (P' := P4) fun p hp => .inl hp) d').mono ?_)
                rintro e W' ⟨he, g6, d7, rfl⟩
                rw [HJ.out.2.2.2.2.2.2.2.1] at he
                exact ⟨_, he, below_of _ _ _ _ _, rfl⟩
              | 17, ho =>
                simp only [List.getElem?_cons_zero, List.getElem?_cons_succ, Option.some.injEq] at ho; subst ho
                exact lays_eq _ rfl (exec_move (hfix 7 (by decide +kernel)))
              | 18, ho =>
                simp only [List.getElem?_cons_zero, List.getElem?_cons_succ, Option.some.injEq] at ho; subst ho
                have e1 : a.tmps.getD 127 undef = (.pointer (some ⟨w.heap.size + jo, 0, none⟩)) := hdep 17 _ 127 rfl rfl (by decide +kernel)
                refine lays_call #[(.pointer (some ⟨w.heap.size + jo, 0, none⟩))] (by simp [Act.eval, e1]) (by kernel_rfl) ((room_st (HSO.out.app g') d').mono ?_)
                rintro e W' ⟨he, g6, d7, rfl⟩
                rw [HJ.out.2.2.2.2.2.2.2.1] at he
                exact ⟨_, he, below_of _ _ _ _ _, rfl⟩
              | 19, ho =>
                simp only [List.getElem?_cons_zero, List.getElem?_cons_succ, Option.some.injEq] at ho; subst ho
                have e1 : a.tmps.getD 126 undef = (.int .i64 rm) := hdep 16 _ 126 rfl rfl (by decide +kernel)
                have e2 : a.tmps.getD 128 undef = (.int .i64 rm) := hdep 18 _ 128 rfl rfl (by decide +kernel)
                exact lays_eq _ rfl (exec_same3 e1 e2)
              | 20, ho =>
                simp only [List.getElem?_cons_zero, List.getElem?_cons_succ, Option.some.injEq] at ho; subst ho
                have e1 : a.tmps.getD 124 undef = (.bool false) := hdep 14 _ 124 rfl rfl (by decide +kernel)
                have e2 : a.tmps.getD 129 undef = (.bool false) := hdep 19 _ 129 rfl rfl (by decide +kernel)
                exact lays_eq _ rfl (exec_or e1 e2)
              | ix + 21, ho => simp at ho
            · intro a W hB hd hsz hfix hT
              simp only [List.take_succ_cons, List.take_zero, List.drop_succ_cons, List.drop_zero] at hfix hT ⊢
              have f0 := hfix 0 (by decide +kernel)
              have f2 := hfix 2 (by decide +kernel)
              have f3 := hfix 3 (by decide +kernel)
              have f6 := hfix 6 (by decide +kernel)
              have f8 := hfix 8 (by decide +kernel)
              have f15 := hfix 15 (by decide +kernel)
              have f16 := hfix 16 (by decide +kernel)
              have f17 := hfix 17 (by decide +kernel)
              have f18 := hfix 18 (by decide +kernel)
              have f19 := hfix 19 (by decide +kernel)
              have f20 := hfix 20 (by decide +kernel)
              have f21 := hfix 21 (by decide +kernel)
              have f22 := hfix 22 (by decide +kernel)
              have f23 := hfix 23 (by decide +kernel)
              have f24 := hfix 24 (by decide +kernel)
              have f25 := hfix 25 (by decide +kernel)
              have f26 := hfix 26 (by decide +kernel)
              have f27 := hfix 27 (by decide +kernel)
              have f28 := hfix 28 (by decide +kernel)
              have f29 := hfix 29 (by decide +kernel)
              have f30 := hfix 30 (by decide +kernel)
              have f31 := hfix 31 (by decide +kernel)
              have f32 := hfix 32 (by decide +kernel)
              have f33 := hfix 33 (by decide +kernel)
              have f34 := hfix 34 (by decide +kernel)
              have f35 := hfix 35 (by decide +kernel)
              have f36 := hfix 36 (by decide +kernel)
              have f37 := hfix 37 (by decide +kernel)
              have f38 := hfix 38 (by decide +kernel)
              have f39 := hfix 39 (by decide +kernel)
              have f40 := hfix 40 (by decide +kernel)
              have f41 := hfix 41 (by decide +kernel)
              have f42 := hfix 42 (by decide +kernel)
              have f43 := hfix 43 (by decide +kernel)
              have f44 := hfix 44 (by decide +kernel)
              have f45 := hfix 45 (by decide +kernel)
              have f46 := hfix 46 (by decide +kernel)
              have f47 := hfix 47 (by decide +kernel)
              have f48 := hfix 48 (by decide +kernel)
              have f49 := hfix 49 (by decide +kernel)
              have f50 := hfix 50 (by decide +kernel)
              have f51 := hfix 51 (by decide +kernel)
              have f52 := hfix 52 (by decide +kernel)
              have f53 := hfix 53 (by decide +kernel)
              have f54 := hfix 54 (by decide +kernel)
              have f55 := hfix 55 (by decide +kernel)
              have f56 := hfix 56 (by decide +kernel)
              have f57 := hfix 57 (by decide +kernel)
              have f58 := hfix 58 (by decide +kernel)
              have f59 := hfix 59 (by decide +kernel)
              have f60 := hfix 60 (by decide +kernel)
              have f61 := hfix 61 (by decide +kernel)
              have f62 := hfix 62 (by decide +kernel)
              simp only [getD_lit, List.getD_cons_succ, List.getD_cons_zero] at f0 f2 f3 f6 f8 f15 f16 f17 f18 f19 f20 f21 f22 f23 f24 f25 f26 f27 f28 f29 f30 f31 f32 f33 f34 f35 f36 f37 f38 f39 f40 f41 f42 f43 f44 f45 f46 f47 f48 f49 f50 f51 f52 f53 f54 f55 f56 f57 f58 f59 f60 f61 f62
              have f1 : a.tmps.getD 1 undef = .slice (some ⟨g, o, none⟩) n cap := hfix 1 (by decide +kernel)
              have f5 : a.tmps.getD 5 undef = .pointer (some ⟨w.heap.size + i, 0, none⟩) := hfix 5 (by decide +kernel)
              have f9 : a.tmps.getD 9 undef = .pointer (some ⟨w.heap.size + bx, 0, none⟩) := hfix 9 (by decide +kernel)
              have f10 : a.tmps.getD 10 undef = .int .i64 (k : Int) := hfix 10 (by decide +kernel)
              have f13 : a.tmps.getD 13 undef = (.pointer (some ⟨w.heap.size + jo2, 0, none⟩)) := hfix 13 (by decide +kernel)
              have f130 : a.tmps.getD 130 undef = .bool false := hT 20 _ 130 rfl rfl
              rw [frame_lit a 132 hsz hd]
              clear hfix hT hsz hd
              simp only [List.range, List.range.loop, List.map]
              generalize a.tmps = t3 at *
              simp only [f1, f5, f9, f10, f13, f130, f0, f2, f3, f6, f8, f15, f16, f17, f18, f19, f20, f21, f22, f23, f24, f25, f26, f27, f28, f29, f30, f31, f32, f33, f34, f35, f36, f37, f38, f39, f40, f41, f42, f43, f44, f45, f46, f47, f48, f49, f50, f51, f52, f53, f54, f55, f56, f57, f58, f59, f60, f61, f62]
              clear f1 f5 f9 f10 f13 f130 f0 f2 f3 f6 f8 f15 f16 f17 f18 f19 f20 f21 f22 f23 f24 f25 f26 f27 f28 f29 f30 f31 f32 f33 f34 f35 f36 f37 f38 f39 f40 f41 f42 f43 f44 f45 f46 f47 f48 f49 f50 f51 f52 f53 f54 f55 f56 f57 f58 f59 f60 f61 f62
              obtain ⟨g9, d9, rfl⟩ := below_grows hB
              clear hB
              go_wp2_with fail
              go_roundw
              case rel => exact ⟨k + 1, jo2, L8 ++ g9, _, by omega, rfl, by go_num, Lib.hid ⟨P4, J', M', m', _, (HSN.out.app g9).mono (P' := P4) fun p hp => .inl hp, HJ.out.1, HJ.out.2.1, HJ.out.2.2.2.1, HJ.out.2.2.1, HJ.out.2.2.2.2.2.2.1, HP8.out, app_some HB8.out, HR8.out.more g9⟩, rfl⟩
              case measure => simp [intOf]; omega
          · go_wp2_with fail
            go_roundw
            case rel => exact ⟨k + 1, jo, L6, _, by omega, rfl, by go_num, Lib.hid ⟨P4, J', M', m', _, HS6.out, HJ.out.1, HJ.out.2.1, HJ.out.2.2.2.1, HJ.out.2.2.1, HJ.out.2.2.2.2.2.2.1, HB6.out.2, HB6.out.1, HR6.out⟩, rfl⟩
            case measure => simp [intOf]; omega
    · obtain rfl : k = n := by omega
      go_wp2
      go_ret
      exact ⟨rfl, Grows.of _ _ _⟩
end Go.Proofs.YtjgfljckmckhcaaDoor
