/- The document's Put: by contract. No condition but that rows are small. -/
import Derived.Test.YtafbphgfdnmilaaF5
namespace Go.Proofs.Ytafbphgfdnmilaa
open Go.RowKit Go.Own
theorem rt30 : RowT Try.prog 30 76 2 := ⟨Try.underlying30, by
  cases hi : Try.prog.info? 76 with
  | none => exact absurd hi (by have : (Try.prog.info? 76).isSome = true := by kernel_rfl
                                intro e; rw [e] at this; cases this)
  | some i =>
    have h := show (Try.prog.info? 76).map (fun i => (i.zero.map fun z => z.cells.size, i.size, decide (i.bytes ≤ 1048576))) = some (some 2, 2, true) by kernel_rfl
    rw [hi] at h
    simp at h
    obtain ⟨⟨z, hz, hzc⟩, hs, hb⟩ := h
    exact ⟨i, z, rfl, hz, hs, hzc, hb⟩⟩
theorem bu76 (a : Nat) (x : List Nat) (W : World) : (buN 76 #[(0, .int .i64 (a : Int)), (1, .string (mkS x))]).run Try.prog W = .ok (.agg (wr a x)) W := by
  show _ = Result.ok (Value.agg #[.int .i64 (a : Int), .string (mkS x)]) W
  generalize mkS x = s
  kernel_rfl
theorem bs30 (a : Nat) (x : List Nat) (w : World) (l : List Obj) (d : Nat) : (bsN 30 1 #[(0, .agg (wr a x))]).run Try.prog (Wd w l d) = .ok (.slice (some ⟨w.heap.size + l.length, 0, none⟩) 1 1) (Wd w (l ++ [.cells (wr a x) 76 (0, 0)]) d) := by
  rw [← Wd_alloc, ← Wd_size w l d]
  generalize Wd w l d = W
  unfold wr
  generalize mkS x = s
  kernel_rfl
attribute [local go_sem] bu76 bs30 bs30e one_slice ldR ldR0 ldR1 ldR2 ldR3 ldR4 ldR5 ldR6 stR stR0 stR1 stR2 stR5 stR5z stR6 z35 al35 set_same app_left set_left at_mid' set_mid' at_mid2' set_mid2' List.getElem?_set_ne
set_option maxRecDepth 100000 in
set_option maxHeartbeats 2000000 in
theorem putR_any (w : World) (l : List Obj) (d : Nat) (A : Nat → Prop) (vl vw : Value) (R : Rk) (h : RAt A w l vl vw R) (hA : ∀ p, l.length ≤ p → A p) (hn : R.lasts.length ≤ 4096) (hw : R.wait.length < 1000) (hc : R.count ≤ 1099511627776) (x : Int) (S : List Nat) (hS : B8 S) :
    Calls Try.prog 12 #[.agg (rc vl vw R), .int .i64 x, .string (mkS S)] (Wd w l d) (RetR A w l (R.put x S).1 fun v => .tuple #[v, .int .i64 (((R.put x S).2 : Nat) : Int)]) := by
  have h1 := RowV.one h.lasts
  have h2 := RowV.one h.wait
  have H := Lib.hid h
  have HA := Lib.hid hA
  by_cases hr : refE R.off R.lasts.length x = 0
  · obtain ⟨ho, a, rfl, ha⟩ := refE_ok hr
    obtain ⟨pl, cl, rfl, -⟩ := RowV.form h.lasts
    have HN := Lib.hid hn
    have hsz : (mkS S).size = S.length := mkS_size S
    obtain ⟨n, hnn⟩ : ∃ n, R.lasts.length = n := ⟨_, rfl⟩
    by_cases h64 : 64 < S.length
    · have HE := Lib.hid (show R.put (a : Int) S = (R, 3) by unfold Rk.put; rw [if_pos hr, if_pos h64])
      rw [HE.out]
      have h64' : (64 : Int) < (mkS S).size := by rw [hsz]; omega
      rw [hnn] at ha h1 H ⊢
      have hai : (a : Int) < n := by omega
      clear h hA hr hn hsz hnn h64
      go_enter Try.func12, Try.ntmps12
      go_wp2
      refine ret_mix2 (i := l.length + 1) rfl rfl rfl ag35 (at_next rfl) rfl rfl ?_
      exact ⟨_, vw, _, _, rfl, rfl, Ext.app _ _, H.out.ext (Ext.app _ _)⟩
    · have HE := Lib.hid (show R.put (a : Int) S = ((({ R with wait := R.wait ++ [(a, filL S)] } : Rk).counted).1, if (({ R with wait := R.wait ++ [(a, filL S)] } : Rk).counted).2 then 7 else 0) by unfold Rk.put; rw [if_pos hr, if_neg h64]; rfl)
      rw [HE.out]
      clear HE
      obtain ⟨Y, hY⟩ : ∃ Y, filL S = Y := ⟨_, rfl⟩
      rw [hY]
      obtain ⟨⟨C, b⟩, hC⟩ : ∃ C, ({ R with wait := R.wait ++ [(a, Y)] } : Rk).counted = C := ⟨_, rfl⟩
      rw [hC]
      have HC := Lib.hid hC
      have h64' : ((mkS S).size : Int) ≤ 64 := by rw [hsz]; omega
      have HF := Lib.hid (filL_length (s := S) (by omega))
      have HFB := Lib.hid (filL_B8 hS)
      have HS64 := Lib.hid (show S.length ≤ 64 by omega)
      have HALT := Lib.hid ha
      have hok := H.out.ok
      have HOK := Lib.hid hok
      clear hok
      have HNN := Lib.hid hnn
      have HW := Lib.hid hw
      rw [hnn] at ha h1 H ⊢
      have hai : (a : Int) < n := by omega
      rw [hY] at HF HFB
      have HY := Lib.hid hY
      clear h hA hr hn hsz hnn h64 hS hw hC hY
      show Calls _ _ _ _ (RetR A w l C fun v => .tuple #[v, .int .i64 (((if b then 7 else 0 : Nat)) : Int)])
      go_enter Try.func12, Try.ntmps12
      go_wp2_with (refine wpList_row rfl (.tmp 26) (.tmp 28) 30 76 rfl rt30 (A := fun p => l.length + 2 ≤ p) (B := A) (fun p hp => by simp at hp; omega) (.slice (some ⟨w.heap.size + (l.length + 2), 0, none⟩) 0 0) 0 [] rfl (.inr ⟨l.length + 2, 0, [], 76, Nat.le_refl _, rfl, at_third rfl, rfl, Nat.le_refl _, rfl⟩) vw R.wait.length (wcr R.wait) rfl (H.out.wait.more _) (wcr_all _) (by have := HW.out; omega) ?_; intro v1 l1 d1 H1 H2 H3)
      have hrow1 : Hid (RowV (fun p => l.length + 2 ≤ p) w l1 2 R.wait.length v1 (wcr R.wait)) := Lib.hid (by have := H1.out; rwa [Nat.zero_add, List.nil_append] at this)
      have hb0 := Lib.hid ((H3.out l.length (by simp) (notAt_ne (by omega))).trans (at_mid' rfl))
      have hb1 := Lib.hid ((H3.out (l.length + 1) (by simp) (notAt_ne (by omega))).trans (at_next' rfl))
      have HX1 : Hid (Ext l l1) := Lib.hid ⟨by have := H2.out; simp at this; omega, fun p hp => by rw [H3.out p (by simp; omega) (notAt_ne (by omega)), List.getElem?_append_left hp]⟩
      have HLN : Hid (l.length + 3 ≤ l1.length) := Lib.hid (by have := H2.out; simp at this; omega)
      clear H1 H2 H3
      refine (fill_any S HS64.out _).mono ?_
      rintro e w' ⟨rfl, rfl⟩
      rw [HY.out]
      go_wp2_with (refine wpList_row rfl (.tmp 29) (.tmp 34) 30 76 rfl rt30 (A := fun p => l.length + 2 ≤ p) (B := fun _ => True) (fun p hp => by have := HLN.out; simp at hp; omega) v1 R.wait.length (wcr R.wait) rfl (hrow1.out.more _) (.slice (some ⟨w.heap.size + l1.length, 0, none⟩) 1 1) 1 (wr a Y).toList rfl (.inr ⟨l1.length, 1, (wr a Y).toList, 76, trivial, rfl, at_mid' rfl, rfl, by decide, rfl⟩) (wr_one a Y) (by have := HW.out; omega) ?_; intro v2 l2 d2 H1 H2 H3; have hv2 := RowV.one H1.out; have hc0 := (H3.out l.length (by have := HLN.out; simp; omega) (RowV.notAt hrow1.out (fun h => by omega))).trans (app_some hb0.out))
      have HX2 : Hid (Ext l l2) := Lib.hid ⟨by have := H2.out; have := HLN.out; simp at *; omega, fun p hp => by
        rw [H3.out p (by have := HLN.out; simp; omega) (RowV.notAt hrow1.out (fun h => by omega)), List.getElem?_append_left (by have := HLN.out; omega), HX1.out.2 p hp]⟩
      have hc1 := Lib.hid ((H3.out (l.length + 1) (by have := HLN.out; simp; omega) (RowV.notAt hrow1.out (fun h => by omega))).trans (app_some hb1.out))
      have HR2 : Hid (∀ X, RAt (Abut A l.length) w (l2.set l.length X) (.slice pl n cl) v2 { R with wait := R.wait ++ [(a, Y)] }) := Lib.hid fun X => by
        refine ⟨?_, ?_, ⟨HOK.out.lastO, fun p hp => ?_⟩⟩
        · show RowV _ w _ 1 R.lasts.length _ (lcs R.lasts)
          exact H.out.lasts.mono fun p hp hlt => ⟨⟨hp, by omega, by omega⟩, by rw [List.getElem?_set_ne (by omega), HX2.out.2 p hlt]⟩
        · show RowV _ w _ 2 (R.wait ++ [(a, Y)]).length _ (wcr (R.wait ++ [(a, Y)]))
          rw [List.length_append, wcr_append, wcr_one]
          exact H1.out.mono fun p hp _ => ⟨⟨HA.out p (by omega), by omega, by omega⟩, List.getElem?_set_ne (by omega)⟩
        · rcases List.mem_append.1 hp with hp | hp
          · exact HOK.out.waitO p hp
          · obtain rfl := List.mem_singleton.1 hp
            exact ⟨HALT.out, HF.out, HFB.out⟩
      have HL2 : Hid (l.length + 2 ≤ l2.length) := Lib.hid (by have := H2.out; have := HLN.out; simp at *; omega)
      clear H1 H2 H3
      refine (countedR_any w _ _ (Abut A l.length) (.slice pl n cl) v2 { R with wait := R.wait ++ [(a, Y)] } (HR2.out _) (Abut.fresh HA.out (by rw [List.length_set]; exact HL2.out)) HN.out (by have := HW.out; show (R.wait ++ [(a, Y)]).length ≤ _; simp; omega) hc).mono ?_
      rw [HC.out]
      rintro e w' ⟨vl3, vw3, l3, d3, rfl, rfl, hX3, hR3⟩
      have ho3 := RowV.one hR3.lasts
      have ho4 := RowV.one hR3.wait
      have HX3 : Hid (Ext l l3) := Lib.hid ((HX2.out.set (Nat.le_refl _) _).trans hX3)
      have hd0 := (hX3.2 l.length (by rw [List.length_set]; have := HL2.out; omega)).trans (set_some hc0)
      have hd1 := (hX3.2 (l.length + 1) (by rw [List.length_set]; have := HL2.out; omega)).trans (set_other (by omega) hc1.out)
      have HR3 := Lib.hid hR3
      clear hX3 hR3 hc0
      cases b
      all_goals
        go_wp2
        refine ret_mix2 (i := l.length + 1) rfl rfl rfl ag35 (set_some (set_other (by omega) hd1)) rfl rfl ?_
        exact ⟨vl3, vw3, _, _, rfl, rfl, (HX3.out.set (Nat.le_refl _) _).set (Nat.le_succ _) _, ((HR3.out.unbut0 _).unbut1 _).unbut⟩
  · have HE := Lib.hid (show R.put x S = (R, refE R.off R.lasts.length x) by unfold Rk.put; rw [if_neg hr])
    rw [HE.out]
    cases ho : R.off with
    | true =>
      clear h hA hr hn
      go_enter Try.func12, Try.ntmps12
      go_wp2
      refine ret_mix2 (i := l.length + 1) rfl rfl rfl ag35 (at_next rfl) rfl rfl ?_
      exact ⟨vl, vw, _, _, rfl, rfl, Ext.app _ _, H.out.ext (Ext.app _ _)⟩
    | false =>
      rw [ho] at hr
      obtain ⟨pl, cl, rfl, -⟩ := RowV.form h.lasts
      obtain ⟨n, hnn⟩ : ∃ n, R.lasts.length = n := ⟨_, rfl⟩
      rw [hnn] at hr h1 H ⊢
      have hx : x < 0 ∨ (n : Int) ≤ x := by
        rcases Classical.em (x < 0 ∨ (n : Int) ≤ x) with h | h
        · exact h
        · exact absurd (by unfold refE; rw [if_neg (by simp), if_neg h]) hr
      have HX := Lib.hid (show refE false n x = 1 by unfold refE; rw [if_neg (by simp), if_pos hx])
      clear h hA hr hn hnn
      rw [HX.out]
      by_cases h0 : x < 0
      · clear hx
        go_enter Try.func12, Try.ntmps12
        go_wp2
        refine ret_mix2 (i := l.length + 1) rfl rfl rfl ag35 (at_next rfl) rfl rfl ?_
        exact ⟨_, vw, _, _, rfl, rfl, Ext.app _ _, H.out.ext (Ext.app _ _)⟩
      · have hx1 : (n : Int) ≤ x := by omega
        clear hx
        go_enter Try.func12, Try.ntmps12
        go_wp2
        refine ret_mix2 (i := l.length + 1) rfl rfl rfl ag35 (at_next rfl) rfl rfl ?_
        exact ⟨_, vw, _, _, rfl, rfl, Ext.app _ _, H.out.ext (Ext.app _ _)⟩
end Go.Proofs.Ytafbphgfdnmilaa
