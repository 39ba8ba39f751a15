/- The document's counted, Crash: by contract. No condition but that rows are small. -/
import Derived.Test.YtafbphgfdnmilaaF4
namespace Go.Proofs.Ytafbphgfdnmilaa
open Go.RowKit Go.Own
attribute [local go_sem] one_slice ldR ldR0 ldR1 ldR2 ldR3 ldR4 ldR5 ldR6 stR stR0 stR1 stR2 stR5 stR5z stR6 z35 al35 set_same app_left set_left at_mid' set_mid' at_mid2' set_mid2' List.getElem?_set_ne
/-- Where the document's rows may lie, beside two blocks of the call's own. -/
def Abut (A : Nat → Prop) (n : Nat) : Nat → Prop := fun p => A p ∧ p ≠ n ∧ p ≠ n + 1
theorem Abut.fresh {A : Nat → Prop} {n m : Nat} (h : ∀ p, n ≤ p → A p) (hm : n + 2 ≤ m) : ∀ p, m ≤ p → Abut A n p := fun p hp => ⟨h p (by omega), by omega, by omega⟩
theorem RAt.abut {A : Nat → Prop} {w : World} {l : List Obj} {vl vw : Value} {R : Rk} (h : RAt A w l vl vw R) (g : List Obj) : RAt (Abut A l.length) w (l ++ g) vl vw R :=
  h.mono fun p hp hlt => ⟨⟨hp, by omega, by omega⟩, List.getElem?_append_left hlt⟩
theorem RAt.unbut {A : Nat → Prop} {n : Nat} {w : World} {l : List Obj} {vl vw : Value} {R : Rk} (h : RAt (Abut A n) w l vl vw R) : RAt A w l vl vw R := h.mono fun _ hp _ => ⟨hp.1, rfl⟩
theorem RAt.unbut0 {A : Nat → Prop} {n : Nat} {w : World} {l : List Obj} {vl vw : Value} {R : Rk} (h : RAt (Abut A n) w l vl vw R) (X : Obj) : RAt (Abut A n) w (l.set n X) vl vw R := h.mono fun _ hp _ => ⟨hp, List.getElem?_set_ne hp.2.1.symm⟩
theorem RAt.unbut1 {A : Nat → Prop} {n : Nat} {w : World} {l : List Obj} {vl vw : Value} {R : Rk} (h : RAt (Abut A n) w l vl vw R) (X : Obj) : RAt (Abut A n) w (l.set (n + 1) X) vl vw R := h.mono fun _ hp _ => ⟨hp, List.getElem?_set_ne hp.2.2.symm⟩
theorem RAt.with {A : Nat → Prop} {w : World} {l : List Obj} {vl vw : Value} {R : Rk} (h : RAt A w l vl vw R) (R' : Rk) (h1 : R'.lasts = R.lasts) (h2 : R'.wait = R.wait) : RAt A w l vl vw R' := by
  obtain ⟨a, b, c⟩ := h
  refine ⟨by rw [h1]; exact a, by rw [h2]; exact b, ⟨by rw [h1]; exact c.lastO, by rw [h1, h2]; exact c.waitO⟩⟩
set_option maxRecDepth 100000 in
set_option maxHeartbeats 1000000 in
theorem countedR_any (w : World) (l : List Obj) (d : Nat) (A : Nat → Prop) (vl vw : Value) (R : Rk) (h : RAt A w l vl vw R) (hA : ∀ p, l.length ≤ p → A p) (hn : R.lasts.length ≤ 4096) (hw : R.wait.length ≤ 1000) (hc : R.count ≤ 1099511627776) :
    Calls Try.prog 31 #[.agg (rc vl vw R)] (Wd w l d) (RetR A w l R.counted.1 fun v => .tuple #[v, .bool R.counted.2]) := by
  have h1 := RowV.one h.lasts
  have h2 := RowV.one h.wait
  have H := Lib.hid h
  have HA := Lib.hid hA
  clear h hA
  by_cases hf : 1 ≤ R.cat ∧ R.cat = (R.count : Int) + 1
  · have HE := Lib.hid (show R.counted = (({ R with count := R.count + 1 } : Rk).fail R.keep R.torn, true) by unfold Rk.counted; rw [if_pos hf])
    rw [HE.out]
    obtain ⟨hf1, hf2⟩ := hf
    have hf3 : (R.cat == (R.count : Int) + 1) = true := by rw [beq_iff_eq]; exact hf2
    clear hf2
    go_enter Try.func31, Try.ntmps31
    go_wp2_with fail
    refine (failR_any w _ _ (Abut A l.length) vl vw { R with count := R.count + 1 } ((H.out.abut _).with _ rfl rfl) (Abut.fresh HA.out (by simp)) hn hw R.keep R.torn).mono ?_
    rintro e w' ⟨vl', vw', l', d', rfl, rfl, hX, hR⟩
    have ho1 := RowV.one hR.lasts
    have ho2 := RowV.one hR.wait
    have hb1 := (hX.2 (l.length + 1) (by simp)).trans (at_next rfl)
    have HX := Lib.hid hX
    have HR := Lib.hid hR
    clear hX hR
    go_wp2
    refine ret_mix2 (i := l.length + 1) rfl rfl rfl ag35 (set_some hb1) rfl rfl ?_
    exact ⟨vl', vw', _, _, rfl, rfl, ((Ext.app l _).trans HX.out).set (Nat.le_succ _) _, (HR.out.unbut1 _).unbut⟩
  · have HE := Lib.hid (show R.counted = ({ R with count := R.count + 1 }, false) by unfold Rk.counted; rw [if_neg hf])
    rw [HE.out]
    have hf' : ¬ 1 ≤ R.cat ∨ (1 ≤ R.cat ∧ (R.cat == (R.count : Int) + 1) = false) := by
      by_cases h : 1 ≤ R.cat
      · exact .inr ⟨h, by rw [beq_eq_false_iff_ne]; exact fun e => hf ⟨h, e⟩⟩
      · exact .inl h
    clear hf
    rcases hf' with hf | ⟨hf1, hf2⟩
    all_goals
      go_enter Try.func31, Try.ntmps31
      go_wp2
      refine ret_mix2 (i := l.length + 1) rfl rfl rfl ag35 (at_next rfl) rfl rfl ?_
      exact ⟨vl, vw, _, _, rfl, rfl, Ext.app _ _, (H.out.ext (Ext.app _ _)).with _ rfl rfl⟩
set_option maxRecDepth 100000 in
set_option maxHeartbeats 1000000 in
theorem crashR_any (w : World) (l : List Obj) (d : Nat) (A : Nat → Prop) (vl vw : Value) (R : Rk) (h : RAt A w l vl vw R) (hA : ∀ p, l.length ≤ p → A p) (hn : R.lasts.length ≤ 4096) (hw : R.wait.length ≤ 1000) (k : Nat) (t : Int) :
    Calls Try.prog 20 #[.agg (rc vl vw R), .int .u64 (k : Int), .int .i64 t] (Wd w l d) (RetR A w l (R.crash k t) fun v => v) := by
  have h1 := RowV.one h.lasts
  have h2 := RowV.one h.wait
  have H := Lib.hid h
  have HA := Lib.hid hA
  clear h hA
  cases ho : R.off with
  | true =>
    have HE := Lib.hid (show R.crash k t = R by unfold Rk.crash; rw [if_pos ho])
    rw [HE.out]
    go_enter Try.func20, Try.ntmps20
    go_wp2
    refine ret_mix (i := l.length + 1) rfl rfl ag35 (at_next rfl) rfl rfl ?_
    exact ⟨vl, vw, _, _, rfl, rfl, Ext.app _ _, H.out.ext (Ext.app _ _)⟩
  | false =>
    have HE := Lib.hid (show R.crash k t = R.fail k t by unfold Rk.crash; rw [if_neg (by rw [ho]; simp)])
    rw [HE.out]
    go_enter Try.func20, Try.ntmps20
    go_wp2_with fail
    refine (failR_any w _ _ (Abut A l.length) vl vw R (H.out.abut _) (Abut.fresh HA.out (by simp)) hn hw k t).mono ?_
    rintro e w' ⟨vl', vw', l', d', rfl, rfl, hX, hR⟩
    have ho1 := RowV.one hR.lasts
    have ho2 := RowV.one hR.wait
    have hb1 := (hX.2 (l.length + 1) (by simp)).trans (at_next rfl)
    have HX := Lib.hid hX
    have HR := Lib.hid hR
    clear hX hR
    go_wp2
    refine ret_mix (i := l.length + 1) rfl rfl ag35 (set_some hb1) rfl rfl ?_
    exact ⟨vl', vw', _, _, rfl, rfl, ((Ext.app l _).trans HX.out).set (Nat.le_succ _) _, (HR.out.unbut1 _).unbut⟩
end Go.Proofs.Ytafbphgfdnmilaa
