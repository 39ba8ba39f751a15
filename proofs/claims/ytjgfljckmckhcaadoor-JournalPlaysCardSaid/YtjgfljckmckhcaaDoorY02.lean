/- The document's journal: a text more: by contract. No condition but the sizes. -/
import Derived.Test.YtjgfljckmckhcaaDoorY01
namespace Go.Proofs.YtjgfljckmckhcaaDoor
open Go Go.RowKit Go.Own
/-- What the document's journal leaves. -/
def ModQ (w : World) (A : Nat → Prop) (l : List Obj) (r : Md × Nat) (e : Ending) (w' : World) : Prop :=
  ∃ vt' g' d', e = .returned (.tuple #[.agg (mc r.1.half vt' r.1.taken r.1.gen), .int .i64 ((r.2 : Nat) : Int)]) ∧ w' = Wd w (l ++ g') d' ∧ RowV (fun p => A p ∨ l.length ≤ p) w (l ++ g') 1 r.1.texts.length vt' (strs r.1.texts)
/-- A row of texts in whatever has grown. -/
def roB (w : World) (B n : Nat) (C : List Value) (v : Value) (W : World) : Prop := (∃ L d, W = Wd w L d ∧ B ≤ L.length ∧ RowV (fun p => B ≤ p) w L 1 n v C) ∧ (n = 0 → ∃ q, v = .slice q 0 0)
theorem roB_last (w : World) (B n : Nat) (C : List Value) : Lasts (roB w B n C) := by
  rintro v W W' ⟨⟨L, d, rfl, hb, hr⟩, h0⟩ hB
  obtain ⟨g, d', rfl⟩ := below_grows hB
  exact ⟨⟨L ++ g, d', rfl, by rw [List.length_append]; omega, hr.more g⟩, h0⟩
/-- What an append within a row leaves. -/
def RelN (w : World) (n : Nat) (W W' : World) : Prop := ∃ L d L' d', W = Wd w L d ∧ W' = Wd w L' d' ∧ L.length ≤ L'.length ∧ ∀ (p : Nat) c t f, L[p]? = some (.cells c t f) → ∃ c', L'[p]? = some (.cells c' t f) ∧ c'.size = c.size ∧ ∀ k, (k < n ∨ k < 1) → c'[k]? = c[k]?
theorem roB_rel {w : World} {B n m : Nat} {C : List Value} {v : Value} {W W' : World} (h : roB w B n C v W) (hR : RelN w m W W') (hn : n ≤ m) : roB w B n C v W' := by
  obtain ⟨⟨L, d, rfl, hb, hr⟩, h0⟩ := h
  obtain ⟨L1, d1, L', d', e1, rfl, hl, hs⟩ := hR
  obtain rfl := Wd_inj e1
  refine ⟨⟨L', d', rfl, by omega, ?_⟩, h0⟩
  rcases hr with hr | ⟨i, c, X, t, hA, hv, hi, hX, hnc, hXt⟩
  · exact .inl hr
  · obtain ⟨c', h1, h2, h3⟩ := hs i _ _ _ hi
    refine .inr ⟨i, c, c'.toList, t, hA, hv, by rw [Array.toArray_toList]; exact h1, by rw [Array.length_toList, h2, List.size_toArray]; exact hX, hnc, ?_⟩
    rw [← hXt]
    apply List.ext_getElem?
    intro k
    by_cases hk : k < n * 1
    · rw [List.getElem?_take_of_lt hk, List.getElem?_take_of_lt hk, Array.getElem?_toList, h3 k (.inl (by omega)), List.getElem?_toArray]
    · rw [List.getElem?_eq_none (by rw [List.length_take]; omega), List.getElem?_eq_none (by rw [List.length_take]; omega)]
theorem litB_rel {w : World} {B m : Nat} {x v : Value} {t : TypeId} {W W' : World} (h : litB (w.heap.size + B) x t v W) (hR : RelN w m W W') : litB (w.heap.size + B) x t v W' := by
  obtain ⟨b, hb, hv, hk⟩ := h
  obtain ⟨L, d, L', d', rfl, rfl, hl, hs⟩ := hR
  obtain ⟨j, rfl⟩ : ∃ j, b = w.heap.size + j := ⟨b - w.heap.size, by omega⟩
  rw [blk_at] at hk
  obtain ⟨c', h1, h2, h3⟩ := hs j _ _ _ hk
  have hc : c' = #[x] := by
    apply Array.ext_getElem?
    intro k
    by_cases h0 : k < 1
    · exact h3 k (.inr h0)
    · rw [Array.getElem?_eq_none (by rw [h2]; simp; omega), Array.getElem?_eq_none (by simp; omega)]
  exact ⟨_, hb, hv, by rw [blk_at, h1, hc]⟩
attribute [-go_sem] Sm.execOp_bs run_string_add_if
set_option linter.unusedSimpArgs false in
theorem bs320 (w : World) (l : List Obj) (d : Nat) : (bsN 32 0 #[]).run Tryd.prog (Wd w l d) = .ok (.slice (some ⟨w.heap.size + l.length, 0, none⟩) 0 0) (Wd w (l ++ [.cells #[] 9 (0, 0)]) d) := by
  have hz : (Tryd.prog.info? 9).bind (·.zero) = some (.string .empty) := by kernel_rfl
  have hr : Array.range 0 = #[] := by
    apply Array.ext'; rw [Array.toList_range]; rfl
  unfold bsN Instr.buildSlice
  simp [run_underlying Tryd.underlying32, szj9, run_zeroOf' hz, hr, Instr.fill, newRow, Wd_size, Wd_alloc]
set_option maxRecDepth 100000 in
theorem lays_bs0 {dst : Option Tmp} {ty : TypeId} {pos : String} {after : Array Edge} {guard : Option (Nat × Bool)} {j : Nat} {ps : List (Value → World → Prop)} {a : Act} {w : World} {L : List Obj} {d B : Nat} (hB : B ≤ L.length) (hT : ∀ u W, roB w B 0 [] u W → TL ps j u W) : Lays Tryd.prog (TL ps) j { dst, op := .buildSlice 32 0 #[], type := ty, pos, after, guard } a (Wd w L d) := by
  have hb := bs320 w L d
  unfold bsN at hb
  have he : (execOp a.eval { dst, op := .buildSlice 32 0 #[], type := ty, pos, after, guard }).run Tryd.prog (Wd w L d) = .ok (.value (.slice (some ⟨w.heap.size + L.length, 0, none⟩) 0 0)) (Wd w (L ++ [.cells #[] 9 (0, 0)]) d) := by
    unfold execOp
    simp only [List.map_toArray, List.map_nil, Sem.run_bind, hb, Result.andThen_ok]
    rfl
  exact lays_value he (below_of _ _ _ _ _) (hT _ _ ⟨⟨_, d, rfl, by rw [List.length_append]; omega, .inr ⟨L.length, 0, [], 9, hB, rfl, by simp, rfl, Nat.le_refl _, rfl⟩⟩, fun _ => ⟨_, rfl⟩⟩)
set_option maxRecDepth 100000 in
/-- append of a row to an empty one that was just made. -/
theorem lays_app1 {dst : Option Tmp} {ty : TypeId} {pos : String} {after : Array Edge} {guard : Option (Nat × Bool)} {x y : Operand} {j : Nat} {ps : List (Value → World → Prop)} {a : Act} {w : World} {L : List Obj} {d B n : Nat} {A : Nat → Prop} {u : Value} {C : List Value} (h1 : roB w B 0 [] (a.eval x) (Wd w L d)) (h2 : a.eval y = u) (hr : RowV A w L 1 n u C) (ho : ∀ v ∈ C, v.oneCell' = true) (hn : n ≤ 1000000)
    (hT : ∀ v W, roB w B n C v W → TL ps j v W) : Lays Tryd.prog (TL ps) j { dst, op := .call { callee := .builtin .append, args := #[x, y], argTypes := #[32, 32] }, type := ty, pos, after, guard } a (Wd w L d) := by
  obtain ⟨⟨L1, d1, e1, hb, hr1⟩, h0⟩ := h1
  obtain rfl := Wd_inj e1
  obtain ⟨q0, hq0⟩ := h0 rfl
  obtain ⟨v', l', d', hrun, k1, k2, k3, k4, k5⟩ := append_row2 (d := d) rt32 (fun p hp => by omega) hr1 hr ty ho (by omega) (fun _ => ⟨q0, hq0⟩)
  rw [Nat.zero_add, List.nil_append] at k1
  have hpre : ∀ p, p < L.length → l'[p]? = L[p]? := fun p hp => by
    by_cases hnp : NotAt w (a.eval x) p
    · exact k3 p hp hnp
    · rcases hr1 with ⟨hv, _⟩ | ⟨i, c, X, t, _, hv, hi, hX, _, _⟩
      · exact absurd (fun n c e => by rw [hv] at e; simp at e) hnp
      · have hip : i = p := by
          by_cases e : i = p
          · exact e
          · exact absurd (fun n c e2 => by rw [hv] at e2; simp at e2; try omega) hnp
        subst hip
        rw [hq0] at hv
        simp only [Value.slice.injEq] at hv
        obtain ⟨_, _, rfl⟩ := hv
        have hX0 : X = [] := List.length_eq_zero_iff.1 (by omega)
        subst hX0
        obtain ⟨c', m1, m2, _⟩ := k4 i _ _ _ hi
        rw [m1, hi]
        have : c' = #[] := Array.eq_empty_of_size_eq_zero (by rw [m2]; rfl)
        rw [this]
  obtain ⟨g, rfl⟩ := prefix_of hpre
  have hr' : (Builtin.append_ #[32, 32] ty #[a.eval x, u]).run Tryd.prog (Wd w L d) = .ok v' (Wd w (L ++ g) d') := hrun
  have he : (execOp a.eval { dst, op := .call { callee := .builtin .append, args := #[x, y], argTypes := #[32, 32] }, type := ty, pos, after, guard }).run Tryd.prog (Wd w L d) = .ok (.value v') (Wd w (L ++ g) d') := by
    simp [execOp, resolve, invoke, builtin, h2, hr', Result.andThen]
  refine lays_value he (below_of _ _ _ _ _) (hT _ _ ⟨⟨L ++ g, d', rfl, by rw [List.length_append]; omega, k1⟩, fun hn0 => ?_⟩)
  exact ⟨q0, by rw [k5 hn0, hq0]⟩
set_option maxRecDepth 100000 in
/-- append of one text to a row. -/
theorem app_two {P : Program} {dst : Option Tmp} {ty : TypeId} {pos : String} {after : Array Edge} {guard : Option (Nat × Bool)} {x y : Operand} {a : Act} {w W : World} {L0 : List Obj} {n : Nat} {C : List Value} {s : ByteArray} {Q : Exit → Act → World → Prop} (h1 : roB w L0.length n C (a.eval x) W) (h2 : litB (w.heap.size + L0.length) (.string s) 9 (a.eval y) W) (hW : ∃ L d, W = Wd w L d ∧ L0.length ≤ L.length ∧ ∀ p, p < L0.length → L[p]? = L0[p]?) (hn : n ≤ 1000000) (hP : P = Tryd.prog := by rfl) :
    Oper.wp P { dst, op := .call { callee := .builtin .append, args := #[x, y], argTypes := #[32, 32] }, type := ty, pos, after, guard } a W (fun a' W' => ∃ v, a' = a.put dst v ∧ RelN w n W W' ∧ (∃ L d, W' = Wd w L d ∧ L0.length ≤ L.length ∧ ∀ p, p < L0.length → L[p]? = L0[p]?) ∧ roB w L0.length (n + 1) (C ++ [.string s]) v W') Q := by
  subst hP
  obtain ⟨L, d, rfl, hl, hs⟩ := hW
  obtain ⟨⟨L1, d1, e1, hb, hr1⟩, h0⟩ := h1
  obtain rfl := Wd_inj e1
  obtain ⟨b, hbb, hv2, hk⟩ := h2
  obtain ⟨i, rfl⟩ : ∃ i, b = w.heap.size + i := ⟨b - w.heap.size, by omega⟩
  rw [blk_at] at hk
  have hr2 : RowV (fun _ => True) w L 1 1 (a.eval y) [.string s] := .inr ⟨i, 1, [.string s], 9, trivial, hv2, hk, rfl, Nat.le_refl _, rfl⟩
  obtain ⟨v', l', d', hrun, k1, k2, k3, k4, _⟩ := append_row2 (d := d) rt32 (fun p hp => by omega) hr1 hr2 ty (by intro u hu; rw [List.mem_singleton.1 hu]; rfl) (by omega) h0
  have hr' : (Builtin.append_ #[32, 32] ty #[a.eval x, a.eval y]).run Tryd.prog (Wd w L d) = .ok v' (Wd w l' d') := hrun
  have he : (execOp a.eval { dst, op := .call { callee := .builtin .append, args := #[x, y], argTypes := #[32, 32] }, type := ty, pos, after, guard }).run Tryd.prog (Wd w L d) = .ok (.value v') (Wd w l' d') := by
    simp [execOp, resolve, invoke, builtin, hr', Result.andThen]
  unfold Oper.wp
  rw [he]
  refine ⟨v', rfl, ⟨L, d, l', d', rfl, rfl, k2, fun p c t f hp => ?_⟩, ⟨l', d', rfl, by omega, fun p hp => ?_⟩, ⟨l', d', rfl, by omega, k1⟩, fun e => by omega⟩
  · obtain ⟨c', m1, m2, m3⟩ := k4 p c t f hp
    exact ⟨c', m1, m2, fun k hk => m3 k (by omega)⟩
  · rw [k3 p (by omega) (rowV_off hr1 (by omega))]
    exact hs p hp
attribute [local go_sem] agj9 isaj9 csj9 szj9 agj32 isaj32 csj32 szj32 ag34 cs34 sz34 z34 alXA bu34a bu34b bu34c ldM0 ldM1 ldM2 ldM3 ldMA stMs
set_option maxRecDepth 100000 in
set_option maxHeartbeats 4000000 in
theorem rapp_any (w : World) (l : List Obj) (d : Nat) (A : Nat → Prop) (m : Md) (vt : Value) (hrow : RowV A w l 1 m.texts.length vt (strs m.texts)) (s : ByteArray) (hs : s.size ≤ 140737488351232) (hh : m.half ≤ 100000) (ht : m.taken ≤ m.half) (hn : m.texts.length ≤ 100000) :
    Calls Tryd.prog 28 #[.agg (mc m.half vt m.taken m.gen), .string s] (Wd w l d) fun e w' => ModQ w A l (m.app (bys s)) e w' := by
  obtain ⟨h, ts, tk, g⟩ := m
  obtain ⟨n, hnn⟩ : ∃ n, ts.length = n := ⟨_, rfl⟩
  simp only at hrow hh ht hn ⊢
  rw [hnn] at hrow hn
  obtain ⟨q0, c0, hq0⟩ := hrow.form
  obtain ⟨rm, hrm⟩ : ∃ rm, min 65535 (((h : Int) - tk) * 64 - 50) = rm := ⟨_, rfl⟩
  have HRM := Lib.hid fun l d => rroom_any h tk g vt hh ht w l d
  rw [hrm] at HRM
  have HN := Lib.hid hn
  have HNN := Lib.hid hnn
  have HROW := Lib.hid hrow
  by_cases hr : rm < (s.size : Int)
  · have HA : Hid ((⟨h, ts, tk, g⟩ : Md).app (bys s) = (⟨h, ts, tk, g⟩, 6)) := Lib.hid (by
      unfold Md.app Md.room
      rw [if_pos (by rw [bys_length]; show min 65535 (((h : Int) - tk) * 64 - 50) < _; rw [hrm]; exact hr)])
    subst hq0
    clear hrow hrm hnn hn
    go_enter Tryd.func28, Tryd.ntmps28
    go_wp2_with fail
    refine (HRM.out _ _).mono ?_
    rintro e w' ⟨rfl, g1, d1, rfl⟩
    have hz1 : ∀ g' : List Obj, (l ++ Obj.cells (mc h (.slice q0 n c0) tk g) 34 (0, 0) :: Obj.cells (mc 0 (.slice none 0 0) 0 0) 34 (0, 0) :: g')[l.length + 1]? = some (Obj.cells (mc 0 (.slice none 0 0) 0 0) 34 (0, 0)) := fun g' => by rw [List.getElem?_append_right (by omega), Nat.add_sub_cancel_left]; rfl
    go_wp2_with fail
    refine ret_mix2 (i := l.length + 1) (c := mc h (.slice q0 n c0) tk g) (t := 34) (f := (0, 0)) rfl rfl rfl ag34 (by rw [List.getElem?_append_right (by omega), Nat.add_sub_cancel_left]; rfl) rfl rfl ?_
    rw [HA.out]
    refine ⟨.slice q0 n c0, _, _, rfl, rfl, ?_⟩
    show RowV _ w _ 1 ts.length _ _
    rw [HNN.out]
    exact (HROW.out.more _).mono fun p hp _ => ⟨.inl hp, rfl⟩
  · obtain ⟨S, hS⟩ : ∃ S, secs s.size = S := ⟨_, rfl⟩
    have HTK := Lib.hid fun W => rtakes_any s hs W
    rw [hS] at HTK
    obtain ⟨TK, hTK⟩ : ∃ TK, tk + S = TK := ⟨_, rfl⟩
    have hrm2 : rm ≤ 65535 := by omega
    have hSs : S ≤ 2000 := by rw [← hS]; unfold secs; omega
    have HSM : Hid ((tk : Int) + (S : Int) = (TK : Int) ∧ (TK : Int) ≤ 1000000) := Lib.hid (by omega)
    have HA : Hid ((⟨h, ts, tk, g⟩ : Md).app (bys s) = (⟨h, ts ++ [bys s], TK, max g 1⟩, 0)) := Lib.hid (by
      unfold Md.app Md.room
      rw [if_neg (by rw [bys_length]; show ¬ min 65535 (((h : Int) - tk) * 64 - 50) < _; rw [hrm]; exact hr), bys_length, hS, hTK])
    have hri : ¬ rm < (s.size : Int) := hr
    obtain ⟨R, hR⟩ : ∃ R, (⟨h, ts, tk, g⟩ : Md).app (bys s) = R := ⟨_, rfl⟩
    rw [hR] at HA ⊢
    clear hrow hrm hnn hn hS hTK hrm2 hSs hR hr hh ht hs hq0
    by_cases hg0 : g = 0
    · have HG0 : Hid ((g : Int) = 0) := Lib.hid (by omega)
      have HGZ := Lib.hid hg0
      clear hg0
      go_enter Tryd.func28, Tryd.ntmps28
      refine wp_seq_k fun K1 hK1 => ?_
      have HK1 := Lib.hid hK1
      clear hK1
      go_wp2
      refine HK1.out _ _ ?_
      clear HK1
      refine wp_seq_k fun K2 hK2 => ?_
      have HK2 := Lib.hid hK2
      clear hK2
      go_wp2_with fail
      refine (HRM.out _ _).mono ?_
      rintro e w' ⟨rfl, g1, d1, rfl⟩
      go_wp2
      refine HK2.out _ _ ?_
      clear HK2
      refine wp_seq_k fun K3 hK3 => ?_
      have HK3 := Lib.hid hK3
      clear hK3
      have hbx0 : ∀ d, blk (Wd w (l ++ Obj.cells (mc h vt tk g) 34 (0, 0) :: Obj.cells (mc 0 (.slice none 0 0) 0 0) 34 (0, 0) :: g1) d) (w.heap.size + l.length) = some (Obj.cells (mc h vt tk g) 34 (0, 0)) := fun d => by rw [blk_at]; simp
      go_wp2
      refine HK3.out _ _ ?_
      clear HK3
      obtain ⟨L0, hL0⟩ : ∃ L0, l ++ Obj.cells (mc h vt tk g) 34 (0, 0) :: Obj.cells (mc 0 (.slice none 0 0) 0 0) 34 (0, 0) :: g1 = L0 := ⟨_, rfl⟩
      have HLT : Hid (l.length < L0.length) := Lib.hid (by rw [← hL0, List.length_append, List.length_cons]; omega)
      have HLT2 : Hid (l.length + 1 < L0.length) := Lib.hid (by rw [← hL0, List.length_append, List.length_cons, List.length_cons]; omega)
      have HBX : Hid (L0[l.length]? = some (Obj.cells (mc h vt tk g) 34 (0, 0))) := Lib.hid (by rw [← hL0]; simp)
      have HZ : Hid (L0[l.length + 1]? = some (Obj.cells (mc 0 (.slice none 0 0) 0 0) 34 (0, 0))) := Lib.hid (by rw [← hL0, List.getElem?_append_right (by omega), Nat.add_sub_cancel_left]; rfl)
      have HPR : Hid (∀ p, p < l.length → L0[p]? = l[p]?) := Lib.hid fun p hp => by rw [← hL0, List.getElem?_append_left hp]
      have HRO : Hid (RowV A w L0 1 n vt (strs ts)) := Lib.hid (HROW.out.mono fun p hp hlt => ⟨hp, HPR.out p hlt⟩)
      have HFIN : Hid (∀ (Lw : List Obj) (dw : Nat) (v9 : Value), L0.length ≤ Lw.length → (∀ p, p < L0.length → Lw[p]? = L0[p]?) → RowV (fun p => L0.length ≤ p) w Lw 1 (n + 1) v9 (strs ts ++ [.string s]) → ∀ (c : Array Value), c = mc h v9 TK (max g 1) → ModQ w A l R (.returned (.tuple #[.agg c, .int .i64 0])) (Wd w (Lw.set (l.length + 1) (Obj.cells c 34 (0, 0))) dw)) := Lib.hid fun Lw dw v9 h1 h2 h3 c hc => by
        have hl1 := HLT2.out
        have hpre : ∀ p, p < l.length → (Lw.set (l.length + 1) (Obj.cells c 34 (0, 0)))[p]? = l[p]? := fun p hp => by
          rw [List.getElem?_set_ne (by omega), h2 p (by omega)]; exact HPR.out p hp
        obtain ⟨g', hg'⟩ := prefix_of hpre
        rw [hg', HA.out]
        refine ⟨v9, g', dw, by rw [hc]; rfl, rfl, ?_⟩
        rw [← hg']
        show RowV _ w _ 1 (ts ++ [bys s]).length v9 (strs (ts ++ [bys s]))
        rw [strs_snoc, List.length_append, HNN.out]
        exact h3.mono fun p hp hlt => ⟨.inr (by omega), List.getElem?_set_ne (by omega)⟩
      rw [hL0]
      clear hL0 hbx0 HROW
      refine wp_seq_k fun K4 hK4 => ?_
      have HK4 := Lib.hid hK4
      clear hK4
      have hg0i := HG0.out
      go_wp2
      refine HK4.out _ _ ?_
      clear HK4 hg0i
      refine wp_seq ?_
      refine wp_region_fine_spec 15 8 (by simp) (fun _ W => ∃ L d, W = Wd w L d ∧ L0.length ≤ L.length ∧ ∀ p, p < L0.length → L[p]? = L0[p]?) (RelN w n) (TL [eqv (.pointer (some ⟨w.heap.size + l.length, 0, none⟩)), eqv (.int .i64 (h : Int)), roB w L0.length 0 [], eqv (.pointer (some ⟨w.heap.size + l.length, 1, none⟩)), eqv vt, roB w L0.length n (strs ts), eqv (.string s), litB (w.heap.size + L0.length) (.string s) 9, roB w L0.length (n + 1) (strs ts ++ [.string s]), eqv (.pointer (some ⟨w.heap.size + l.length, 2, none⟩)), eqv (.int .i64 (tk : Int)), eqv (.string s), eqv (.int .i64 (S : Int)), eqv (.int .i64 (TK : Int)), eqv (.int .i64 1)]) (by kernel_rfl) (by kernel_rfl) (by kernel_rfl) (by kernel_rfl) ?hW0 ?hWB ?hlS (TL_last (List.forall_mem_cons.2 ⟨eqv_last _, List.forall_mem_cons.2 ⟨eqv_last _, List.forall_mem_cons.2 ⟨roB_last _ _ _ _, List.forall_mem_cons.2 ⟨eqv_last _, List.forall_mem_cons.2 ⟨eqv_last _, List.forall_mem_cons.2 ⟨roB_last _ _ _ _, List.forall_mem_cons.2 ⟨eqv_last _, List.forall_mem_cons.2 ⟨litB_last _ _ _, List.forall_mem_cons.2 ⟨roB_last _ _ _ _, List.forall_mem_cons.2 ⟨eqv_last _, List.forall_mem_cons.2 ⟨eqv_last _, List.forall_mem_cons.2 ⟨eqv_last _, List.forall_mem_cons.2 ⟨eqv_last _, List.forall_mem_cons.2 ⟨eqv_last _, List.forall_mem_cons.2 ⟨eqv_last _, fun _ h => (List.not_mem_nil h).elim⟩⟩⟩⟩⟩⟩⟩⟩⟩⟩⟩⟩⟩⟩⟩)) (TL_no_guard (by kernel_rfl)) ?hsp ?hst ?hen
      case hW0 => exact ⟨L0, _, rfl, Nat.le_refl _, fun _ _ => rfl⟩
      case hWB =>
        rintro b W W' ⟨L, d, rfl, h1, h2⟩ hB
        obtain ⟨g', d', rfl⟩ := below_grows hB
        exact ⟨L ++ g', d', rfl, by rw [List.length_append]; omega, fun p hp => by rw [List.getElem?_append_left (by omega)]; exact h2 p hp⟩
      case hlS =>
        intro ix o v W W' _ _ hne hT hR
        match ix, hne, hT with
        | 0, _, hT => exact hT
        | 1, _, hT => exact hT
        | 2, _, hT => exact roB_rel hT hR (by omega)
        | 3, _, hT => exact hT
        | 4, _, hT => exact hT
        | 5, _, hT => exact roB_rel hT hR (by omega)
        | 6, _, hT => exact hT
        | 7, _, hT => exact litB_rel hT hR
        | 8, hne, _ => exact absurd rfl hne
        | 9, _, hT => exact hT
        | 10, _, hT => exact hT
        | 11, _, hT => exact hT
        | 12, _, hT => exact hT
        | 13, _, hT => exact hT
        | 14, _, hT => exact hT
        | ix + 15, _, _ => trivial
      case hsp =>
        intro o ho a W hW hdep hfix Q
        simp only [List.take_succ_cons, List.take_zero] at ho hdep hfix
        simp only [List.getElem?_cons_zero, List.getElem?_cons_succ, Option.some.injEq] at ho; subst ho
        have e1 : roB w L0.length n (strs ts) (a.tmps.getD 22 undef) W := hdep 5 _ 22 rfl rfl (by decide +kernel)
        have e2 : litB (w.heap.size + L0.length) (.string s) 9 (a.tmps.getD 24 undef) W := hdep 7 _ 24 rfl rfl (by decide +kernel)
        exact app_two e1 e2 hW (by have := HN.out; omega)
      case hst =>
        intro ix o ho hne a W b hW hwt hdep hfix
        simp only [List.take_succ_cons, List.take_zero] at ho hdep hfix
        obtain ⟨Lw, dw, rfl, hlw, hsw⟩ := hW
        have hbx : blk (Wd w Lw dw) (w.heap.size + l.length) = some (Obj.cells (mc h vt tk g) 34 (0, 0)) := by rw [blk_at, hsw _ HLT.out]; exact HBX.out
        match ix, ho, hne with
        | 0, ho, _ =>
          simp only [List.getElem?_cons_zero, Option.some.injEq] at ho; subst ho
          exact lays_eq _ rfl (exec_field (off := 0) (hfix 2 (by decide +kernel)) (by simp [go_sem]))
        | 1, ho, _ =>
          simp only [List.getElem?_cons_zero, List.getElem?_cons_succ, Option.some.injEq] at ho; subst ho
          have e1 : a.tmps.getD 17 undef = .pointer (some ⟨w.heap.size + l.length, 0, none⟩) := hdep 0 _ 17 rfl rfl (by decide +kernel)
          exact lays_eq _ rfl (exec_load e1 (ldM0 (isa3 _) hbx))
        | 2, ho, _ =>
          simp only [List.getElem?_cons_zero, List.getElem?_cons_succ, Option.some.injEq] at ho; subst ho
          exact lays_bs0 hlw (fun _ _ h => h)
        | 3, ho, _ =>
          simp only [List.getElem?_cons_zero, List.getElem?_cons_succ, Option.some.injEq] at ho; subst ho
          exact lays_eq _ rfl (exec_field (off := 1) (hfix 2 (by decide +kernel)) (by simp [go_sem]))
        | 4, ho, _ =>
          simp only [List.getElem?_cons_zero, List.getElem?_cons_succ, Option.some.injEq] at ho; subst ho
          have e1 : a.tmps.getD 20 undef = .pointer (some ⟨w.heap.size + l.length, 1, none⟩) := hdep 3 _ 20 rfl rfl (by decide +kernel)
          exact lays_eq _ rfl (exec_load e1 (ldM1 (isaj32 _) hbx))
        | 5, ho, _ =>
          simp only [List.getElem?_cons_zero, List.getElem?_cons_succ, Option.some.injEq] at ho; subst ho
          have e1 : roB w L0.length 0 [] (a.tmps.getD 19 undef) (Wd w Lw dw) := hdep 2 _ 19 rfl rfl (by decide +kernel)
          have e2 : a.tmps.getD 21 undef = vt := hdep 4 _ 21 rfl rfl (by decide +kernel)
          exact lays_app1 e1 e2 (HRO.out.mono (B := fun _ => True) fun p hp hlt => ⟨trivial, hsw p hlt⟩) (strs_one _) (by have := HN.out; omega) (fun _ _ h => h)
        | 6, ho, _ =>
          simp only [List.getElem?_cons_zero, List.getElem?_cons_succ, Option.some.injEq] at ho; subst ho
          exact lays_eq _ rfl (exec_move (hfix 1 (by decide +kernel)))
        | 7, ho, _ =>
          simp only [List.getElem?_cons_zero, List.getElem?_cons_succ, Option.some.injEq] at ho; subst ho
          have e1 : a.tmps.getD 23 undef = .string s := hdep 6 _ 23 rfl rfl (by decide +kernel)
          exact lays_bsB (by rw [Wd_size]; omega) (fun w l d => bsj32s _ w l d) e1 (fun _ _ h => h)
        | 8, _, hne => exact absurd rfl hne
        | 9, ho, _ =>
          simp only [List.getElem?_cons_zero, List.getElem?_cons_succ, Option.some.injEq] at ho; subst ho
          exact lays_eq _ rfl (exec_field (off := 2) (hfix 2 (by decide +kernel)) (by simp [go_sem]))
        | 10, ho, _ =>
          simp only [List.getElem?_cons_zero, List.getElem?_cons_succ, Option.some.injEq] at ho; subst ho
          have e1 : a.tmps.getD 26 undef = .pointer (some ⟨w.heap.size + l.length, 2, none⟩) := hdep 9 _ 26 rfl rfl (by decide +kernel)
          exact lays_eq _ rfl (exec_load e1 (ldM2 (isa3 _) hbx))
        | 11, ho, _ =>
          simp only [List.getElem?_cons_zero, List.getElem?_cons_succ, Option.some.injEq] at ho; subst ho
          exact lays_eq _ rfl (exec_move (hfix 1 (by decide +kernel)))
        | 12, ho, _ =>
          simp only [List.getElem?_cons_zero, List.getElem?_cons_succ, Option.some.injEq] at ho; subst ho
          have e1 : a.tmps.getD 28 undef = .string s := hdep 11 _ 28 rfl rfl (by decide +kernel)
          exact lays_call #[.string s] (by simp [Act.eval, e1]) (by kernel_rfl) ((HTK.out _).mono fun e W' ⟨he, hg⟩ => ⟨_, he, by rw [hg]; exact Below.refl _ _, rfl⟩)
        | 13, ho, _ =>
          simp only [List.getElem?_cons_zero, List.getElem?_cons_succ, Option.some.injEq] at ho; subst ho
          have e1 : a.tmps.getD 27 undef = .int .i64 (tk : Int) := hdep 10 _ 27 rfl rfl (by decide +kernel)
          have e2 : a.tmps.getD 29 undef = .int .i64 (S : Int) := hdep 12 _ 29 rfl rfl (by decide +kernel)
          exact lays_eq _ rfl (exec_add e1 e2 (by have := HSM.out; omega) (by have := HSM.out; omega))
        | 14, ho, _ =>
          simp only [List.getElem?_cons_zero, List.getElem?_cons_succ, Option.some.injEq] at ho; subst ho
          exact lays_eq _ rfl (exec_move (hfix 6 (by decide +kernel)))
        | ix + 15, ho, _ => simp at ho
      case hen =>
        intro a W hW hd hsz hfix hT
        simp only [List.take_succ_cons, List.take_zero, List.drop_succ_cons, List.drop_zero] at hfix hT ⊢
        have f4 : a.tmps.getD 4 undef = .pointer (some ⟨w.heap.size + (l.length + 1), 0, none⟩) := hfix 4 (by decide +kernel)
        have f5 : a.tmps.getD 5 undef = .int .i64 0 := hfix 5 (by decide +kernel)
        have f18 : a.tmps.getD 18 undef = .int .i64 (h : Int) := hT 1 _ 18 rfl rfl
        have f30 : a.tmps.getD 30 undef = .int .i64 (TK : Int) := hT 13 _ 30 rfl rfl
        have f31 : a.tmps.getD 31 undef = .int .i64 1 := hT 14 _ 31 rfl rfl
        have g25 : roB w L0.length (n + 1) (strs ts ++ [.string s]) (a.tmps.getD 25 undef) W := hT 8 _ 25 rfl rfl
        obtain ⟨Lw, dw, rfl, hlw, hsw⟩ := hW
        obtain ⟨⟨L9, d9, e9, hb9, hr9⟩, _⟩ := g25
        obtain rfl := Wd_inj e9
        obtain ⟨q9, c9, f25⟩ := hr9.form
        rw [frame_lit a 33 hsz hd]
        clear hfix hT hsz hd e9
        simp only [List.range, List.range.loop, List.map]
        generalize a.tmps = t at *
        rw [f25] at hr9
        simp only [f4, f5, f18, f25, f30, f31]
        clear f4 f5 f18 f25 f30 f31
        have hzz : Lw[l.length + 1]? = some (Obj.cells (mc 0 (.slice none 0 0) 0 0) 34 (0, 0)) := by rw [hsw _ HLT2.out]; exact HZ.out
        have HR9 := Lib.hid hr9
        have HSW := Lib.hid (And.intro hlw hsw)
        clear hr9 hlw hsw hb9
        go_wp2
        refine ret_mix2 (i := l.length + 1) (c := mc h (.slice q9 (n + 1) c9) TK 1) (t := 34) (f := (0, 0)) rfl rfl rfl ag34 (set_some hzz) rfl rfl ?_
        exact HFIN.out _ _ _ HSW.out.1 HSW.out.2 HR9.out _ (by rw [show max g 1 = 1 by have := HGZ.out; omega])
    · have HG0 : Hid (¬ (g : Int) = 0) := Lib.hid (by omega)
      have HGZ := Lib.hid hg0
      clear hg0
      go_enter Tryd.func28, Tryd.ntmps28
      refine wp_seq_k fun K1 hK1 => ?_
      have HK1 := Lib.hid hK1
      clear hK1
      go_wp2
      refine HK1.out _ _ ?_
      clear HK1
      refine wp_seq_k fun K2 hK2 => ?_
      have HK2 := Lib.hid hK2
      clear hK2
      go_wp2_with fail
      refine (HRM.out _ _).mono ?_
      rintro e w' ⟨rfl, g1, d1, rfl⟩
      go_wp2
      refine HK2.out _ _ ?_
      clear HK2
      refine wp_seq_k fun K3 hK3 => ?_
      have HK3 := Lib.hid hK3
      clear hK3
      have hbx0 : ∀ d, blk (Wd w (l ++ Obj.cells (mc h vt tk g) 34 (0, 0) :: Obj.cells (mc 0 (.slice none 0 0) 0 0) 34 (0, 0) :: g1) d) (w.heap.size + l.length) = some (Obj.cells (mc h vt tk g) 34 (0, 0)) := fun d => by rw [blk_at]; simp
      go_wp2
      refine HK3.out _ _ ?_
      clear HK3
      obtain ⟨L0, hL0⟩ : ∃ L0, l ++ Obj.cells (mc h vt tk g) 34 (0, 0) :: Obj.cells (mc 0 (.slice none 0 0) 0 0) 34 (0, 0) :: g1 = L0 := ⟨_, rfl⟩
      have HLT : Hid (l.length < L0.length) := Lib.hid (by rw [← hL0, List.length_append, List.length_cons]; omega)
      have HLT2 : Hid (l.length + 1 < L0.length) := Lib.hid (by rw [← hL0, List.length_append, List.length_cons, List.length_cons]; omega)
      have HBX : Hid (L0[l.length]? = some (Obj.cells (mc h vt tk g) 34 (0, 0))) := Lib.hid (by rw [← hL0]; simp)
      have HZ : Hid (L0[l.length + 1]? = some (Obj.cells (mc 0 (.slice none 0 0) 0 0) 34 (0, 0))) := Lib.hid (by rw [← hL0, List.getElem?_append_right (by omega), Nat.add_sub_cancel_left]; rfl)
      have HPR : Hid (∀ p, p < l.length → L0[p]? = l[p]?) := Lib.hid fun p hp => by rw [← hL0, List.getElem?_append_left hp]
      have HRO : Hid (RowV A w L0 1 n vt (strs ts)) := Lib.hid (HROW.out.mono fun p hp hlt => ⟨hp, HPR.out p hlt⟩)
      have HFIN : Hid (∀ (Lw : List Obj) (dw : Nat) (v9 : Value), L0.length ≤ Lw.length → (∀ p, p < L0.length → Lw[p]? = L0[p]?) → RowV (fun p => L0.length ≤ p) w Lw 1 (n + 1) v9 (strs ts ++ [.string s]) → ∀ (c : Array Value), c = mc h v9 TK (max g 1) → ModQ w A l R (.returned (.tuple #[.agg c, .int .i64 0])) (Wd w (Lw.set (l.length + 1) (Obj.cells c 34 (0, 0))) dw)) := Lib.hid fun Lw dw v9 h1 h2 h3 c hc => by
        have hl1 := HLT2.out
        have hpre : ∀ p, p < l.length → (Lw.set (l.length + 1) (Obj.cells c 34 (0, 0)))[p]? = l[p]? := fun p hp => by
          rw [List.getElem?_set_ne (by omega), h2 p (by omega)]; exact HPR.out p hp
        obtain ⟨g', hg'⟩ := prefix_of hpre
        rw [hg', HA.out]
        refine ⟨v9, g', dw, by rw [hc]; rfl, rfl, ?_⟩
        rw [← hg']
        show RowV _ w _ 1 (ts ++ [bys s]).length v9 (strs (ts ++ [bys s]))
        rw [strs_snoc, List.length_append, HNN.out]
        exact h3.mono fun p hp hlt => ⟨.inr (by omega), List.getElem?_set_ne (by omega)⟩
      rw [hL0]
      clear hL0 hbx0 HROW
      refine wp_seq_k fun K4 hK4 => ?_
      have HK4 := Lib.hid hK4
      clear hK4
      have hg0i := HG0.out
      go_wp2
      refine HK4.out _ _ ?_
      clear HK4 hg0i
      refine wp_seq ?_
      refine wp_region_fine_spec 15 8 (by simp) (fun _ W => ∃ L d, W = Wd w L d ∧ L0.length ≤ L.length ∧ ∀ p, p < L0.length → L[p]? = L0[p]?) (RelN w n) (TL [eqv (.pointer (some ⟨w.heap.size + l.length, 0, none⟩)), eqv (.int .i64 (h : Int)), roB w L0.length 0 [], eqv (.pointer (some ⟨w.heap.size + l.length, 1, none⟩)), eqv vt, roB w L0.length n (strs ts), eqv (.string s), litB (w.heap.size + L0.length) (.string s) 9, roB w L0.length (n + 1) (strs ts ++ [.string s]), eqv (.pointer (some ⟨w.heap.size + l.length, 2, none⟩)), eqv (.int .i64 (tk : Int)), eqv (.string s), eqv (.int .i64 (S : Int)), eqv (.int .i64 (TK : Int)), eqv (.int .i64 (g : Int))]) (by kernel_rfl) (by kernel_rfl) (by kernel_rfl) (by kernel_rfl) ?hW0 ?hWB ?hlS (TL_last (List.forall_mem_cons.2 ⟨eqv_last _, List.forall_mem_cons.2 ⟨eqv_last _, List.forall_mem_cons.2 ⟨roB_last _ _ _ _, List.forall_mem_cons.2 ⟨eqv_last _, List.forall_mem_cons.2 ⟨eqv_last _, List.forall_mem_cons.2 ⟨roB_last _ _ _ _, List.forall_mem_cons.2 ⟨eqv_last _, List.forall_mem_cons.2 ⟨litB_last _ _ _, List.forall_mem_cons.2 ⟨roB_last _ _ _ _, List.forall_mem_cons.2 ⟨eqv_last _, List.forall_mem_cons.2 ⟨eqv_last _, List.forall_mem_cons.2 ⟨eqv_last _, List.forall_mem_cons.2 ⟨eqv_last _, List.forall_mem_cons.2 ⟨eqv_last _, List.forall_mem_cons.2 ⟨eqv_last _, fun _ h => (List.not_mem_nil h).elim⟩⟩⟩⟩⟩⟩⟩⟩⟩⟩⟩⟩⟩⟩⟩)) (TL_no_guard (by kernel_rfl)) ?hsp ?hst ?hen
      case hW0 => exact ⟨L0, _, rfl, Nat.le_refl _, fun _ _ => rfl⟩
      case hWB =>
        rintro b W W' ⟨L, d, rfl, h1, h2⟩ hB
        obtain ⟨g', d', rfl⟩ := below_grows hB
        exact ⟨L ++ g', d', rfl, by rw [List.length_append]; omega, fun p hp => by rw [List.getElem?_append_left (by omega)]; exact h2 p hp⟩
      case hlS =>
        intro ix o v W W' _ _ hne hT hR
        match ix, hne, hT with
        | 0, _, hT => exact hT
        | 1, _, hT => exact hT
        | 2, _, hT => exact roB_rel hT hR (by omega)
        | 3, _, hT => exact hT
        | 4, _, hT => exact hT
        | 5, _, hT => exact roB_rel hT hR (by omega)
        | 6, _, hT => exact hT
        | 7, _, hT => exact litB_rel hT hR
        | 8, hne, _ => exact absurd rfl hne
        | 9, _, hT => exact hT
        | 10, _, hT => exact hT
        | 11, _, hT => exact hT
        | 12, _, hT => exact hT
        | 13, _, hT => exact hT
        | 14, _, hT => exact hT
        | ix + 15, _, _ => trivial
      case hsp =>
        intro o ho a W hW hdep hfix Q
        simp only [List.take_succ_cons, List.take_zero] at ho hdep hfix
        simp only [List.getElem?_cons_zero, List.getElem?_cons_succ, Option.some.injEq] at ho; subst ho
        have e1 : roB w L0.length n (strs ts) (a.tmps.getD 22 undef) W := hdep 5 _ 22 rfl rfl (by decide +kernel)
        have e2 : litB (w.heap.size + L0.length) (.string s) 9 (a.tmps.getD 24 undef) W := hdep 7 _ 24 rfl rfl (by decide +kernel)
        exact app_two e1 e2 hW (by have := HN.out; omega)
      case hst =>
        intro ix o ho hne a W b hW hwt hdep hfix
        simp only [List.take_succ_cons, List.take_zero] at ho hdep hfix
        obtain ⟨Lw, dw, rfl, hlw, hsw⟩ := hW
        have hbx : blk (Wd w Lw dw) (w.heap.size + l.length) = some (Obj.cells (mc h vt tk g) 34 (0, 0)) := by rw [blk_at, hsw _ HLT.out]; exact HBX.out
        match ix, ho, hne with
        | 0, ho, _ =>
          simp only [List.getElem?_cons_zero, Option.some.injEq] at ho; subst ho
          exact lays_eq _ rfl (exec_field (off := 0) (hfix 2 (by decide +kernel)) (by simp [go_sem]))
        | 1, ho, _ =>
          simp only [List.getElem?_cons_zero, List.getElem?_cons_succ, Option.some.injEq] at ho; subst ho
          have e1 : a.tmps.getD 17 undef = .pointer (some ⟨w.heap.size + l.length, 0, none⟩) := hdep 0 _ 17 rfl rfl (by decide +kernel)
          exact lays_eq _ rfl (exec_load e1 (ldM0 (isa3 _) hbx))
        | 2, ho, _ =>
          simp only [List.getElem?_cons_zero, List.getElem?_cons_succ, Option.some.injEq] at ho; subst ho
          exact lays_bs0 hlw (fun _ _ h => h)
        | 3, ho, _ =>
          simp only [List.getElem?_cons_zero, List.getElem?_cons_succ, Option.some.injEq] at ho; subst ho
          exact lays_eq _ rfl (exec_field (off := 1) (hfix 2 (by decide +kernel)) (by simp [go_sem]))
        | 4, ho, _ =>
          simp only [List.getElem?_cons_zero, List.getElem?_cons_succ, Option.some.injEq] at ho; subst ho
          have e1 : a.tmps.getD 20 undef = .pointer (some ⟨w.heap.size + l.length, 1, none⟩) := hdep 3 _ 20 rfl rfl (by decide +kernel)
          exact lays_eq _ rfl (exec_load e1 (ldM1 (isaj32 _) hbx))
        | 5, ho, _ =>
          simp only [List.getElem?_cons_zero, List.getElem?_cons_succ, Option.some.injEq] at ho; subst ho
          have e1 : roB w L0.length 0 [] (a.tmps.getD 19 undef) (Wd w Lw dw) := hdep 2 _ 19 rfl rfl (by decide +kernel)
          have e2 : a.tmps.getD 21 undef = vt := hdep 4 _ 21 rfl rfl (by decide +kernel)
          exact lays_app1 e1 e2 (HRO.out.mono (B := fun _ => True) fun p hp hlt => ⟨trivial, hsw p hlt⟩) (strs_one _) (by have := HN.out; omega) (fun _ _ h => h)
        | 6, ho, _ =>
          simp only [List.getElem?_cons_zero, List.getElem?_cons_succ, Option.some.injEq] at ho; subst ho
          exact lays_eq _ rfl (exec_move (hfix 1 (by decide +kernel)))
        | 7, ho, _ =>
          simp only [List.getElem?_cons_zero, List.getElem?_cons_succ, Option.some.injEq] at ho; subst ho
          have e1 : a.tmps.getD 23 undef = .string s := hdep 6 _ 23 rfl rfl (by decide +kernel)
          exact lays_bsB (by rw [Wd_size]; omega) (fun w l d => bsj32s _ w l d) e1 (fun _ _ h => h)
        | 8, _, hne => exact absurd rfl hne
        | 9, ho, _ =>
          simp only [List.getElem?_cons_zero, List.getElem?_cons_succ, Option.some.injEq] at ho; subst ho
          exact lays_eq _ rfl (exec_field (off := 2) (hfix 2 (by decide +kernel)) (by simp [go_sem]))
        | 10, ho, _ =>
          simp only [List.getElem?_cons_zero, List.getElem?_cons_succ, Option.some.injEq] at ho; subst ho
          have e1 : a.tmps.getD 26 undef = .pointer (some ⟨w.heap.size + l.length, 2, none⟩) := hdep 9 _ 26 rfl rfl (by decide +kernel)
          exact lays_eq _ rfl (exec_load e1 (ldM2 (isa3 _) hbx))
        | 11, ho, _ =>
          simp only [List.getElem?_cons_zero, List.getElem?_cons_succ, Option.some.injEq] at ho; subst ho
          exact lays_eq _ rfl (exec_move (hfix 1 (by decide +kernel)))
        | 12, ho, _ =>
          simp only [List.getElem?_cons_zero, List.getElem?_cons_succ, Option.some.injEq] at ho; subst ho
          have e1 : a.tmps.getD 28 undef = .string s := hdep 11 _ 28 rfl rfl (by decide +kernel)
          exact lays_call #[.string s] (by simp [Act.eval, e1]) (by kernel_rfl) ((HTK.out _).mono fun e W' ⟨he, hg⟩ => ⟨_, he, by rw [hg]; exact Below.refl _ _, rfl⟩)
        | 13, ho, _ =>
          simp only [List.getElem?_cons_zero, List.getElem?_cons_succ, Option.some.injEq] at ho; subst ho
          have e1 : a.tmps.getD 27 undef = .int .i64 (tk : Int) := hdep 10 _ 27 rfl rfl (by decide +kernel)
          have e2 : a.tmps.getD 29 undef = .int .i64 (S : Int) := hdep 12 _ 29 rfl rfl (by decide +kernel)
          exact lays_eq _ rfl (exec_add e1 e2 (by have := HSM.out; omega) (by have := HSM.out; omega))
        | 14, ho, _ =>
          simp only [List.getElem?_cons_zero, List.getElem?_cons_succ, Option.some.injEq] at ho; subst ho
          exact lays_eq _ rfl (exec_move (hfix 6 (by decide +kernel)))
        | ix + 15, ho, _ => simp at ho
      case hen =>
        intro a W hW hd hsz hfix hT
        simp only [List.take_succ_cons, List.take_zero, List.drop_succ_cons, List.drop_zero] at hfix hT ⊢
        have f4 : a.tmps.getD 4 undef = .pointer (some ⟨w.heap.size + (l.length + 1), 0, none⟩) := hfix 4 (by decide +kernel)
        have f5 : a.tmps.getD 5 undef = .int .i64 0 := hfix 5 (by decide +kernel)
        have f18 : a.tmps.getD 18 undef = .int .i64 (h : Int) := hT 1 _ 18 rfl rfl
        have f30 : a.tmps.getD 30 undef = .int .i64 (TK : Int) := hT 13 _ 30 rfl rfl
        have f31 : a.tmps.getD 31 undef = .int .i64 (g : Int) := hT 14 _ 31 rfl rfl
        have g25 : roB w L0.length (n + 1) (strs ts ++ [.string s]) (a.tmps.getD 25 undef) W := hT 8 _ 25 rfl rfl
        obtain ⟨Lw, dw, rfl, hlw, hsw⟩ := hW
        obtain ⟨⟨L9, d9, e9, hb9, hr9⟩, _⟩ := g25
        obtain rfl := Wd_inj e9
        obtain ⟨q9, c9, f25⟩ := hr9.form
        rw [frame_lit a 33 hsz hd]
        clear hfix hT hsz hd e9
        simp only [List.range, List.range.loop, List.map]
        generalize a.tmps = t at *
        rw [f25] at hr9
        simp only [f4, f5, f18, f25, f30, f31]
        clear f4 f5 f18 f25 f30 f31
        have hzz : Lw[l.length + 1]? = some (Obj.cells (mc 0 (.slice none 0 0) 0 0) 34 (0, 0)) := by rw [hsw _ HLT2.out]; exact HZ.out
        have HR9 := Lib.hid hr9
        have HSW := Lib.hid (And.intro hlw hsw)
        clear hr9 hlw hsw hb9
        go_wp2
        refine ret_mix2 (i := l.length + 1) (c := mc h (.slice q9 (n + 1) c9) TK g) (t := 34) (f := (0, 0)) rfl rfl rfl ag34 (set_some hzz) rfl rfl ?_
        exact HFIN.out _ _ _ HSW.out.1 HSW.out.2 HR9.out _ (by rw [show max g 1 = g by have := HGZ.out; omega])
end Go.Proofs.YtjgfljckmckhcaaDoor
