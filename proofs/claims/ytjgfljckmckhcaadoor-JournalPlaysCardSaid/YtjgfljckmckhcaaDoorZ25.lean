/- strings.Clone, a half's room, its other half, its text more: by contract. No condition but the sizes. -/
import Derived.Test.YtjgfljckmckhcaaDoorZ24
namespace Go.Proofs.YtjgfljckmckhcaaDoor
open Go Go.RowKit Go.Own
attribute [-go_sem] Sm.execOp_bs run_string_add_if
theorem stHAp {P : Program} {T : TypeId} {w : World} {l : List Obj} {d i : Nat} {dv vt : Value} {a n g u : Nat} {ty : TypeId} {p q : Option Addr} {a' n' g' u' x c : Nat} (h1 : (sizeOf T).run P (Wd w l d) = .ok 6 (Wd w l d)) (h2 : l[i]? = some (.cells (hcl dv a n g vt u) ty (0, 0))) :
    stX P T 6 (some (.cells (hcl dv a n g vt u) ty (0, 0))) w l d i 0 (.agg (hcl (.pointer p) a' n' g' (.slice q x c) u')) = .ok () (Wd w (l.set i (.cells (hcl (.pointer p) a' n' g' (.slice q x c) u') ty (0, 0))) d) := stHA rfl rfl h1 h2
theorem stHAv {P : Program} {T : TypeId} {w : World} {l : List Obj} {d i : Nat} {dv vt vt' : Value} {a n g u : Nat} {ty : TypeId} {p : Option Addr} {a' n' g' u' : Nat} (hv : vt'.oneCell' = true) (h1 : (sizeOf T).run P (Wd w l d) = .ok 6 (Wd w l d)) (h2 : l[i]? = some (.cells (hcl dv a n g vt u) ty (0, 0))) :
    stX P T 6 (some (.cells (hcl dv a n g vt u) ty (0, 0))) w l d i 0 (.agg (hcl (.pointer p) a' n' g' vt' u')) = .ok () (Wd w (l.set i (.cells (hcl (.pointer p) a' n' g' vt' u') ty (0, 0))) d) := stHA rfl hv h1 h2
theorem stH4s {P : Program} {T : TypeId} {w : World} {l : List Obj} {d i : Nat} {dv vt : Value} {a n g u : Nat} {ty : TypeId} {q : Option Addr} {x c : Nat} (h1 : (sizeOf T).run P (Wd w l d) = .ok 1 (Wd w l d)) (h2 : l[i]? = some (.cells (hcl dv a n g vt u) ty (0, 0))) :
    stX P T 1 (some (.cells (hcl dv a n g vt u) ty (0, 0))) w l d i 4 (.slice q x c) = .ok () (Wd w (l.set i (.cells (hcl dv a n g (.slice q x c) u) ty (0, 0))) d) := stH4 rfl h1 h2
attribute [local go_sem] agj61 csj61 szj61 agj25 isaj25 csj25 szj25 agj32 isaj32 csj32 szj32 agj38 isaj38 csj38 szj38 agj54 isaj54 csj54 szj54 agj9 isaj9 csj9 szj9 zj61 alXA buj61 ldH0 ldH1 ldH2 ldH3 ldH4 ldH5 ldHA stH3 stH4 stH5 stHAp stHAv
theorem run_min2 {P : Program} {w : World} (ts : Array TypeId) (t : TypeId) (k k' : IntKind) (x y : Int) :
    (Builtin.min_ ts t #[.int k x, .int k' y]).run P w = .ok (.int k (min x y)) w := by
  simp [Builtin.min_, Builtin.min2]; omega
set_option maxRecDepth 100000 in
/-- A half's room, as a number. -/
theorem room_any (dv vt : Value) (a n g u : Nat) (hn : n ≤ 1000000) (hu : u ≤ 1000000) (w : World) :
    Calls Tryd.prog 30 #[.agg (hcl dv a n g vt u)] w fun e w' => e = .returned (.int .i64 (min 65535 (((n : Int) - u) * 64 - 50))) ∧ Grows w w' := by
  refine calls_wd ?_
  go_enter Tryd.func30, Tryd.ntmps30
  go_wp2
  go_ret
  exact ⟨rfl, Grows.of _ _ _⟩
set_option maxRecDepth 100000 in
theorem other_any (p : Option Addr) (vt : Value) (a n g u : Nat) (hn : n ≤ 1000000) (ha : a ≤ n) (w : World) :
    Calls Tryd.prog 26 #[.agg (hcl (.pointer p) a n g vt u)] w fun e w' => e = .returned (.agg (hcl (.pointer p) (n - a) n 0 (.slice none 0 0) 0)) ∧ Grows w w' := by
  obtain ⟨b, hb⟩ : ∃ b, n - a = b := ⟨_, rfl⟩
  have hbi : (n : Int) - (a : Int) = (b : Int) := by omega
  rw [hb]
  clear hb ha
  refine calls_wd ?_
  go_enter Tryd.func26, Tryd.ntmps26
  go_wp2
  exact ret_mix (i := 1) (c := hcl (.pointer p) b n 0 (.slice none 0 0) 0) (t := 61) (f := (0, 0)) rfl rfl agj61 rfl rfl rfl ⟨rfl, Grows.of _ _ _⟩
/-! ### strings.Clone -/
theorem unsafe_row (w : World) (s : ByteArray) (h0 : s.size ≠ 0) (hs : s.size ≤ 1000000) (d : Nat) :
    (Builtin.unsafeString_ #[110, 3] 9 #[.pointer (some ⟨w.heap.size, 0, none⟩), .int .i64 (s.size : Int)]).run Tryd.prog (Wd w [.cells (cv .u8 (bys s)) 5 (0, 0)] d) = .ok (.string s) ((Wd w [.cells (cv .u8 (bys s)) 5 (0, 0)] d).freeze ⟨w.heap.size, 0, none⟩ s.size) := by
  have hl : s.data.toList.length = s.size := by rw [Array.length_toList]; rfl
  have hb : (Wd w [.cells (cv .u8 (bys s)) 5 (0, 0)] d).heap[w.heap.size]? = some (.cells (cv .u8 (bys s)) 5 (0, 0)) := Wd_at w _ d 0
  have h := Lib.run_unsafeString_row (P := Tryd.prog) (Wd w [.cells (cv .u8 (bys s)) 5 (0, 0)] d) 110 3 9 5 Tryd.underlying110 (by kernel_rfl) w.heap.size s.size (by simp [World.shape?, hb, bys_length]) s.data.toList (fun e => h0 (by rw [← hl, e]; rfl)) (by rw [hl]; omega) (by omega) (fun j x hx => by
    have hj : j < s.size := by rw [← hl]; exact (List.getElem?_eq_some_iff.1 hx).1
    have hadd : (⟨w.heap.size, 0, none⟩ : Addr).add j = ⟨w.heap.size, j, none⟩ := by unfold Addr.add; split <;> simp_all
    rw [hadd]
    simp only [World.cell?, hb, Option.isSome_none, Bool.false_eq_true, if_false]
    rw [cv_get _ _ _ (by rw [bys_length]; exact hj)]
    congr 2
    unfold gi bys
    rw [List.getD_eq_getElem?_getD, List.getElem?_map, hx]
    rfl)
  rw [hl] at h
  exact h
theorem below_grows' {w W : World} (h : Below w.heap.size w W) : Grows w W := by
  rw [← Wd_nil w] at h
  obtain ⟨g, d, e⟩ := below_grows h
  exact ⟨g, d, by rw [e]; rfl⟩
attribute [local go_sem] cpX_le
set_option maxRecDepth 100000 in
set_option maxHeartbeats 1000000 in
theorem clone0_any (s : ByteArray) (hs : s.size ≤ 1000000) (w : World) : Calls Tryd.prog 46 #[.string s] w fun e w' => e = .returned (.string s) ∧ Grows w w' := by
  by_cases h0 : s.size = 0
  · have he : s = .empty := by
      apply bys_inj
      rw [List.length_eq_zero_iff.1 ((bys_length s).trans h0)]; rfl
    subst he
    refine calls_wd ?_
    go_enter Tryd.func46, Tryd.ntmps46
    go_wp2
    go_ret
    exact ⟨rfl, Grows.of _ _ _⟩
  · have hmk : (Tryd.prog.info? 5).map (fun i => (i.zero, i.size, i.bytes)) = some (some (.int .u8 0), 1, 1) := by kernel_rfl
    have hz5 : zeroOf Tryd.prog 5 = .int .u8 0 := by kernel_rfl
    have hi : ¬ (s.size : Int) = 0 := by omega
    have hp : 0 < s.size := by omega
    have hpi : (0 : Int) < (s.size : Int) := by omega
    have hcb : s.size ≤ 140737488355328 := by omega
    have hbl := bys_length s
    have hfull : spl (rep s.size) 0 (bys s) = bys s := spl_full (by rw [rep_length, hbl])
    have hUS := unsafe_row w s h0 hs
    clear h0
    refine calls_wd ?_
    go_enter Tryd.func46, Tryd.ntmps46
    go_wp2
    go_ret
    exact ⟨rfl, below_grows' (Lib.below_freeze (below_alloc w _ _) (Nat.le_refl _) _)⟩
set_option maxRecDepth 100000 in
theorem clone_any (s : ByteArray) (hs : s.size ≤ 1000000) (w : World) : Calls Tryd.prog 29 #[.string s] w fun e w' => e = .returned (.string s) ∧ Grows w w' := by
  refine calls_wd ?_
  go_enter Tryd.func29, Tryd.ntmps29
  go_wp2_with fail
  refine (clone0_any s hs _).mono ?_
  rintro e w' ⟨rfl, g, d, rfl⟩
  rw [Wd_wd]
  go_wp2
  go_ret
  exact ⟨rfl, Grows.of _ _ _⟩
/-- Texts as values. -/
def strs (ts : List (List Nat)) : List Value := ts.map fun t => .string (mkS t)
theorem strs_length (ts : List (List Nat)) : (strs ts).length = ts.length := by simp [strs]
theorem strs_one (ts : List (List Nat)) : ∀ v ∈ strs ts, v.oneCell' = true := by
  intro v hv
  simp only [strs, List.mem_map] at hv
  obtain ⟨t, _, rfl⟩ := hv
  rfl
theorem strs_snoc (ts : List (List Nat)) (s : ByteArray) : strs (ts ++ [bys s]) = strs ts ++ [.string s] := by simp [strs, mkS_bys]
set_option maxRecDepth 100000 in
set_option maxHeartbeats 2000000 in
/-- A half with a text more. -/
theorem with_any (w : World) (l : List Obj) (d : Nat) (p q : Option Addr) (fi n g u x c : Nat) (ts : List (List Nat)) (A : Nat → Prop) (hA : ∀ i, l.length ≤ i → A i) (hv : RowV A w l 1 ts.length (.slice q x c) (strs ts)) (s : ByteArray) (hs : s.size ≤ 1000000) (hu : u ≤ 1000000) (ht : ts.length ≤ 100000) :
    Calls Tryd.prog 36 #[.agg (hcl (.pointer p) fi n g (.slice q x c) u), .string s] (Wd w l d) fun e w' => ∃ vt' l' d', e = .returned (.agg (hcl (.pointer p) fi n g vt' (u + secs s.size))) ∧ w' = Wd w l' d' ∧ RowV A w l' 1 (ts.length + 1) vt' (strs (ts ++ [bys s])) ∧ l.length ≤ l'.length ∧ ∀ i, i < l.length → NotAt w (.slice q x c) i → l'[i]? = l[i]? := by
  obtain ⟨S, hS⟩ : ∃ S, secs s.size = S := ⟨_, rfl⟩
  have hSb : S ≤ 1000000 := by rw [← hS]; unfold secs; omega
  have HSEC : Hid (∀ W, Calls Tryd.prog 48 #[.int .i64 (s.size : Int)] W fun e w' => e = .returned (.int .i64 (S : Int)) ∧ Grows W w') := Lib.hid fun W => by rw [← hS]; exact (sectors_any s.size (by omega) W).mono fun _ _ ⟨h1, h2⟩ => ⟨h1, h2 ▸ Grows.refl _⟩
  have HC := Lib.hid (clone_any s hs)
  have HV := Lib.hid hv
  rw [hS]
  obtain ⟨U, hU⟩ : ∃ U, u + S = U := ⟨_, rfl⟩
  have hSi : (u : Int) + (S : Int) = (U : Int) := by omega
  have hUb : U ≤ 2000000 := by omega
  rw [hU]
  clear hv hS hU
  obtain ⟨L0, hL0⟩ : ∃ L0, l ++ [Obj.cells (hcl (.pointer p) fi n g (.slice q x c) u) 61 (0, 0)] ++ [Obj.cells (hcl (.pointer none) 0 0 0 (.slice none 0 0) 0) 61 (0, 0)] = L0 := ⟨_, rfl⟩
  have h0 : L0[l.length]? = some (.cells (hcl (.pointer p) fi n g (.slice q x c) u) 61 (0, 0)) := by rw [← hL0]; simp
  have h1 : L0[l.length + 1]? = some (.cells (hcl (.pointer none) 0 0 0 (.slice none 0 0) 0) 61 (0, 0)) := by rw [← hL0]; simp
  have HB1 := Lib.hid fun (g' : List Obj) (e : Nat) => big_call (L := fun g' => L0 ++ g') (g := g') (e := e) (w := w) (l0 := L0) (fun _ _ => List.append_assoc _ _ _) (fun _ => rfl) (HSEC.out _)
  have H0 := Lib.hid h0
  have H1 := Lib.hid h1
  go_enter Tryd.func36, Tryd.ntmps36
  have H0g : Hid (∀ g', (L0 ++ g')[l.length]? = some (.cells (hcl (.pointer p) fi n g (.slice q x c) u) 61 (0, 0))) := Lib.hid fun g' => app_some h0
  have hsm0 : ∀ i, i < l.length → L0[i]? = l[i]? := fun i hi => by rw [← hL0, List.append_assoc, List.getElem?_append_left hi]
  have HS0 := Lib.hid hsm0
  have h0g := H0g.out
  clear hsm0
  go_wp2
  refine wp_region_big 7 (by kernel_rfl) (by kernel_rfl) ?_
  simp only [List.take_succ_cons, List.take_zero, List.drop_succ_cons, List.drop_zero]
  repeat (go_big_quiet_step ((intro _; with_reducible exact HB1.out _ _)))
  refine wpQuiet_nil ?_
  intro gR eR
  go_wp2
  obtain ⟨L1, hL1⟩ : ∃ L1, (L0 ++ gR).set l.length (.cells (hcl (.pointer p) fi n g (.slice q x c) U) 61 (0, 0)) = L1 := ⟨_, rfl⟩
  have HL0 : Hid (L1[l.length]? = some (.cells (hcl (.pointer p) fi n g (.slice q x c) U) 61 (0, 0))) := Lib.hid (by rw [← hL1]; exact set_some (app_some H0.out))
  have HL1 : Hid (L1[l.length + 1]? = some (.cells (hcl (.pointer none) 0 0 0 (.slice none 0 0) 0) 61 (0, 0))) := Lib.hid (by rw [← hL1]; exact set_other (by omega) (app_some H1.out))
  have HSM : Hid (∀ i, i < l.length → L1[i]? = l[i]?) := Lib.hid fun i hi => by rw [← hL1, List.getElem?_set_ne (by omega), List.getElem?_append_left (by have := (List.getElem?_eq_some_iff.1 H1.out).1; omega)]; exact HS0.out i hi
  rw [hL1]
  have HBK : Hid (blk (Wd w L1 eR) (w.heap.size + l.length) = some (.cells (hcl (.pointer p) fi n g (.slice q x c) U) 61 (0, 0))) := Lib.hid (by rw [blk_at]; exact HL0.out)
  clear hL1 h0g h0 h1 hL0 HB1
  refine wp_region_fine_drop 5 (TL [eqv (.pointer (some ⟨w.heap.size + l.length, 4, none⟩)), eqv (.slice q x c), eqv (.string s), eqv (.string s), litB w.heap.size (.string s) 9]) (by kernel_rfl) (by kernel_rfl) (by kernel_rfl) (by kernel_rfl) (TL_last (List.forall_mem_cons.2 ⟨eqv_last _, List.forall_mem_cons.2 ⟨eqv_last _, List.forall_mem_cons.2 ⟨eqv_last _, List.forall_mem_cons.2 ⟨eqv_last _, List.forall_mem_cons.2 ⟨litB_last _ _ _, fun _ h => (List.not_mem_nil h).elim⟩⟩⟩⟩⟩)) (TL_no_guard (by kernel_rfl)) ?_ ?_
  · intro i o ho a W hB hdep hfix
    simp only [List.take_succ_cons, List.take_zero] at ho hdep hfix
    match i, ho with
    | 0, ho =>
      simp only [List.getElem?_cons_zero, Option.some.injEq] at ho; subst ho
      exact lays_eq _ rfl (exec_field (off := 4) (hfix 2 (by decide +kernel)) (by simp [go_sem]))
    | 1, ho =>
      simp only [List.getElem?_cons_zero, List.getElem?_cons_succ, Option.some.injEq] at ho; subst ho
      have e1 : a.tmps.getD 12 undef = .pointer (some ⟨w.heap.size + l.length, 4, none⟩) := hdep 0 _ 12 rfl rfl (by decide +kernel)
      exact lays_eq _ rfl (exec_load e1 (ldH4 (isaj32 W) (blk_below hB HBK.out)))
    | 2, ho =>
      simp only [List.getElem?_cons_zero, List.getElem?_cons_succ, Option.some.injEq] at ho; subst ho
      exact lays_eq _ rfl (exec_move (hfix 1 (by decide +kernel)))
    | 3, ho =>
      simp only [List.getElem?_cons_zero, List.getElem?_cons_succ, Option.some.injEq] at ho; subst ho
      have e1 : a.tmps.getD 14 undef = .string s := hdep 2 _ 14 rfl rfl (by decide +kernel)
      exact lays_call #[.string s] (by simp [Act.eval, e1]) (by kernel_rfl) ((HC.out W).mono fun e W' ⟨he, hg⟩ => ⟨_, he, hg.below, rfl⟩)
    | 4, ho =>
      simp only [List.getElem?_cons_zero, List.getElem?_cons_succ, Option.some.injEq] at ho; subst ho
      have e1 : a.tmps.getD 15 undef = .string s := hdep 3 _ 15 rfl rfl (by decide +kernel)
      exact lays_bsB (by have := hB.size; rw [Wd_size] at this; omega) (fun w l d => bsj32s _ w l d) e1 (fun _ _ h => h)
    | i + 5, ho => simp at ho
  · intro a W hB hd hsz hfix hT
    simp only [List.take_succ_cons, List.take_zero, List.drop_succ_cons, List.drop_zero] at hfix hT ⊢
    have f2 : a.tmps.getD 2 undef = .pointer (some ⟨w.heap.size + l.length, 0, none⟩) := hfix 2 (by decide +kernel)
    have f4 : a.tmps.getD 4 undef = .pointer (some ⟨w.heap.size + (l.length + 1), 0, none⟩) := hfix 4 (by decide +kernel)
    have f13 : a.tmps.getD 13 undef = .slice q x c := hT 1 _ 13 rfl rfl
    have g16 : litB w.heap.size (.string s) 9 (a.tmps.getD 16 undef) W := hT 4 _ 16 rfl rfl
    rw [frame_lit a 20 hsz hd]
    clear hfix hT hsz hd
    simp only [List.range, List.range.loop, List.map]
    generalize a.tmps = t at *
    simp only [f2, f4, f13]
    clear f2 f4 f13
    obtain ⟨gS, dS, rfl⟩ := below_grows hB
    obtain ⟨b, hb1, hb2, hb3⟩ := g16
    simp only [hb2]
    obtain ⟨j, rfl⟩ : ∃ j, b = w.heap.size + j := ⟨b - w.heap.size, by omega⟩
    rw [blk_at] at hb3
    obtain ⟨L2, hL2⟩ : ∃ L2, L1 ++ gS = L2 := ⟨_, rfl⟩
    rw [hL2] at hb3 ⊢
    have hg0 : L2[l.length]? = some (.cells (hcl (.pointer p) fi n g (.slice q x c) U) 61 (0, 0)) := by rw [← hL2]; exact app_some HL0.out
    have hg1 : L2[l.length + 1]? = some (.cells (hcl (.pointer none) 0 0 0 (.slice none 0 0) 0) 61 (0, 0)) := by rw [← hL2]; exact app_some HL1.out
    have hlen : l.length + 2 ≤ L2.length := by have := (List.getElem?_eq_some_iff.1 hg1).1; omega
    have hsame : ∀ i, i < l.length → L2[i]? = l[i]? := fun i hi => by rw [← hL2, List.getElem?_append_left (by have := (List.getElem?_eq_some_iff.1 HL1.out).1; omega)]; exact HSM.out i hi
    have HRV : Hid (RowV (fun p => A p ∧ p ≠ l.length ∧ p ≠ l.length + 1) w L2 1 ts.length (.slice q x c) (strs ts)) := Lib.hid (HV.out.mono fun i hi hlt => ⟨⟨hi, by omega, by omega⟩, hsame i hlt⟩)
    have HLT : Hid (RowV (fun _ => True) w L2 1 1 (.slice (some ⟨w.heap.size + j, 0, none⟩) 1 1) [.string s]) := Lib.hid (.inr ⟨j, 1, [.string s], 9, trivial, rfl, hb3, rfl, Nat.le_refl _, rfl⟩)
    have HSAME := Lib.hid hsame
    have HG0 := Lib.hid hg0
    have HG1 := Lib.hid hg1
    have HLEN := Lib.hid hlen
    clear hL2 hb3 hb1 hB hg0 hg1 hsame hb2
    go_wp2_with (refine wpList_row rfl (.tmp 13) (.tmp 16) 32 9 rfl rt32 (A := fun p => A p ∧ p ≠ l.length ∧ p ≠ l.length + 1) (B := fun _ => True) (fun p hp => ⟨hA p (by have := HLEN.out; omega), by have := HLEN.out; omega, by have := HLEN.out; omega⟩) (.slice q x c) ts.length (strs ts) rfl HRV.out (.slice (some ⟨w.heap.size + j, 0, none⟩) 1 1) 1 [.string s] rfl HLT.out (by intro u hu; rw [List.mem_singleton.1 hu]; rfl) (by omega) ?_)
    intro v' l' d' HR1 HR2 HR3
    have hv1 := RowV.one HR1.out
    have hg0 : l'[l.length]? = some (.cells (hcl (.pointer p) fi n g (.slice q x c) U) 61 (0, 0)) := (HR3.out _ (by have := HLEN.out; omega) (HV.out.beyond (Nat.le_refl _))).trans HG0.out
    have hg1 : l'[l.length + 1]? = some (.cells (hcl (.pointer none) 0 0 0 (.slice none 0 0) 0) 61 (0, 0)) := (HR3.out _ (by have := HLEN.out; omega) (HV.out.beyond (by omega))).trans HG1.out
    have hg0' : ∀ X, (l'.set l.length X)[l.length]? = some X := fun X => set_some hg0
    have hg1' : ∀ X, (l'.set l.length X)[l.length + 1]? = some (.cells (hcl (.pointer none) 0 0 0 (.slice none 0 0) 0) 61 (0, 0)) := fun X => set_other (by omega) hg1
    go_wp2
    refine ret_mix (i := l.length + 1) (c := hcl (.pointer p) fi n g v' U) (t := 61) (f := (0, 0)) rfl rfl agj61 (set_some (hg1' _)) rfl rfl ⟨v', _, _, rfl, rfl, ?_, ?_, fun i hi hn => ?_⟩
    · rw [strs_snoc]
      exact HR1.out.mono fun i hi _ => ⟨hi.1, by rw [List.getElem?_set_ne (fun e => hi.2.2 e.symm), List.getElem?_set_ne (fun e => hi.2.1 e.symm)]⟩
    · have h1 := HR2.out
      have h2 := HLEN.out
      simp only [List.length_set]; omega
    · rw [List.getElem?_set_ne (by omega), List.getElem?_set_ne (by omega), HR3.out i (by have := HLEN.out; omega) hn]
      exact HSAME.out i hi
end Go.Proofs.YtjgfljckmckhcaaDoor
