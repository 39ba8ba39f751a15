/- strings.Clone, a half's room, its other half, its text more: by contract. No condition but the sizes. | Steps in memory: a write's closure, a flush's method value; what empties the sector behind all records: by contract. No condition. | What a range over a function wants: what holds of a region outside of a round holds inside; marks. No condition. -/
import Derived.Test.YtlogjpmdfimgdaaGreatDoorZ16
import Derived.RangeFuncNested
import Derived.RangeFuncBound
import Derived.RangeFuncCalls
import Derived.RangeFuncLeaves
import Derived.RangeFuncFrom
import Derived.Shelf.Abstract
import Derived.Shelf.RegionOpen
import Derived.OrdersIn
import Derived.TacticsIn
import Derived.OwnWalkIn
import Derived.TacticsInMore
import Derived.LoopNIn
import Derived.LoopIn
namespace Go.Proofs.YtlogjpmdfimgdaaGreatDoor.Jf
open Go Go.RowKit Go.Own.Jf
attribute [-go_sem] Sm.execOp_bs run_string_add_if
theorem stHAp {P : Program} {T : TypeId} {w : World} {l : List Obj} {d i : Nat} {dv vt : Value} {a n g u : Nat} {ty : TypeId} {p q : Option Addr} {a' n' g' u' x c : Nat} (h1 : (sizeOf T).run P (Wd w l d) = .ok 6 (Wd w l d)) (h2 : l[i]? = some (.cells (hcl dv a n g vt u) ty (0, 0))) :
    stX P T 6 (some (.cells (hcl dv a n g vt u) ty (0, 0))) w l d i 0 (.agg (hcl (.pointer p) a' n' g' (.slice q x c) u')) = .ok () (Wd w (l.set i (.cells (hcl (.pointer p) a' n' g' (.slice q x c) u') ty (0, 0))) d) := stHA rfl rfl h1 h2
theorem stHAv {P : Program} {T : TypeId} {w : World} {l : List Obj} {d i : Nat} {dv vt vt' : Value} {a n g u : Nat} {ty : TypeId} {p : Option Addr} {a' n' g' u' : Nat} (hv : vt'.oneCell' = true) (h1 : (sizeOf T).run P (Wd w l d) = .ok 6 (Wd w l d)) (h2 : l[i]? = some (.cells (hcl dv a n g vt u) ty (0, 0))) :
    stX P T 6 (some (.cells (hcl dv a n g vt u) ty (0, 0))) w l d i 0 (.agg (hcl (.pointer p) a' n' g' vt' u')) = .ok () (Wd w (l.set i (.cells (hcl (.pointer p) a' n' g' vt' u') ty (0, 0))) d) := stHA rfl hv h1 h2
theorem stH4s {P : Program} {T : TypeId} {w : World} {l : List Obj} {d i : Nat} {dv vt : Value} {a n g u : Nat} {ty : TypeId} {q : Option Addr} {x c : Nat} (h1 : (sizeOf T).run P (Wd w l d) = .ok 1 (Wd w l d)) (h2 : l[i]? = some (.cells (hcl dv a n g vt u) ty (0, 0))) :
    stX P T 1 (some (.cells (hcl dv a n g vt u) ty (0, 0))) w l d i 4 (.slice q x c) = .ok () (Wd w (l.set i (.cells (hcl dv a n g (.slice q x c) u) ty (0, 0))) d) := stH4 rfl h1 h2
attribute [local go_sem] agj61 csj61 szj61 agj25 isaj25 csj25 szj25 agj32 isaj32 csj32 szj32 agj38 isaj38 csj38 szj38 agj54 isaj54 csj54 szj54 agj9 isaj9 csj9 szj9 zj61 alXA buj61 ldH0 ldH1 ldH2 ldH3 ldH4 ldH5 ldHA stH3 stH4 stH5 stHAp stHAv
theorem run_min2 {P : Program} {w : World} (ts : Array TypeId) (t : TypeId) (k k' : IntKind) (x y : Int) :
    (Builtin.min_ ts t #[.int k x, .int k' y]).run P w = .ok (.int k (min x y)) w := by
  simp [Builtin.min_, Builtin.min2]; omega
set_option maxRecDepth 100000 in
/-- A half's room, as a number. -/
theorem room_any (dv vt : Value) (a n g u : Nat) (hn : n ≤ 1000000) (hu : u ≤ 1000000) (w : World) :
    Calls Tryz.prog 80 #[.agg (hcl dv a n g vt u)] w fun e w' => e = .returned (.int .i64 (min 65535 (((n : Int) - u) * 64 - 50))) ∧ Grows w w' := by
  refine calls_wd ?_
  go_enter Tryz.func80, Tryz.ntmps80
  go_wp2
  go_ret
  exact ⟨rfl, Grows.of _ _ _⟩
set_option maxRecDepth 100000 in
theorem other_any (p : Option Addr) (vt : Value) (a n g u : Nat) (hn : n ≤ 1000000) (ha : a ≤ n) (w : World) :
    Calls Tryz.prog 43 #[.agg (hcl (.pointer p) a n g vt u)] w fun e w' => e = .returned (.agg (hcl (.pointer p) (n - a) n 0 (.slice none 0 0) 0)) ∧ Grows w w' := by
  obtain ⟨b, hb⟩ : ∃ b, n - a = b := ⟨_, rfl⟩
  have hbi : (n : Int) - (a : Int) = (b : Int) := by omega
  rw [hb]
  clear hb ha
  refine calls_wd ?_
  go_enter Tryz.func43, Tryz.ntmps43
  go_wp2
  exact ret_mix (i := 1) (c := hcl (.pointer p) b n 0 (.slice none 0 0) 0) (t := 107) (f := (0, 0)) rfl rfl agj61 rfl rfl rfl ⟨rfl, Grows.of _ _ _⟩
/-! ### strings.Clone -/
theorem unsafe_row (w : World) (s : ByteArray) (h0 : s.size ≠ 0) (hs : s.size ≤ 1000000) (d : Nat) :
    (Builtin.unsafeString_ #[209, 3] 9 #[.pointer (some ⟨w.heap.size, 0, none⟩), .int .i64 (s.size : Int)]).run Tryz.prog (Wd w [.cells (cv .u8 (bys s)) 5 (0, 0)] d) = .ok (.string s) ((Wd w [.cells (cv .u8 (bys s)) 5 (0, 0)] d).freeze ⟨w.heap.size, 0, none⟩ s.size) := by
  have hl : s.data.toList.length = s.size := by rw [Array.length_toList]; rfl
  have hb : (Wd w [.cells (cv .u8 (bys s)) 5 (0, 0)] d).heap[w.heap.size]? = some (.cells (cv .u8 (bys s)) 5 (0, 0)) := Wd_at w _ d 0
  have h := Lib.run_unsafeString_row (P := Tryz.prog) (Wd w [.cells (cv .u8 (bys s)) 5 (0, 0)] d) 209 3 9 5 Tryz.underlying209 (by kernel_rfl) w.heap.size s.size (by simp [World.shape?, hb, bys_length]) s.data.toList (fun e => h0 (by rw [← hl, e]; rfl)) (by rw [hl]; omega) (by omega) (fun j x hx => by
    have hj : j < s.size := by rw [← hl]; exact (List.getElem?_eq_some_iff.1 hx).1
    have hadd : (⟨w.heap.size, 0, none⟩ : Addr).add j = ⟨w.heap.size, j, none⟩ := by unfold Addr.add; split <;> simp_all
    rw [hadd]
    simp only [World.cell?, hb, Option.isSome_none, Bool.false_eq_true, if_false]
    rw [cv_get _ _ _ (by rw [bys_length]; exact hj)]
    congr 2
    unfold gi bys
    rw [List.getD_eq_getElem?_getD, List.getElem?_map, hx]
    rfl)
  rw [hl] at h
  exact h
theorem below_grows' {w W : World} (h : Below w.heap.size w W) : Grows w W := by
  rw [← Wd_nil w] at h
  obtain ⟨g, d, e⟩ := below_grows h
  exact ⟨g, d, by rw [e]; rfl⟩
attribute [local go_sem] cpX_le
set_option maxRecDepth 100000 in
set_option maxHeartbeats 1000000 in
theorem clone0_any (s : ByteArray) (hs : s.size ≤ 1000000) (w : World) : Calls Tryz.prog 101 #[.string s] w fun e w' => e = .returned (.string s) ∧ Grows w w' := by
  by_cases h0 : s.size = 0
  · have he : s = .empty := by
      apply bys_inj
      rw [List.length_eq_zero_iff.1 ((bys_length s).trans h0)]; rfl
    subst he
    refine calls_wd ?_
    go_enter Tryz.func101, Tryz.ntmps101
    go_wp2
    go_ret
    exact ⟨rfl, Grows.of _ _ _⟩
  · have hmk : (Tryz.prog.info? 5).map (fun i => (i.zero, i.size, i.bytes)) = some (some (.int .u8 0), 1, 1) := by kernel_rfl
    have hz5 : zeroOf Tryz.prog 5 = .int .u8 0 := by kernel_rfl
    have hi : ¬ (s.size : Int) = 0 := by omega
    have hp : 0 < s.size := by omega
    have hpi : (0 : Int) < (s.size : Int) := by omega
    have hcb : s.size ≤ 140737488355328 := by omega
    have hbl := bys_length s
    have hfull : spl (rep s.size) 0 (bys s) = bys s := spl_full (by rw [rep_length, hbl])
    have hUS := unsafe_row w s h0 hs
    clear h0
    refine calls_wd ?_
    go_enter Tryz.func101, Tryz.ntmps101
    go_wp2
    go_ret
    exact ⟨rfl, below_grows' (Lib.below_freeze (below_alloc w _ _) (Nat.le_refl _) _)⟩
set_option maxRecDepth 100000 in
theorem clone_any (s : ByteArray) (hs : s.size ≤ 1000000) (w : World) : Calls Tryz.prog 70 #[.string s] w fun e w' => e = .returned (.string s) ∧ Grows w w' := by
  refine calls_wd ?_
  go_enter Tryz.func70, Tryz.ntmps70
  go_wp2_with fail
  refine (clone0_any s hs _).mono ?_
  rintro e w' ⟨rfl, g, d, rfl⟩
  rw [Wd_wd]
  go_wp2
  go_ret
  exact ⟨rfl, Grows.of _ _ _⟩
/-- Texts as values. -/
def strs (ts : List (List Nat)) : List Value := ts.map fun t => .string (mkS t)
theorem strs_length (ts : List (List Nat)) : (strs ts).length = ts.length := by simp [strs]
theorem strs_one (ts : List (List Nat)) : ∀ v ∈ strs ts, v.oneCell' = true := by
  intro v hv
  simp only [strs, List.mem_map] at hv
  obtain ⟨t, _, rfl⟩ := hv
  rfl
theorem strs_snoc (ts : List (List Nat)) (s : ByteArray) : strs (ts ++ [bys s]) = strs ts ++ [.string s] := by simp [strs, mkS_bys]
set_option maxRecDepth 100000 in
set_option maxHeartbeats 2000000 in
/-- A half with a text more. -/
theorem with_any (w : World) (l : List Obj) (d : Nat) (p q : Option Addr) (fi n g u x c : Nat) (ts : List (List Nat)) (A : Nat → Prop) (hA : ∀ i, l.length ≤ i → A i) (hv : RowV A w l 1 ts.length (.slice q x c) (strs ts)) (s : ByteArray) (hs : s.size ≤ 1000000) (hu : u ≤ 1000000) (ht : ts.length ≤ 100000) :
    Calls Tryz.prog 57 #[.agg (hcl (.pointer p) fi n g (.slice q x c) u), .string s] (Wd w l d) fun e w' => ∃ vt' l' d', e = .returned (.agg (hcl (.pointer p) fi n g vt' (u + secs s.size))) ∧ w' = Wd w l' d' ∧ RowV A w l' 1 (ts.length + 1) vt' (strs (ts ++ [bys s])) ∧ l.length ≤ l'.length ∧ ∀ i, i < l.length → NotAt w (.slice q x c) i → l'[i]? = l[i]? := by
  obtain ⟨S, hS⟩ : ∃ S, secs s.size = S := ⟨_, rfl⟩
  have hSb : S ≤ 1000000 := by rw [← hS]; unfold secs; omega
  have HSEC : Hid (∀ W, Calls Tryz.prog 81 #[.int .i64 (s.size : Int)] W fun e w' => e = .returned (.int .i64 (S : Int)) ∧ Grows W w') := Lib.hid fun W => by rw [← hS]; exact (sectors_any s.size (by omega) W).mono fun _ _ ⟨h1, h2⟩ => ⟨h1, h2 ▸ Grows.refl _⟩
  have HC := Lib.hid (clone_any s hs)
  have HV := Lib.hid hv
  rw [hS]
  obtain ⟨U, hU⟩ : ∃ U, u + S = U := ⟨_, rfl⟩
  have hSi : (u : Int) + (S : Int) = (U : Int) := by omega
  have hUb : U ≤ 2000000 := by omega
  rw [hU]
  clear hv hS hU
  obtain ⟨L0, hL0⟩ : ∃ L0, l ++ [Obj.cells (hcl (.pointer p) fi n g (.slice q x c) u) 107 (0, 0)] ++ [Obj.cells (hcl (.pointer none) 0 0 0 (.slice none 0 0) 0) 107 (0, 0)] = L0 := ⟨_, rfl⟩
  have h0 : L0[l.length]? = some (.cells (hcl (.pointer p) fi n g (.slice q x c) u) 107 (0, 0)) := by rw [← hL0]; simp
  have h1 : L0[l.length + 1]? = some (.cells (hcl (.pointer none) 0 0 0 (.slice none 0 0) 0) 107 (0, 0)) := by rw [← hL0]; simp
  have HB1 := Lib.hid fun (g' : List Obj) (e : Nat) => big_call (L := fun g' => L0 ++ g') (g := g') (e := e) (w := w) (l0 := L0) (fun _ _ => List.append_assoc _ _ _) (fun _ => rfl) (HSEC.out _)
  have H0 := Lib.hid h0
  have H1 := Lib.hid h1
  go_enter Tryz.func57, Tryz.ntmps57
  have H0g : Hid (∀ g', (L0 ++ g')[l.length]? = some (.cells (hcl (.pointer p) fi n g (.slice q x c) u) 107 (0, 0))) := Lib.hid fun g' => app_some h0
  have hsm0 : ∀ i, i < l.length → L0[i]? = l[i]? := fun i hi => by rw [← hL0, List.append_assoc, List.getElem?_append_left hi]
  have HS0 := Lib.hid hsm0
  have h0g := H0g.out
  clear hsm0
  go_wp2
  refine wp_region_big 7 (by kernel_rfl) (by kernel_rfl) ?_
  simp only [List.take_succ_cons, List.take_zero, List.drop_succ_cons, List.drop_zero]
  repeat (go_big_quiet_step ((intro _; with_reducible exact HB1.out _ _)))
  refine wpQuiet_nil ?_
  intro gR eR
  go_wp2
  obtain ⟨L1, hL1⟩ : ∃ L1, (L0 ++ gR).set l.length (.cells (hcl (.pointer p) fi n g (.slice q x c) U) 107 (0, 0)) = L1 := ⟨_, rfl⟩
  have HL0 : Hid (L1[l.length]? = some (.cells (hcl (.pointer p) fi n g (.slice q x c) U) 107 (0, 0))) := Lib.hid (by rw [← hL1]; exact set_some (app_some H0.out))
  have HL1 : Hid (L1[l.length + 1]? = some (.cells (hcl (.pointer none) 0 0 0 (.slice none 0 0) 0) 107 (0, 0))) := Lib.hid (by rw [← hL1]; exact set_other (by omega) (app_some H1.out))
  have HSM : Hid (∀ i, i < l.length → L1[i]? = l[i]?) := Lib.hid fun i hi => by rw [← hL1, List.getElem?_set_ne (by omega), List.getElem?_append_left (by have := (List.getElem?_eq_some_iff.1 H1.out).1; omega)]; exact HS0.out i hi
  rw [hL1]
  have HBK : Hid (blk (Wd w L1 eR) (w.heap.size + l.length) = some (.cells (hcl (.pointer p) fi n g (.slice q x c) U) 107 (0, 0))) := Lib.hid (by rw [blk_at]; exact HL0.out)
  clear hL1 h0g h0 h1 hL0 HB1
  refine wp_region_fine_drop 5 (TL [eqv (.pointer (some ⟨w.heap.size + l.length, 4, none⟩)), eqv (.slice q x c), eqv (.string s), eqv (.string s), litB w.heap.size (.string s) 9]) (by kernel_rfl) (by kernel_rfl) (by kernel_rfl) (by kernel_rfl) (TL_last (List.forall_mem_cons.2 ⟨eqv_last _, List.forall_mem_cons.2 ⟨eqv_last _, List.forall_mem_cons.2 ⟨eqv_last _, List.forall_mem_cons.2 ⟨eqv_last _, List.forall_mem_cons.2 ⟨litB_last _ _ _, fun _ h => (List.not_mem_nil h).elim⟩⟩⟩⟩⟩)) (TL_no_guard (by kernel_rfl)) ?_ ?_
  · intro i o ho a W hB hdep hfix
    simp only [List.take_succ_cons, List.take_zero] at ho hdep hfix
    match i, ho with
    | 0, ho =>
      simp only [List.getElem?_cons_zero, Option.some.injEq] at ho; subst ho
      exact lays_eq _ rfl (exec_field (off := 4) (hfix 2 (by decide +kernel)) (by simp [go_sem]))
    | 1, ho =>
      simp only [List.getElem?_cons_zero, List.getElem?_cons_succ, Option.some.injEq] at ho; subst ho
      have e1 : a.tmps.getD 12 undef = .pointer (some ⟨w.heap.size + l.length, 4, none⟩) := hdep 0 _ 12 rfl rfl (by decide +kernel)
      exact lays_eq _ rfl (exec_load e1 (ldH4 (isaj32 W) (blk_below hB HBK.out)))
    | 2, ho =>
      simp only [List.getElem?_cons_zero, List.getElem?_cons_succ, Option.some.injEq] at ho; subst ho
      exact lays_eq _ rfl (exec_move (hfix 1 (by decide +kernel)))
    | 3, ho =>
      simp only [List.getElem?_cons_zero, List.getElem?_cons_succ, Option.some.injEq] at ho; subst ho
      have e1 : a.tmps.getD 14 undef = .string s := hdep 2 _ 14 rfl rfl (by decide +kernel)
      exact lays_call #[.string s] (by simp [Act.eval, e1]) (by kernel_rfl) ((HC.out W).mono fun e W' ⟨he, hg⟩ => ⟨_, he, hg.below, rfl⟩)
    | 4, ho =>
      simp only [List.getElem?_cons_zero, List.getElem?_cons_succ, Option.some.injEq] at ho; subst ho
      have e1 : a.tmps.getD 15 undef = .string s := hdep 3 _ 15 rfl rfl (by decide +kernel)
      exact lays_bsB (by have := hB.size; rw [Wd_size] at this; omega) (fun w l d => bsj32s _ w l d) e1 (fun _ _ h => h)
    | i + 5, ho => simp at ho
  · intro a W hB hd hsz hfix hT
    simp only [List.take_succ_cons, List.take_zero, List.drop_succ_cons, List.drop_zero] at hfix hT ⊢
    have f2 : a.tmps.getD 2 undef = .pointer (some ⟨w.heap.size + l.length, 0, none⟩) := hfix 2 (by decide +kernel)
    have f4 : a.tmps.getD 4 undef = .pointer (some ⟨w.heap.size + (l.length + 1), 0, none⟩) := hfix 4 (by decide +kernel)
    have f13 : a.tmps.getD 13 undef = .slice q x c := hT 1 _ 13 rfl rfl
    have g16 : litB w.heap.size (.string s) 9 (a.tmps.getD 16 undef) W := hT 4 _ 16 rfl rfl
    rw [frame_lit a 20 hsz hd]
    clear hfix hT hsz hd
    simp only [List.range, List.range.loop, List.map]
    generalize a.tmps = t at *
    simp only [f2, f4, f13]
    clear f2 f4 f13
    obtain ⟨gS, dS, rfl⟩ := below_grows hB
    obtain ⟨b, hb1, hb2, hb3⟩ := g16
    simp only [hb2]
    obtain ⟨j, rfl⟩ : ∃ j, b = w.heap.size + j := ⟨b - w.heap.size, by omega⟩
    rw [blk_at] at hb3
    obtain ⟨L2, hL2⟩ : ∃ L2, L1 ++ gS = L2 := ⟨_, rfl⟩
    rw [hL2] at hb3 ⊢
    have hg0 : L2[l.length]? = some (.cells (hcl (.pointer p) fi n g (.slice q x c) U) 107 (0, 0)) := by rw [← hL2]; exact app_some HL0.out
    have hg1 : L2[l.length + 1]? = some (.cells (hcl (.pointer none) 0 0 0 (.slice none 0 0) 0) 107 (0, 0)) := by rw [← hL2]; exact app_some HL1.out
    have hlen : l.length + 2 ≤ L2.length := by have := (List.getElem?_eq_some_iff.1 hg1).1; omega
    have hsame : ∀ i, i < l.length → L2[i]? = l[i]? := fun i hi => by rw [← hL2, List.getElem?_append_left (by have := (List.getElem?_eq_some_iff.1 HL1.out).1; omega)]; exact HSM.out i hi
    have HRV : Hid (RowV (fun p => A p ∧ p ≠ l.length ∧ p ≠ l.length + 1) w L2 1 ts.length (.slice q x c) (strs ts)) := Lib.hid (HV.out.mono fun i hi hlt => ⟨⟨hi, by omega, by omega⟩, hsame i hlt⟩)
    have HLT : Hid (RowV (fun _ => True) w L2 1 1 (.slice (some ⟨w.heap.size + j, 0, none⟩) 1 1) [.string s]) := Lib.hid (.inr ⟨j, 1, [.string s], 9, trivial, rfl, hb3, rfl, Nat.le_refl _, rfl⟩)
    have HSAME := Lib.hid hsame
    have HG0 := Lib.hid hg0
    have HG1 := Lib.hid hg1
    have HLEN := Lib.hid hlen
    clear hL2 hb3 hb1 hB hg0 hg1 hsame hb2
    go_wp2_with (refine wpList_row rfl (.tmp 13) (.tmp 16) 29 9 rfl rt32 (A := fun p => A p ∧ p ≠ l.length ∧ p ≠ l.length + 1) (B := fun _ => True) (fun p hp => ⟨hA p (by have := HLEN.out; omega), by have := HLEN.out; omega, by have := HLEN.out; omega⟩) (.slice q x c) ts.length (strs ts) rfl HRV.out (.slice (some ⟨w.heap.size + j, 0, none⟩) 1 1) 1 [.string s] rfl HLT.out (by intro u hu; rw [List.mem_singleton.1 hu]; rfl) (by omega) ?_)
    intro v' l' d' HR1 HR2 HR3
    have hv1 := RowV.one HR1.out
    have hg0 : l'[l.length]? = some (.cells (hcl (.pointer p) fi n g (.slice q x c) U) 107 (0, 0)) := (HR3.out _ (by have := HLEN.out; omega) (HV.out.beyond (Nat.le_refl _))).trans HG0.out
    have hg1 : l'[l.length + 1]? = some (.cells (hcl (.pointer none) 0 0 0 (.slice none 0 0) 0) 107 (0, 0)) := (HR3.out _ (by have := HLEN.out; omega) (HV.out.beyond (by omega))).trans HG1.out
    have hg0' : ∀ X, (l'.set l.length X)[l.length]? = some X := fun X => set_some hg0
    have hg1' : ∀ X, (l'.set l.length X)[l.length + 1]? = some (.cells (hcl (.pointer none) 0 0 0 (.slice none 0 0) 0) 107 (0, 0)) := fun X => set_other (by omega) hg1
    go_wp2
    refine ret_mix (i := l.length + 1) (c := hcl (.pointer p) fi n g v' U) (t := 107) (f := (0, 0)) rfl rfl agj61 (set_some (hg1' _)) rfl rfl ⟨v', _, _, rfl, rfl, ?_, ?_, fun i hi hn => ?_⟩
    · rw [strs_snoc]
      exact HR1.out.mono fun i hi _ => ⟨hi.1, by rw [List.getElem?_set_ne (fun e => hi.2.2 e.symm), List.getElem?_set_ne (fun e => hi.2.1 e.symm)]⟩
    · have h1 := HR2.out
      have h2 := HLEN.out
      simp only [List.length_set]; omega
    · rw [List.getElem?_set_ne (by omega), List.getElem?_set_ne (by omega), HR3.out i (by have := HLEN.out; omega) hn]
      exact HSAME.out i hi
end Go.Proofs.YtlogjpmdfimgdaaGreatDoor.Jf
namespace Go.Proofs.YtlogjpmdfimgdaaGreatDoor.Jf
open Go Go.RowKit Go.Own.Jf
attribute [-go_sem] Sm.execOp_bs run_string_add_if
attribute [local go_sem] agj61 csj61 szj61 agj25 isaj25 csj25 szj25 agj32 isaj32 csj32 szj32 agj38 isaj38 csj38 szj38 agj54 isaj54 csj54 szj54 agj9 isaj9 csj9 szj9 zj61 alXA ldH0 ldH1 ldH2 ldH3 ldH4 ldH5 ldHA
/-- The value v is that step, of the disk at place i; its own blocks lie where A allows. -/
def StpAt (w : World) (L : List Obj) (A : Nat → Prop) (i : Nat) (v : Value) : Stp → Prop
  | .f => v = .func (.func 86) #[.pointer (some ⟨w.heap.size + i, 0, none⟩)] #[]
  | .w a s => ∃ b1 b2 b3 fi n g u vt at' y, A b1 ∧ A b2 ∧ A b3 ∧ v = .func (.func 118) #[] #[.pointer (some ⟨w.heap.size + b1, 0, none⟩), .pointer (some ⟨w.heap.size + b2, 0, none⟩), .pointer (some ⟨w.heap.size + b3, 0, none⟩)] ∧
      L[b1]? = some (.cells (hcl (.pointer (some ⟨w.heap.size + i, 0, none⟩)) fi n g vt u) 107 (0, 0)) ∧ L[b2]? = some (.cells #[.int .i64 ((at' : Nat) : Int)] 3 (0, 0)) ∧ L[b3]? = some (.cells #[.string y] 9 (0, 0)) ∧ fi + at' = a ∧ bys y = s ∧ a ≤ 1000000
theorem StpAt.mono {w : World} {L L' : List Obj} {A B : Nat → Prop} {i : Nat} {v : Value} {s : Stp} (h : StpAt w L A i v s) (hl : ∀ p, A p → p < L.length → B p ∧ L'[p]? = L[p]?) : StpAt w L' B i v s := by
  cases s with
  | f => exact h
  | w a s =>
    obtain ⟨b1, b2, b3, fi, n, g, u, vt, at', y, h1, h2, h3, hv, e1, e2, e3, h4⟩ := h
    have k1 := hl b1 h1 (List.getElem?_eq_some_iff.1 e1).1
    have k2 := hl b2 h2 (List.getElem?_eq_some_iff.1 e2).1
    have k3 := hl b3 h3 (List.getElem?_eq_some_iff.1 e3).1
    exact ⟨b1, b2, b3, fi, n, g, u, vt, at', y, k1.1, k2.1, k3.1, hv, by rw [k1.2]; exact e1, by rw [k2.2]; exact e2, by rw [k3.2]; exact e3, h4⟩
theorem StpAt.one {w : World} {L : List Obj} {A : Nat → Prop} {i : Nat} {v : Value} {s : Stp} (h : StpAt w L A i v s) : v.oneCell' = true := by
  cases s with
  | f => subst h; rfl
  | w a s => obtain ⟨b1, b2, b3, fi, n, g, u, vt, at', y, h1, h2, h3, rfl, _⟩ := h; rfl
/-- A row of them. -/
def Steps (w : World) (L : List Obj) (A : Nat → Prop) (i : Nat) (vs : List Value) (ss : List Stp) : Prop :=
  vs.length = ss.length ∧ ∀ (k : Nat) v s, vs[k]? = some v → ss[k]? = some s → StpAt w L A i v s
theorem Steps.nil (w : World) (L : List Obj) (A : Nat → Prop) (i : Nat) : Steps w L A i [] [] := ⟨rfl, fun k v s h _ => by simp at h⟩
theorem Steps.single {w : World} {L : List Obj} {A : Nat → Prop} {i : Nat} {v : Value} {s : Stp} (h : StpAt w L A i v s) : Steps w L A i [v] [s] := ⟨rfl, fun k v' s' h1 h2 => by
  cases k with
  | zero => simp at h1 h2; subst h1; subst h2; exact h
  | succ k => simp at h1⟩
theorem Steps.append {w : World} {L : List Obj} {A : Nat → Prop} {i : Nat} {vs us : List Value} {ss rs : List Stp} (h : Steps w L A i vs ss) (k : Steps w L A i us rs) : Steps w L A i (vs ++ us) (ss ++ rs) := by
  refine ⟨by rw [List.length_append, List.length_append, h.1, k.1], fun j v s h1 h2 => ?_⟩
  by_cases hj : j < vs.length
  · rw [List.getElem?_append_left hj] at h1
    rw [List.getElem?_append_left (by rw [← h.1]; exact hj)] at h2
    exact h.2 j v s h1 h2
  · rw [List.getElem?_append_right (by omega)] at h1
    rw [List.getElem?_append_right (by have := h.1; omega)] at h2
    exact k.2 _ v s h1 (by rw [h.1]; exact h2)
theorem Steps.mono {w : World} {L L' : List Obj} {A B : Nat → Prop} {i : Nat} {vs : List Value} {ss : List Stp} (h : Steps w L A i vs ss) (hl : ∀ p, A p → p < L.length → B p ∧ L'[p]? = L[p]?) : Steps w L' B i vs ss :=
  ⟨h.1, fun k v s h1 h2 => (h.2 k v s h1 h2).mono hl⟩
theorem Steps.one {w : World} {L : List Obj} {A : Nat → Prop} {i : Nat} {vs : List Value} {ss : List Stp} (h : Steps w L A i vs ss) : ∀ v ∈ vs, v.oneCell' = true := fun v hv => by
  obtain ⟨k, hk⟩ := List.getElem?_of_mem hv
  have hk2 : k < ss.length := by rw [← h.1]; exact (List.getElem?_eq_some_iff.1 hk).1
  exact (h.2 k v _ hk (List.getElem?_eq_getElem hk2)).one
set_option maxRecDepth 100000 in
theorem write_step (w : World) (l : List Obj) (d i fi n g u : Nat) (vt : Value) (k : Nat) (y : ByteArray) (hk : fi + k ≤ 1000000) :
    Calls Tryz.prog 83 #[.agg (hcl (.pointer (some ⟨w.heap.size + i, 0, none⟩)) fi n g vt u), .int .i64 (k : Int), .string y] (Wd w l d) fun e w' => ∃ v g' d', e = .returned v ∧ w' = Wd w (l ++ g') d' ∧ StpAt w (l ++ g') (fun p => l.length ≤ p) i v (.w (fi + k) (bys y)) := by
  go_enter Tryz.func83, Tryz.ntmps83
  go_wp2
  go_ret
  refine ⟨_, _, _, rfl, rfl, l.length, l.length + 1, l.length + 2, fi, n, g, u, vt, k, y, by omega, by omega, by omega, rfl, ?_, ?_, ?_, rfl, rfl, hk⟩
  · simp
  · rw [List.getElem?_append_right (by omega), Nat.add_sub_cancel_left]; rfl
  · rw [List.getElem?_append_right (by omega), Nat.add_sub_cancel_left]; rfl
attribute [local go_sem] bsj78
set_option maxRecDepth 100000 in
/-- What empties the sector behind all records. -/
theorem ending_any (w : World) (l : List Obj) (d i fi n g u : Nat) (vt : Value) (hu : u ≤ n) (hn : n ≤ 100000) (hfi : fi ≤ 100000) (ts : List (List Nat)) :
    Calls Tryz.prog 60 #[.agg (hcl (.pointer (some ⟨w.heap.size + i, 0, none⟩)) fi n g vt u)] (Wd w l d) fun e w' => ∃ v vs g' d', e = .returned v ∧ w' = Wd w (l ++ g') d' ∧ RowV (fun p => l.length ≤ p) w (l ++ g') 1 (⟨fi, n, g, u, ts⟩ : Hf).ending.length v vs ∧ Steps w (l ++ g') (fun p => l.length ≤ p) i vs (⟨fi, n, g, u, ts⟩ : Hf).ending := by
  by_cases h0 : u = n
  · subst h0
    have he : (⟨fi, u, g, u, ts⟩ : Hf).ending = [] := by unfold Hf.ending; rw [if_pos rfl]
    rw [he]
    go_enter Tryz.func60, Tryz.ntmps60
    go_wp2
    go_ret
    exact ⟨_, [], _, _, rfl, rfl, .inl ⟨rfl, rfl, rfl⟩, Steps.nil _ _ _ _⟩
  · have he : (⟨fi, n, g, u, ts⟩ : Hf).ending = [.w (fi + u) []] := by unfold Hf.ending; rw [if_neg h0]
    rw [he]
    have h0i : ¬ (u : Int) = (n : Int) := by omega
    have HW := Lib.hid fun l d => write_step w l d i fi n g u vt u .empty (by omega)
    clear h0
    go_enter Tryz.func60, Tryz.ntmps60
    go_wp2_with fail
    refine (HW.out _ _).mono ?_
    rintro e w' ⟨v, g', d', rfl, rfl, hst⟩
    have hv1 := hst.one
    have HST := Lib.hid hst
    clear hst
    go_wp2
    go_ret
    have hx : ∀ p, p < (l ++ [Obj.cells (hcl (.pointer (some ⟨w.heap.size + i, 0, none⟩)) fi n g vt u) 107 (0, 0)] ++ g').length → (l ++ Obj.cells (hcl (.pointer (some ⟨w.heap.size + i, 0, none⟩)) fi n g vt u) 107 (0, 0) :: (g' ++ [Obj.cells #[v] 131 (0, 0)]))[p]? = (l ++ [Obj.cells (hcl (.pointer (some ⟨w.heap.size + i, 0, none⟩)) fi n g vt u) 107 (0, 0)] ++ g')[p]? := fun p hp => by
      have e : l ++ Obj.cells (hcl (.pointer (some ⟨w.heap.size + i, 0, none⟩)) fi n g vt u) 107 (0, 0) :: (g' ++ [Obj.cells #[v] 131 (0, 0)]) = (l ++ [Obj.cells (hcl (.pointer (some ⟨w.heap.size + i, 0, none⟩)) fi n g vt u) 107 (0, 0)] ++ g') ++ [Obj.cells #[v] 131 (0, 0)] := by simp
      rw [e, List.getElem?_append_left hp]
    refine ⟨_, [v], _, _, rfl, rfl, .inr ⟨l.length + (g'.length + 1), 1, [v], 131, by omega, ?_, ?_, rfl, Nat.le_refl _, rfl⟩, Steps.single (HST.out.mono fun p hp hlt => ⟨by simp at hp; omega, hx p hlt⟩)⟩
    · rfl
    · rw [List.getElem?_append_right (by omega), Nat.add_sub_cancel_left, List.getElem?_cons_succ]; simp
end Go.Proofs.YtlogjpmdfimgdaaGreatDoor.Jf
namespace Go.Own.Jf
open Go Go.RowKit
/-! ### Inside of a round -/
/-- The wide fence, in the round of the loop l. -/
def rnd (l : Nat) : Fence := Fence.wide.inRound l
section
variable {P : Program} {ops : Array Oper} {Q : Exit → Act → World → Prop} {l n : Nat}
theorem calls_rnd {f : FuncId} {args : Array Value} {w : World} {R : Ending → World → Prop} (h : Calls P f args w R) : CallsIn (rnd l) n P f args w R :=
  CallsIn.inRound l (callsIn_wide.2 h)
theorem rows_rnd {row : String} {args : Array Value} {w : World} {R : Value → World → Prop} (h : Rows P row args w R) : RowsIn (rnd l) n P row args w R :=
  fun c cs _ => let ⟨v, w', r, s⟩ := h c cs; ⟨v, w', r, stepsIn_wide.2 s⟩
theorem operIn_rnd {o : Oper} {a : Act} {w : World} {K K' : Act → World → Prop} (hd : ∀ c, o.op ≠ .defer c) (hK : ∀ a w, K a w → K' a w) (h : o.wp P a w K Q) : o.wpIn (rnd l) n P a w K' Q := by
  refine ⟨fun _ _ => trivial, ?_⟩
  rw [Oper.semAt_eq _ _ _ hd]
  unfold Oper.wp at h
  generalize (execOp a.eval o).run P w = r at h
  cases r with
  | ok x w' =>
    cases x with
    | value v => exact hK _ _ h
    | skip => exact hK _ _ h
    | defer d => exact hK _ _ h
    | enter f args =>
      refine ⟨fun h0 => (by cases h0), calls_rnd (Calls.mono h ?_)⟩
      intro e w2 he
      cases e with
      | returned v => exact hK _ _ he
      | panicked c => exact he
      | outgrown => exact he
    | row r args =>
      refine ⟨fun h0 => (by cases h0), rows_rnd (Rows.mono h ?_)⟩
      intro v w2 he
      exact hK _ _ he
    | _ => exact h.elim
  | halt h' w' => cases h' <;> first | exact h | exact h.elim
theorem wpOpIn_rnd {i : Nat} {a : Act} {w : World} {K K' : Act → World → Prop} (hL : ¬ LetsOut Q) (hd : ∀ o : Oper, ops[i]? = some o → ∀ c, o.op ≠ .defer c) (hK : ∀ a w, K a w → K' a w) (h : wpOp P ops Q i K a w) :
    wpOpIn (rnd l) n P ops Q i K' a w := by
  unfold wpOp at h
  unfold wpOpIn
  cases ho : ops[i]? with
  | none => rw [ho] at h; exact hK _ _ h
  | some o =>
    rw [ho] at h
    simp only at h ⊢
    split
    · rename_i hw
      rw [if_pos hw] at h
      rcases h with h | h
      · exact operIn_rnd (hd o ho) hK h
      · exact absurd h.2 hL
    · rename_i hw
      rw [if_neg hw] at h
      exact ⟨fun _ _ => trivial, hK _ _ h⟩
theorem wpAnyIn_rnd (hL : ¬ LetsOut Q) (hd : ∀ (i : Nat) (o : Oper), ops[i]? = some o → ∀ c, o.op ≠ .defer c) {md : Region.Mode} : ∀ (fuel : Nat) (done : Array Bool) (a : Act) (w : World), wpAny P md ops Q fuel done a w → wpAnyIn (rnd l) n P md ops Q fuel done a w
  | 0, _, _, _, h => h
  | fuel + 1, _, _, _, h => ⟨h.1, fun i hi => wpOpIn_rnd hL (hd i) (fun _ _ h => wpAnyIn_rnd hL hd fuel _ _ _ h) (h.2 i hi)⟩
theorem wpListIn_rnd (hL : ¬ LetsOut Q) : ∀ (L : List Oper) (a : Act) (w : World), (∀ o ∈ L, ∀ c, o.op ≠ .defer c) → wpList P ops Q L a w → wpListIn (rnd l) n P ops Q L a w
  | [], _, _, _, h => h
  | o :: rest, a, w, hd, h => by
    unfold wpList at h
    unfold wpListIn
    split
    · rename_i hw
      rw [if_pos hw] at h
      rcases h with h | h
      · exact operIn_rnd (hd o List.mem_cons_self) (fun _ _ h => wpListIn_rnd hL rest _ _ (fun o ho => hd o (List.mem_cons_of_mem _ ho)) h) h
      · exact absurd h.2 hL
    · rename_i hw
      rw [if_neg hw] at h
      exact ⟨fun _ _ => trivial, wpListIn_rnd hL rest _ _ (fun o ho => hd o (List.mem_cons_of_mem _ ho)) h⟩
/-- No deferred call among them. -/
def noDefer (ops : Array Oper) : Bool := ops.all fun o => match o.op with | .defer _ => false | _ => true
theorem noDefer_at (h : noDefer ops = true) : ∀ (i : Nat) (o : Oper), ops[i]? = some o → ∀ c, o.op ≠ .defer c := by
  intro i o ho c hc
  unfold noDefer at h
  have := Array.all_eq_true_iff_forall_mem.1 h o (Array.mem_of_getElem? ho)
  rw [hc] at this
  cases this
/-- A region that draws, inside of a round. -/
theorem region_rnd {id : Nat} {a : Act} {w : World} (hm : P.follows .mixedOrders = true) (hn : noDefer ops = true) (hL : ¬ LetsOut Q)
    (h : wpAny P .any ops Q ops.size (Array.replicate ops.size false) a { w with drawn := w.drawn + 1 }) : (Code.region id ops true).wpIn (rnd l) n P Q a w :=
  wpIn_region_any hm (wpAnyIn_rnd hL (noDefer_at hn) _ _ _ _ h)
theorem region_rnd_lit {id : Nat} {L : List Oper} {a : Act} {w : World} (hn : noDefer L.toArray = true) (hL : ¬ LetsOut Q)
    (h : wpList P L.toArray Q L a w) : (Code.region id L.toArray false).wpIn (rnd l) n P Q a w :=
  wpIn_region_lit (wpListIn_rnd hL _ _ _ (fun o ho => by
    obtain ⟨i, hi⟩ := List.mem_iff_getElem?.1 ho
    exact noDefer_at hn i o (by simpa using hi)) h)
end
theorem keeps_set {w : World} {l g : List Obj} {d e i : Nat} {X : Obj} (h : ∀ o, l[i]? = some o → o.isCells = true) : KeepsOthers (Wd w l d) (Wd w (l.set i X ++ g) e) := by
  refine ⟨by simp [Wd], fun k o hk ho => ?_⟩
  simp only [Wd, Array.getElem?_append, List.getElem?_toArray] at hk ⊢
  by_cases h1 : k < w.heap.size
  · rw [if_pos h1] at hk ⊢; exact hk
  · rw [if_neg h1] at hk ⊢
    have h2 := (List.getElem?_eq_some_iff.1 hk).1
    have h3 : i ≠ k - w.heap.size := fun e => by
      rw [← e] at hk
      rw [h o hk] at ho
      cases ho
    rw [List.getElem?_append_left (by rw [List.length_set]; exact h2), List.getElem?_set_ne h3, hk]

/-! ### The marks that the loops leave -/
def marks (w : World) (js : List Nat) : List Deferred := js.map fun j => { target := .collected (w.heap.size + j), args := #[] }
theorem Wd_putObj (w : World) (l : List Obj) (d j : Nat) (o : Obj) : (Wd w l d).putObj (w.heap.size + j) o = Wd w (l.set j o) d := by
  unfold World.putObj Wd
  simp only [World.mk.injEq, and_true]
  apply Array.ext'
  simp only [Array.toList_setIfInBounds, Array.toList_append]
  rw [List.set_append_right _ _ (by simp)]
  simp
theorem leaves_marks {F : Fence} {n : Nat} {P : Program} {fn : Func} {tmps : Array Value} {R : Ending → World → Prop} (w : World) (d : Nat) : ∀ (js : List Nat) (l : List Obj), (∀ j ∈ js, l[j]? = some (.deferred (some []))) → js.Nodup →
    (∀ l', (∀ i, i ∉ js → l'[i]? = l[i]?) → ∃ v, (results fn tmps).run P (Wd w l' d) = .ok v (Wd w l' d) ∧ R (.returned v) (Wd w l' d)) → LeavesInM F n P fn tmps R (marks w js) .returning (Wd w l d)
  | [], l, _, _, h => h l fun _ _ => rfl
  | j :: js, l, hj, hn, h => by
    have hb : (Wd w l d).heap[w.heap.size + j]? = some (.deferred (some [])) := by rw [Wd_at]; exact hj j List.mem_cons_self
    refine ⟨by simp, .inl ⟨_, _, rfl, run_takeDeferred hb, ?_⟩⟩
    rw [Wd_putObj]
    have hn' := List.nodup_cons.1 hn
    refine leaves_marks w d js _ (fun i hi => ?_) hn'.2 (fun l' hl' => h l' fun i hi => ?_)
    · have : j ≠ i := fun e => hn'.1 (e ▸ hi)
      rw [List.getElem?_set_ne this]; exact hj i (List.mem_cons_of_mem _ hi)
    · rw [hl' i (fun e => hi (List.mem_cons_of_mem _ e)), List.getElem?_set_ne (fun e : j = i => hi (by rw [← e]; exact List.mem_cons_self))]


/-- The block b lies as it lay. -/
def KeepsB (b : Nat) (A B : World) : Prop := ∀ o, blk A b = some o → blk B b = some o
/-- What has grown is w with other blocks behind it. -/
theorem grown_wd {w W' : World} {L : List Obj} {d : Nat} {row : Option Nat} (hg : (Wd w L d).grownBy W' row) (hr : ∀ r, row = some r → w.heap.size ≤ r) :
    ∃ L' d', W' = Wd w L' d' ∧ L.length ≤ L'.length ∧ ∀ p, p < L.length → row ≠ some (w.heap.size + p) → L'[p]? = L[p]? := by
  have hB : Below (w.heap.size + ([] : List Obj).length) (Wd w ([] ++ L) d) W' := by
    refine ⟨hg.os, hg.tape, hg.output, hg.size, fun k hk => hg.block k (by simp [Wd] at hk ⊢; omega) (fun e => ?_)⟩
    have := hr k e.symm; simp at hk; omega
  obtain ⟨L', d', rfl⟩ := Go.Proofs.YtlogjpmdfimgdaaGreatDoor.Jf.below_wd hB
  refine ⟨L', d', rfl, ?_, fun p hp hne => ?_⟩
  · have := hg.size; simp [Wd] at this; omega
  · have h1 := hg.block (w.heap.size + p) (by simp [Wd]; omega) (fun e => hne e.symm)
    rw [Wd_at, Wd_at] at h1
    exact h1
end Go.Own.Jf
