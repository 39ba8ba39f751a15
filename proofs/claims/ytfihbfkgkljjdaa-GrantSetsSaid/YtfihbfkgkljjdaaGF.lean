/- The program's reading of a grant's list, and Parse: by contract, where the list is a right grant's; a text is none. No condition but the sizes. -/
import Derived.Test.YtfihbfkgkljjdaaGE
import Derived.Test.YtfihbfkgkljjdaaFJ
import Derived.ChangeKeysEq
namespace Go.Own
open Go Go.RowKit Go.Own.Fr
/-- A pointer to a new block that holds these values. -/
def newP (B : Nat) (T : TypeId) (cs : Array Value) (v : Value) (W : World) : Prop := ∃ b, B ≤ b ∧ v = .pointer (some ⟨b, 0, none⟩) ∧ W.heap[b]? = some (.cells cs T (0, 0))
theorem newP_last {B : Nat} {T : TypeId} {cs : Array Value} : Lasts (newP B T cs) := fun _ _ _ ⟨b, h1, h2, h3⟩ hB => ⟨b, h1, h2, (hB.block b (Array.getElem?_eq_some_iff.1 h3).1).trans h3⟩
end Go.Own
namespace Go.Proofs.Ytfihbfkgkljjdaa
open Go.RowKit Go.Own Go.Own.Fr Go.Maps Go.WideMaps
section
variable {ρ : Operand → Value} {W : World} {dst : Option Tmp} {ty : TypeId} {pos : String} {after : Array Edge} {guard : Option (Nat × Bool)} {v r : Value} {x y : Operand}
theorem exec_load {T : TypeId} (h1 : ρ x = v) (hr : (Instr.loadAt T v).run Try.prog W = .ok r W) : (execOp ρ { dst, op := .load T x, type := ty, pos, after, guard }).run Try.prog W = .ok (.value r) W := by
  simp [execOp, h1, hr, Result.andThen]
theorem exec_fdT {T k : Nat} (h1 : ρ x = v) (hr : (Instr.fieldAt T v k).run Try.prog W = .ok r W) : (execOp ρ { dst, op := .fieldAddr T x k, type := ty, pos, after, guard }).run Try.prog W = .ok (.value r) W := by
  simp [execOp, h1, hr, Result.andThen]
set_option maxRecDepth 100000 in
theorem lays_new {T : Nat → Value → World → Prop} {i : Nat} {a : Act} {E : TypeId} {cs : Array Value} {B : Nat} (hB : B ≤ W.heap.size) (he : (execOp a.eval { dst, op := .alloc E, type := ty, pos, after, guard }).run Try.prog W = .ok (.value (.pointer (some ⟨W.heap.size, 0, none⟩))) (W.alloc (.cells cs E)))
    (hT : ∀ v W, newP B E cs v W → T i v W) : Lays Try.prog T i { dst, op := .alloc E, type := ty, pos, after, guard } a W :=
  lays_value he ((Below.refl _ _).alloc (Nat.le_refl _) _) (hT _ _ ⟨W.heap.size, hB, rfl, heap_alloc_new W _⟩)
end
theorem exec_b29 {ρ : Operand → Value} {W : World} {dst : Option Tmp} {ty : TypeId} {pos : String} {after : Array Edge} {guard : Option (Nat × Bool)} {x0 x1 x2 x3 x4 x5 : Operand} {i o : Int} {s r : ByteArray} {p : Option Addr} {m c : Nat} {q : Bool}
    (h0 : ρ x0 = .int .i64 i) (h1 : ρ x1 = .string s) (h2 : ρ x2 = .string r) (h3 : ρ x3 = .int .i64 o) (h4 : ρ x4 = .slice p m c) (h5 : ρ x5 = .bool q) :
    (execOp ρ { dst, op := .build 29 #[(0, x0), (1, x1), (2, x2), (3, x3), (4, x4), (5, x5)], type := ty, pos, after, guard }).run Try.prog W = .ok (.value (.agg #[.int .i64 i, .string s, .string r, .int .i64 o, .slice p m c, .bool q])) W := by
  simp [execOp, h0, h1, h2, h3, h4, h5, go_sem]
theorem exec_pickT {ρ : Operand → Value} {W : World} {dst : Option Tmp} {ty : TypeId} {pos : String} {after : Array Edge} {guard : Option (Nat × Bool)} {x y z : Operand} {b : Bool} (h1 : ρ x = .bool true) (h2 : ρ y = .bool b) : (execOp ρ { dst, op := .pick x y z, type := ty, pos, after, guard }).run Try.prog W = .ok (.value (.bool b)) W := by
  simp [execOp, h1, h2, go_sem]
theorem eval_tmp (a : Act) (s : Nat) : a.eval (.tmp s) = a.tmps.getD s undef := rfl
theorem other_block {w : World} {a b : Nat} {cs ds : Array Value} {S T : TypeId} (h1 : w.heap[a]? = some (.cells cs S (0, 0))) (h2 : w.heap[b]? = some (.cells ds T (0, 0))) (hn : S ≠ T) : a ≠ b := fun e => by
  subst e
  rw [h1] at h2
  simp only [Option.some.injEq, Obj.cells.injEq] at h2
  exact hn h2.2.1
theorem grown_at {w w' : World} {g b : Nat} {o : Obj} (h : w.grownBy w' (some g)) (hb : w.heap[b]? = some o) (hn : b ≠ g) : w'.heap[b]? = some o := by
  rw [h.block b (Array.getElem?_eq_some_iff.1 hb).1 (fun e => hn (Option.some.inj e))]
  exact hb
set_option maxRecDepth 100000
theorem c64 : Try.prog.cellsOf 64 = 2 := by kernel_rfl
theorem c68 : Try.prog.cellsOf 68 = 2 := by kernel_rfl
theorem c72 : Try.prog.cellsOf 72 = 2 := by kernel_rfl
theorem eq65 (i o : Int) (s r n : ByteArray) (q : Bool) (W : World) : (Op.equalIn 10000 65 (intT i o s r n q) (intT i o s r n q)).run Try.prog W = .ok true W := by
  obtain ⟨t, ht⟩ := Option.isSome_iff_exists.1 (show (Try.prog.info? 64).isSome = true by kernel_rfl)
  unfold intT
  rw [run_equalIn_array (P := Try.prog) W 9999 (t := 65) (e := 64) (n := 6) (i := t) _ _ Try.underlying65 ht, c64]
  simp [Op.eqItems, List.range, List.range.loop, go_sem]
section
variable {ρ : Operand → Value} {W : World} {dst : Option Tmp} {ty : TypeId} {pos : String} {after : Array Edge} {guard : Option (Nat × Bool)} {x y : Operand}
theorem exec_eq65 (i o : Int) (s r n : ByteArray) (q : Bool) (h1 : ρ x = intT i o s r n q) (h2 : ρ y = intT i o s r n q) : (execOp ρ { dst, op := .binOp .eql 65 x y 65, type := ty, pos, after, guard }).run Try.prog W = .ok (.value (.bool true)) W := by
  have he := eq65 i o s r n q W
  unfold intT at h1 h2 he
  simp [execOp, h1, h2, go_sem, he, Result.andThen]
end
theorem eq69 (i o : Int) (s r n : ByteArray) (q : Bool) (W : World) : (Op.equalIn 10000 69 (strT i o s r n q) (strT i o s r n q)).run Try.prog W = .ok true W := by
  obtain ⟨t, ht⟩ := Option.isSome_iff_exists.1 (show (Try.prog.info? 68).isSome = true by kernel_rfl)
  unfold strT
  rw [run_equalIn_array (P := Try.prog) W 9999 (t := 69) (e := 68) (n := 6) (i := t) _ _ Try.underlying69 ht, c68]
  simp [Op.eqItems, List.range, List.range.loop, go_sem]
section
variable {ρ : Operand → Value} {W : World} {dst : Option Tmp} {ty : TypeId} {pos : String} {after : Array Edge} {guard : Option (Nat × Bool)} {x y : Operand}
theorem exec_eq69 (i o : Int) (s r n : ByteArray) (q : Bool) (h1 : ρ x = strT i o s r n q) (h2 : ρ y = strT i o s r n q) : (execOp ρ { dst, op := .binOp .eql 69 x y 69, type := ty, pos, after, guard }).run Try.prog W = .ok (.value (.bool true)) W := by
  have he := eq69 i o s r n q W
  unfold strT at h1 h2 he
  simp [execOp, h1, h2, go_sem, he, Result.andThen]
end
theorem eq73 (i o : Int) (s r n : ByteArray) (q : Bool) (W : World) : (Op.equalIn 10000 73 (boolT i o s r n q) (boolT i o s r n q)).run Try.prog W = .ok true W := by
  obtain ⟨t, ht⟩ := Option.isSome_iff_exists.1 (show (Try.prog.info? 72).isSome = true by kernel_rfl)
  unfold boolT
  rw [run_equalIn_array (P := Try.prog) W 9999 (t := 73) (e := 72) (n := 6) (i := t) _ _ Try.underlying73 ht, c72]
  simp [Op.eqItems, List.range, List.range.loop, go_sem]
section
variable {ρ : Operand → Value} {W : World} {dst : Option Tmp} {ty : TypeId} {pos : String} {after : Array Edge} {guard : Option (Nat × Bool)} {x y : Operand}
theorem exec_eq73 (i o : Int) (s r n : ByteArray) (q : Bool) (h1 : ρ x = boolT i o s r n q) (h2 : ρ y = boolT i o s r n q) : (execOp ρ { dst, op := .binOp .eql 73 x y 73, type := ty, pos, after, guard }).run Try.prog W = .ok (.value (.bool true)) W := by
  have he := eq73 i o s r n q W
  unfold boolT at h1 h2 he
  simp [execOp, h1, h2, go_sem, he, Result.andThen]
end
theorem grown_below {w w' w2 : World} {g : Nat} (h : w.grownBy w' (some g)) (hB : Below w'.heap.size w' w2) : w.grownBy w2 (some g) :=
  ⟨hB.os.trans h.os, hB.tape.trans h.tape, hB.output.trans h.output, Nat.le_trans h.size hB.size, fun k hk hn => (hB.block k (Nat.lt_of_lt_of_le hk h.size)).trans (h.block k hk hn)⟩
theorem grown_below_of {w w1 w2 : World} {B g : Nat} (h : Below B w w1) (hg : w1.grownBy w2 (some g)) (hB : B ≤ w1.heap.size) (hBg : B ≤ g) : Below B w w2 := below_put h hg hB hBg
/-- A context in memory stays, if a block is turned that holds no text. -/
theorem ps_past {w w' : World} {p : Option Addr} {n cap g : Nat} {L : List P2} {a b : Int} {q : Bool} (h : PsC w (.slice p n cap) L) (hr : rightP L = true) (hz : w.heap[g]? = some (.cells #[.int .i64 a, .string { data := #[] }, .string { data := #[] }, .int .i64 b, .slice none 0 0, .bool q] 29 (0, 0))) (hg : w.grownBy w' (some g)) : PsC w' (.slice p n cap) L := by
  obtain ⟨p', cap', e, hle, hc⟩ := id h
  refine ⟨p', cap', e, hle, fun j u hu => ?_⟩
  obtain ⟨bb, o, h1, h2⟩ := hc j u hu
  refine ⟨bb, o, h1, ?_⟩
  have hne : bb ≠ g := fun e2 => by
    subst e2
    cases L with
    | nil => simp [cellsP] at hu
    | cons x r =>
      obtain ⟨b3, o3, h3, h4⟩ := hc 0 (.string x.1) (by simp [cellsP])
      rw [h1] at h3
      obtain ⟨rfl, rfl⟩ : bb = b3 ∧ o = o3 := by simpa using h3
      rw [cell_of hz] at h4
      have hx := fit_sizes (((rightP_iff _).1 hr).2.1 x (by simp))
      match o, h4 with
      | 0, h4 => simp at h4
      | 1, h4 => simp at h4; rw [← h4] at hx; have := hx.1; simp [ByteArray.size] at this
      | 2, h4 => simp at h4; rw [← h4] at hx; have := hx.1; simp [ByteArray.size] at this
      | 3, h4 => simp at h4
      | 4, h4 => simp at h4
      | 5, h4 => simp at h4
      | o + 6, h4 => simp at h4
  have hlt := World.block_lt_of_cell? w _ h2
  rw [World.cell?_of_block (w := w) (a := ⟨bb, o + j, none⟩) (hg.block bb hlt (fun e => hne (Option.some.inj e)))]
  exact h2
/-- Values by their numbers. -/
def TV (xs : List Value) (i : Nat) (v : Value) : Prop := ∀ x, xs[i]? = some x → v = x
set_option maxRecDepth 100000 in
set_option maxHeartbeats 8000000 in
theorem read_ok (i op : Int) (s r n : ByteArray) (q : Bool) (hn : n.size ≤ 1000000) (hok : OkS n) (hsm : (⟨i, s, r, op, rd 8 n, q⟩ : Gr).small) (hrt : (⟨i, s, r, op, rd 8 n, q⟩ : Gr).right = true) (ht : needT ⟨i, s, r, op, rd 8 n, q⟩ = n) (bl : Nat) (w : World) (hbl : w.heap[bl]? = some (.cells (listV i op s r n q) 54 (0, 0))) :
    Calls Try.prog 30 #[.iface 43 (.slice (some ⟨bl, 0, none⟩) 6 6)] w fun e w' => ∃ v, e = .returned (.tuple #[v, .bool true]) ∧ GrAt w' v ⟨i, s, r, op, rd 8 n, q⟩ ∧ Below w.heap.size w w' := by
  have HP := Lib.hid (parse_ok n hn hok)
  have HK1 := Lib.hid (clone_any s (by have := hsm.1; simp only at this; omega))
  have HK2 := Lib.hid (clone_any r (by have := hsm.2.1; simp only at this; omega))
  have HRT := Lib.hid (fun v W h => right_grant ⟨i, s, r, op, rd 8 n, q⟩ hsm v W h)
  have HLI := Lib.hid (fun v W h => listed_any ⟨i, s, r, op, rd 8 n, q⟩ hsm (by simp only [Gr.right, Bool.and_eq_true] at hrt; exact hrt.2) v W h)
  have HRP : Hid (rightP (rd 8 n) = true) := Lib.hid (by simp only [Gr.right, Bool.and_eq_true] at hrt; exact hrt.2)
  rw [ht] at HLI
  rw [hrt] at HRT
  clear hsm hrt ht hok hn
  simp only [listV] at hbl HLI
  have hblt := (Array.getElem?_eq_some_iff.1 hbl).1
  have hk := fun j => (cellOld ((Below.refl w.heap.size w).alloc (Nat.le_refl _) (.cells #[.int .i64 0, .string { data := #[] }, .string { data := #[] }, .int .i64 0, .slice none 0 0, .bool false] 29)) (a := ⟨bl, j, none⟩) (v := #[.iface 3 (.int .i64 i), .iface 9 (.string s), .iface 9 (.string r), .iface 3 (.int .i64 op), .iface 9 (.string n), .iface 4 (.bool q)][j]!) : _)
  have k0 := hk 0 (by rw [cell_of hbl]; rfl)
  have k1 := hk 1 (by rw [cell_of hbl]; rfl)
  have k2 := hk 2 (by rw [cell_of hbl]; rfl)
  have k3 := hk 3 (by rw [cell_of hbl]; rfl)
  have k4 := hk 4 (by rw [cell_of hbl]; rfl)
  have k5 := hk 5 (by rw [cell_of hbl]; rfl)
  simp only [show ∀ (a b c d e f : Value), #[a, b, c, d, e, f][0]! = a from fun _ _ _ _ _ _ => rfl, show ∀ (a b c d e f : Value), #[a, b, c, d, e, f][1]! = b from fun _ _ _ _ _ _ => rfl, show ∀ (a b c d e f : Value), #[a, b, c, d, e, f][2]! = c from fun _ _ _ _ _ _ => rfl, show ∀ (a b c d e f : Value), #[a, b, c, d, e, f][3]! = d from fun _ _ _ _ _ _ => rfl, show ∀ (a b c d e f : Value), #[a, b, c, d, e, f][4]! = e from fun _ _ _ _ _ _ => rfl, show ∀ (a b c d e f : Value), #[a, b, c, d, e, f][5]! = f from fun _ _ _ _ _ _ => rfl] at k0 k1 k2 k3 k4 k5
  clear hk hbl hblt
  have hsa : ∀ W, (Instr.arrayAt 54 (.slice (some ⟨bl, 0, none⟩) 6 6)).run Try.prog W = .ok (.pointer (some ⟨bl, 0, none⟩)) W := fun W => by kernel_rfl
  obtain ⟨ANS, hA⟩ : ∃ A : Ending → World → Prop, (fun e w' => ∃ v, e = .returned (.tuple #[v, .bool true]) ∧ GrAt w' v ⟨i, s, r, op, rd 8 n, q⟩ ∧ Below w.heap.size w w') = A := ⟨_, rfl⟩
  have HA : Hid (∀ v w', GrAt w' v ⟨i, s, r, op, rd 8 n, q⟩ → Below w.heap.size w w' → ANS (.returned (.tuple #[v, .bool true])) w') := Lib.hid (fun v w' h1 h2 => by
    rw [← hA]; exact ⟨v, rfl, h1, h2⟩)
  rw [hA]
  clear hA
  go_enter Try.func30, Try.ntmps30
  go_wp2
  obtain ⟨w5, hw5⟩ : ∃ w5, (w.alloc (.cells #[.int .i64 0, .string { data := #[] }, .string { data := #[] }, .int .i64 0, .slice none 0 0, .bool false] 29)).alloc (.cells #[.iface 3 (.int .i64 i), .iface 9 (.string s), .iface 9 (.string r), .iface 3 (.int .i64 op), .iface 9 (.string n), .iface 4 (.bool q)] 54) = w5 := ⟨_, rfl⟩
  rw [hw5]
  have hB5 : Below w.heap.size w w5 := by rw [← hw5]; exact ((Below.refl w.heap.size w).alloc (Nat.le_refl _) _).alloc (by simp) _
  have HS5 : Hid (w5.heap.size = w.heap.size + 2) := Lib.hid (by rw [← hw5]; simp)
  have HR5 : Hid (w5.heap[w.heap.size]? = some (.cells #[.int .i64 0, .string { data := #[] }, .string { data := #[] }, .int .i64 0, .slice none 0 0, .bool false] 29 (0, 0))) := Lib.hid (by rw [← hw5, ((Below.refl (w.alloc (.cells #[.int .i64 0, .string { data := #[] }, .string { data := #[] }, .int .i64 0, .slice none 0 0, .bool false] 29)).heap.size _).alloc (Nat.le_refl _) _).block w.heap.size (by simp)]; exact heap_alloc_new w _)
  have HL5 : Hid (w5.heap[w.heap.size + 1]? = some (.cells #[.iface 3 (.int .i64 i), .iface 9 (.string s), .iface 9 (.string r), .iface 3 (.int .i64 op), .iface 9 (.string n), .iface 4 (.bool q)] 54 (0, 0))) := Lib.hid (by
    have := heap_alloc_new (w.alloc (.cells #[.int .i64 0, .string { data := #[] }, .string { data := #[] }, .int .i64 0, .slice none 0 0, .bool false] 29)) (.cells #[.iface 3 (.int .i64 i), .iface 9 (.string s), .iface 9 (.string r), .iface 3 (.int .i64 op), .iface 9 (.string n), .iface 4 (.bool q)] 54)
    rw [hw5, World.size_alloc] at this
    exact this)
  replace hB5 := Lib.hid hB5
  clear hw5 k0 k1 k2 k3 k4 k5 hsa
  have HLD : Hid (∀ W, Below w5.heap.size w5 W → (Instr.loadAt 54 (.pointer (some ⟨w.heap.size + 1, 0, none⟩))).run Try.prog W = .ok (.agg #[.iface 3 (.int .i64 i), .iface 9 (.string s), .iface 9 (.string r), .iface 3 (.int .i64 op), .iface 9 (.string n), .iface 4 (.bool q)]) W) := Lib.hid (fun W h => (ld_cells (P := Try.prog) (T := 54) W [.iface 3 (.int .i64 i), .iface 9 (.string s), .iface 9 (.string r), .iface 3 (.int .i64 op), .iface 9 (.string n), .iface 4 (.bool q)] (by kernel_rfl) (by kernel_rfl) ((h.block _ (by rw [HS5.out]; omega)).trans HL5.out)).1)
  refine wp_region_fine_drop 9 (TL [eqv (.agg #[.iface 3 (.int .i64 i), .iface 9 (.string s), .iface 9 (.string r), .iface 3 (.int .i64 op), .iface 9 (.string n), .iface 4 (.bool q)]), eqv (intT i op s r n q), eqv (.agg #[.iface 3 (.int .i64 i), .iface 9 (.string s), .iface 9 (.string r), .iface 3 (.int .i64 op), .iface 9 (.string n), .iface 4 (.bool q)]), eqv (strT i op s r n q), eqv (.agg #[.iface 3 (.int .i64 i), .iface 9 (.string s), .iface 9 (.string r), .iface 3 (.int .i64 op), .iface 9 (.string n), .iface 4 (.bool q)]), eqv (boolT i op s r n q), newP w5.heap.size 65 #[.int .i64 0, .bool false, .int .i64 0, .bool false, .int .i64 0, .bool false, .int .i64 0, .bool false, .int .i64 0, .bool false, .int .i64 0, .bool false], newP w5.heap.size 69 #[.string { data := #[] }, .bool false, .string { data := #[] }, .bool false, .string { data := #[] }, .bool false, .string { data := #[] }, .bool false, .string { data := #[] }, .bool false, .string { data := #[] }, .bool false], newP w5.heap.size 73 #[.bool false, .bool false, .bool false, .bool false, .bool false, .bool false, .bool false, .bool false, .bool false, .bool false, .bool false, .bool false]]) (by kernel_rfl) (by kernel_rfl) (by kernel_rfl) (by kernel_rfl) (TL_last (List.forall_mem_cons.2 ⟨eqv_last _, List.forall_mem_cons.2 ⟨eqv_last _, List.forall_mem_cons.2 ⟨eqv_last _, List.forall_mem_cons.2 ⟨eqv_last _, List.forall_mem_cons.2 ⟨eqv_last _, List.forall_mem_cons.2 ⟨eqv_last _, List.forall_mem_cons.2 ⟨newP_last, List.forall_mem_cons.2 ⟨newP_last, List.forall_mem_cons.2 ⟨newP_last, fun _ h => (List.not_mem_nil h).elim⟩⟩⟩⟩⟩⟩⟩⟩⟩)) (TL_no_guard (by kernel_rfl)) ?_ ?_
  · intro ix o ho a W hB hdep hfix
    simp only [List.take_succ_cons, List.take_zero] at ho hdep hfix
    match ix, ho with
    | 0, ho =>
      simp only [List.getElem?_cons_zero, Option.some.injEq] at ho; subst ho
      have e1 := hfix 6 (by decide +kernel)
      exact lays_eq _ rfl (exec_load (by rw [eval_tmp, e1]; rfl) (HLD.out W hB))
    | 1, ho =>
      simp only [List.getElem?_cons_zero, List.getElem?_cons_succ, Option.some.injEq] at ho; subst ho
      have e1 : a.tmps.getD 30 undef = .agg #[.iface 3 (.int .i64 i), .iface 9 (.string s), .iface 9 (.string r), .iface 3 (.int .i64 op), .iface 9 (.string n), .iface 4 (.bool q)] := hdep 0 _ 30 rfl rfl (by decide +kernel)
      refine lays_call #[.agg #[.iface 3 (.int .i64 i), .iface 9 (.string s), .iface 9 (.string r), .iface 3 (.int .i64 op), .iface 9 (.string n), .iface 4 (.bool q)]] (by simp [Act.eval, e1]) (by kernel_rfl) ((told_int i op s r n q W).mono ?_)
      rintro e W' ⟨rfl, hB'⟩
      exact ⟨_, rfl, hB', rfl⟩
    | 2, ho =>
      simp only [List.getElem?_cons_zero, List.getElem?_cons_succ, Option.some.injEq] at ho; subst ho
      have e1 := hfix 6 (by decide +kernel)
      exact lays_eq _ rfl (exec_load (by rw [eval_tmp, e1]; rfl) (HLD.out W hB))
    | 3, ho =>
      simp only [List.getElem?_cons_zero, List.getElem?_cons_succ, Option.some.injEq] at ho; subst ho
      have e1 : a.tmps.getD 32 undef = .agg #[.iface 3 (.int .i64 i), .iface 9 (.string s), .iface 9 (.string r), .iface 3 (.int .i64 op), .iface 9 (.string n), .iface 4 (.bool q)] := hdep 2 _ 32 rfl rfl (by decide +kernel)
      refine lays_call #[.agg #[.iface 3 (.int .i64 i), .iface 9 (.string s), .iface 9 (.string r), .iface 3 (.int .i64 op), .iface 9 (.string n), .iface 4 (.bool q)]] (by simp [Act.eval, e1]) (by kernel_rfl) ((told_str i op s r n q W).mono ?_)
      rintro e W' ⟨rfl, hB'⟩
      exact ⟨_, rfl, hB', rfl⟩
    | 4, ho =>
      simp only [List.getElem?_cons_zero, List.getElem?_cons_succ, Option.some.injEq] at ho; subst ho
      have e1 := hfix 6 (by decide +kernel)
      exact lays_eq _ rfl (exec_load (by rw [eval_tmp, e1]; rfl) (HLD.out W hB))
    | 5, ho =>
      simp only [List.getElem?_cons_zero, List.getElem?_cons_succ, Option.some.injEq] at ho; subst ho
      have e1 : a.tmps.getD 34 undef = .agg #[.iface 3 (.int .i64 i), .iface 9 (.string s), .iface 9 (.string r), .iface 3 (.int .i64 op), .iface 9 (.string n), .iface 4 (.bool q)] := hdep 4 _ 34 rfl rfl (by decide +kernel)
      refine lays_call #[.agg #[.iface 3 (.int .i64 i), .iface 9 (.string s), .iface 9 (.string r), .iface 3 (.int .i64 op), .iface 9 (.string n), .iface 4 (.bool q)]] (by simp [Act.eval, e1]) (by kernel_rfl) ((told_bool i op s r n q W).mono ?_)
      rintro e W' ⟨rfl, hB'⟩
      exact ⟨_, rfl, hB', rfl⟩
    | 6, ho =>
      simp only [List.getElem?_cons_zero, List.getElem?_cons_succ, Option.some.injEq] at ho; subst ho
      exact lays_new (B := w5.heap.size) hB.size (by simp [execOp, go_sem]) (fun _ _ h => h)
    | 7, ho =>
      simp only [List.getElem?_cons_zero, List.getElem?_cons_succ, Option.some.injEq] at ho; subst ho
      exact lays_new (B := w5.heap.size) hB.size (by simp [execOp, go_sem]) (fun _ _ h => h)
    | 8, ho =>
      simp only [List.getElem?_cons_zero, List.getElem?_cons_succ, Option.some.injEq] at ho; subst ho
      exact lays_new (B := w5.heap.size) hB.size (by simp [execOp, go_sem]) (fun _ _ h => h)
    | ix + 9, ho => simp at ho
  · intro a W hB hd hsz hfix hT
    simp only [List.take_succ_cons, List.take_zero, List.drop_succ_cons, List.drop_zero] at hfix hT ⊢
    have f2 : a.tmps.getD 2 undef = .pointer (some ⟨w.heap.size, 0, none⟩) := hfix 2 (by decide +kernel)
    have f3 : a.tmps.getD 3 undef = .bool false := hfix 3 (by decide +kernel)
    have f31 : a.tmps.getD 31 undef = intT i op s r n q := hT 1 _ 31 rfl rfl
    have f33 : a.tmps.getD 33 undef = strT i op s r n q := hT 3 _ 33 rfl rfl
    have f35 : a.tmps.getD 35 undef = boolT i op s r n q := hT 5 _ 35 rfl rfl
    have g7 : newP w5.heap.size 65 #[.int .i64 0, .bool false, .int .i64 0, .bool false, .int .i64 0, .bool false, .int .i64 0, .bool false, .int .i64 0, .bool false, .int .i64 0, .bool false] (a.tmps.getD 7 undef) W := hT 6 _ 7 rfl rfl
    have g8 : newP w5.heap.size 69 #[.string { data := #[] }, .bool false, .string { data := #[] }, .bool false, .string { data := #[] }, .bool false, .string { data := #[] }, .bool false, .string { data := #[] }, .bool false, .string { data := #[] }, .bool false] (a.tmps.getD 8 undef) W := hT 7 _ 8 rfl rfl
    have g9 : newP w5.heap.size 73 #[.bool false, .bool false, .bool false, .bool false, .bool false, .bool false, .bool false, .bool false, .bool false, .bool false, .bool false, .bool false] (a.tmps.getD 9 undef) W := hT 8 _ 9 rfl rfl
    rw [frame_lit a 89 hsz hd]
    clear hfix hT hsz hd
    simp only [List.range, List.range.loop, List.map]
    generalize a.tmps = t at *
    simp only [f2, f3, f31, f33, f35]
    clear f2 f3 f31 f33 f35
    obtain ⟨b7, hb7, e7, hz7⟩ := g7
    obtain ⟨b8, hb8, e8, hz8⟩ := g8
    obtain ⟨b9, hb9, e9, hz9⟩ := g9
    simp only [e7, e8, e9]
    clear e7 e8 e9
    unfold intT strT boolT
    have i65 := Lib.hid (show (Try.prog.info? 65).map (·.size) = some (#[.int .i64 i, .bool true, .int .i64 0, .bool false, .int .i64 0, .bool false, .int .i64 op, .bool true, .int .i64 0, .bool false, .int .i64 0, .bool false] : Array Value).size by kernel_rfl)
    have i69 := Lib.hid (show (Try.prog.info? 69).map (·.size) = some (#[.string { data := #[] }, .bool false, .string s, .bool true, .string r, .bool true, .string { data := #[] }, .bool false, .string n, .bool true, .string { data := #[] }, .bool false] : Array Value).size by kernel_rfl)
    have i73 := Lib.hid (show (Try.prog.info? 73).map (·.size) = some (#[.bool false, .bool false, .bool false, .bool false, .bool false, .bool false, .bool false, .bool false, .bool false, .bool false, .bool q, .bool true] : Array Value).size by kernel_rfl)
    have s65 := Lib.hid (show (#[.int .i64 0, .bool false, .int .i64 0, .bool false, .int .i64 0, .bool false, .int .i64 0, .bool false, .int .i64 0, .bool false, .int .i64 0, .bool false] : Array Value).size = (#[.int .i64 i, .bool true, .int .i64 0, .bool false, .int .i64 0, .bool false, .int .i64 op, .bool true, .int .i64 0, .bool false, .int .i64 0, .bool false] : Array Value).size from rfl)
    have s69 := Lib.hid (show (#[.string { data := #[] }, .bool false, .string { data := #[] }, .bool false, .string { data := #[] }, .bool false, .string { data := #[] }, .bool false, .string { data := #[] }, .bool false, .string { data := #[] }, .bool false] : Array Value).size = (#[.string { data := #[] }, .bool false, .string s, .bool true, .string r, .bool true, .string { data := #[] }, .bool false, .string n, .bool true, .string { data := #[] }, .bool false] : Array Value).size from rfl)
    have s73 := Lib.hid (show (#[.bool false, .bool false, .bool false, .bool false, .bool false, .bool false, .bool false, .bool false, .bool false, .bool false, .bool false, .bool false] : Array Value).size = (#[.bool false, .bool false, .bool false, .bool false, .bool false, .bool false, .bool false, .bool false, .bool false, .bool false, .bool q, .bool true] : Array Value).size from rfl)
    have o65 := Lib.hid (show (#[.int .i64 i, .bool true, .int .i64 0, .bool false, .int .i64 0, .bool false, .int .i64 op, .bool true, .int .i64 0, .bool false, .int .i64 0, .bool false] : Array Value).all (·.oneCell') = true by simp [Value.oneCell'])
    have o69 := Lib.hid (show (#[.string { data := #[] }, .bool false, .string s, .bool true, .string r, .bool true, .string { data := #[] }, .bool false, .string n, .bool true, .string { data := #[] }, .bool false] : Array Value).all (·.oneCell') = true by simp [Value.oneCell'])
    have o73 := Lib.hid (show (#[.bool false, .bool false, .bool false, .bool false, .bool false, .bool false, .bool false, .bool false, .bool false, .bool false, .bool q, .bool true] : Array Value).all (·.oneCell') = true by simp [Value.oneCell'])
    have n78 := Lib.hid (other_block hz7 hz8 (by decide))
    have n79 := Lib.hid (other_block hz7 hz9 (by decide))
    have n89 := Lib.hid (other_block hz8 hz9 (by decide))
    replace hz7 := Lib.hid hz7
    replace hz8 := Lib.hid hz8
    replace hz9 := Lib.hid hz9
    replace hb7 := Lib.hid hb7
    replace hb8 := Lib.hid hb8
    replace hb9 := Lib.hid hb9
    go_wp2_with (with_reducible refine wpList_put 65 b7 _ _ rfl rfl hz7.out i65.out s65.out o65.out ?_)
    intro W1 hz hg
    replace hB := below_put hB hg hB.size hb7.out
    replace hz7 := Lib.hid hz
    replace hz8 := Lib.hid (grown_at hg hz8.out n78.out.symm)
    replace hz9 := Lib.hid (grown_at hg hz9.out n79.out.symm)
    clear hz hg
    go_wp2_with (with_reducible refine wpList_put 69 b8 _ _ rfl rfl hz8.out i69.out s69.out o69.out ?_)
    intro W2 hz hg
    replace hB := below_put hB hg hB.size hb8.out
    replace hz7 := Lib.hid (grown_at hg hz7.out n78.out)
    replace hz8 := Lib.hid hz
    replace hz9 := Lib.hid (grown_at hg hz9.out n89.out.symm)
    clear hz hg
    go_wp2_with (with_reducible refine wpList_put 73 b9 _ _ rfl rfl hz9.out i73.out s73.out o73.out ?_)
    intro W3 hz hg
    replace hB := below_put hB hg hB.size hb9.out
    replace hz7 := Lib.hid (grown_at hg hz7.out n79.out)
    replace hz8 := Lib.hid (grown_at hg hz8.out n89.out)
    replace hz9 := Lib.hid hz
    clear hz hg i65 i69 i73 s65 s69 s73 o65 o69 o73
    have hc8 : W3.cell? ⟨b8, 8, none⟩ = some (.string n) := by rw [cell_of hz8.out]; rfl
    replace hB := Lib.hid hB
    go_wp2_with fail
    refine (HP.out W3).mono ?_
    rintro e W4 ⟨v4, rfl, hv4, hB4⟩
    obtain ⟨p4, cp4, e4, _⟩ := id hv4
    subst e4
    obtain ⟨m4, hm4⟩ : ∃ m, (rd 8 n).length = m := ⟨_, rfl⟩
    simp only [hm4] at hv4 ⊢
    have HV4 := Lib.hid hv4
    replace hz7 := Lib.hid ((hB4.block b7 (Array.getElem?_eq_some_iff.1 hz7.out).1).trans hz7.out)
    replace hz8 := Lib.hid ((hB4.block b8 (Array.getElem?_eq_some_iff.1 hz8.out).1).trans hz8.out)
    replace hz9 := Lib.hid ((hB4.block b9 (Array.getElem?_eq_some_iff.1 hz9.out).1).trans hz9.out)
    replace hB := Lib.hid (hB.out.trans (hB4.mono hB.out.size))
    have HM4 := Lib.hid hm4
    have HB4s : Hid (w5.heap.size ≤ W4.heap.size) := Lib.hid hB.out.size
    clear hv4 hB4 hm4 hc8
    have HC7 : Hid (∀ W, Below W4.heap.size W4 W → ∀ j, W.cell? ⟨b7, j, none⟩ = (#[.int .i64 i, .bool true, .int .i64 0, .bool false, .int .i64 0, .bool false, .int .i64 op, .bool true, .int .i64 0, .bool false, .int .i64 0, .bool false] : Array Value)[j]?) := Lib.hid (fun W h j => cell_of ((h.block b7 (Array.getElem?_eq_some_iff.1 hz7.out).1).trans hz7.out) j)
    have HC8 : Hid (∀ W, Below W4.heap.size W4 W → ∀ j, W.cell? ⟨b8, j, none⟩ = (#[.string { data := #[] }, .bool false, .string s, .bool true, .string r, .bool true, .string { data := #[] }, .bool false, .string n, .bool true, .string { data := #[] }, .bool false] : Array Value)[j]?) := Lib.hid (fun W h j => cell_of ((h.block b8 (Array.getElem?_eq_some_iff.1 hz8.out).1).trans hz8.out) j)
    have HC9 : Hid (∀ W, Below W4.heap.size W4 W → ∀ j, W.cell? ⟨b9, j, none⟩ = (#[.bool false, .bool false, .bool false, .bool false, .bool false, .bool false, .bool false, .bool false, .bool false, .bool false, .bool q, .bool true] : Array Value)[j]?) := Lib.hid (fun W h j => cell_of ((h.block b9 (Array.getElem?_eq_some_iff.1 hz9.out).1).trans hz9.out) j)
    go_wp2
    refine wp_region_fine_drop 20 (TL [eqv (.pointer (some ⟨b7, 0, none⟩)), eqv (.pointer (some ⟨b7, 0, none⟩)), eqv (.int .i64 i), eqv (.pointer (some ⟨b8, 2, none⟩)), eqv (.pointer (some ⟨b8, 2, none⟩)), eqv (.string s), eqv (.string s), eqv (.pointer (some ⟨b8, 4, none⟩)), eqv (.pointer (some ⟨b8, 4, none⟩)), eqv (.string r), eqv (.string r), eqv (.pointer (some ⟨b7, 6, none⟩)), eqv (.pointer (some ⟨b7, 6, none⟩)), eqv (.int .i64 op), eqv (.slice p4 m4 cp4), eqv (.pointer (some ⟨b9, 10, none⟩)), eqv (.pointer (some ⟨b9, 10, none⟩)), eqv (.bool q), eqv (.agg #[.int .i64 i, .string s, .string r, .int .i64 op, .slice p4 m4 cp4, .bool q]), newP W4.heap.size 29 #[.int .i64 0, .string { data := #[] }, .string { data := #[] }, .int .i64 0, .slice none 0 0, .bool false]]) (by kernel_rfl) (by kernel_rfl) (by kernel_rfl) (by kernel_rfl) (TL_last (List.forall_mem_cons.2 ⟨eqv_last _, List.forall_mem_cons.2 ⟨eqv_last _, List.forall_mem_cons.2 ⟨eqv_last _, List.forall_mem_cons.2 ⟨eqv_last _, List.forall_mem_cons.2 ⟨eqv_last _, List.forall_mem_cons.2 ⟨eqv_last _, List.forall_mem_cons.2 ⟨eqv_last _, List.forall_mem_cons.2 ⟨eqv_last _, List.forall_mem_cons.2 ⟨eqv_last _, List.forall_mem_cons.2 ⟨eqv_last _, List.forall_mem_cons.2 ⟨eqv_last _, List.forall_mem_cons.2 ⟨eqv_last _, List.forall_mem_cons.2 ⟨eqv_last _, List.forall_mem_cons.2 ⟨eqv_last _, List.forall_mem_cons.2 ⟨eqv_last _, List.forall_mem_cons.2 ⟨eqv_last _, List.forall_mem_cons.2 ⟨eqv_last _, List.forall_mem_cons.2 ⟨eqv_last _, List.forall_mem_cons.2 ⟨eqv_last _, List.forall_mem_cons.2 ⟨newP_last, fun _ h => (List.not_mem_nil h).elim⟩⟩⟩⟩⟩⟩⟩⟩⟩⟩⟩⟩⟩⟩⟩⟩⟩⟩⟩⟩)) (TL_no_guard (by kernel_rfl)) ?_ ?_
    · intro ix o ho a W hB hdep hfix
      simp only [List.take_succ_cons, List.take_zero] at ho hdep hfix
      match ix, ho with
      | 0, ho =>
        simp only [List.getElem?_cons_zero, Option.some.injEq] at ho; subst ho
        have e1 := hfix 7 (by decide +kernel)
        exact lays_eq _ rfl (by simp [execOp, Act.eval, e1, go_sem])
      | 1, ho =>
        simp only [List.getElem?_cons_zero, List.getElem?_cons_succ, Option.some.injEq] at ho; subst ho
        have e1 : a.tmps.getD 43 undef = .pointer (some ⟨b7, 0, none⟩) := hdep 0 _ 43 rfl rfl (by decide +kernel)
        exact lays_eq _ rfl (by simp [execOp, Act.eval, e1, go_sem])
      | 2, ho =>
        simp only [List.getElem?_cons_zero, List.getElem?_cons_succ, Option.some.injEq] at ho; subst ho
        have e1 : a.tmps.getD 44 undef = .pointer (some ⟨b7, 0, none⟩) := hdep 1 _ 44 rfl rfl (by decide +kernel)
        have hcell := HC7.out W hB 0
        simp only [List.getElem?_toArray, List.getElem?_cons_zero] at hcell
        exact lays_eq _ rfl (by simp [execOp, Act.eval, e1, go_sem, hcell])
      | 3, ho =>
        simp only [List.getElem?_cons_zero, List.getElem?_cons_succ, Option.some.injEq] at ho; subst ho
        have e1 := hfix 8 (by decide +kernel)
        exact lays_eq _ rfl (by simp [execOp, Act.eval, e1, go_sem])
      | 4, ho =>
        simp only [List.getElem?_cons_zero, List.getElem?_cons_succ, Option.some.injEq] at ho; subst ho
        have e1 : a.tmps.getD 46 undef = .pointer (some ⟨b8, 2, none⟩) := hdep 3 _ 46 rfl rfl (by decide +kernel)
        exact lays_eq _ rfl (by simp [execOp, Act.eval, e1, go_sem])
      | 5, ho =>
        simp only [List.getElem?_cons_zero, List.getElem?_cons_succ, Option.some.injEq] at ho; subst ho
        have e1 : a.tmps.getD 47 undef = .pointer (some ⟨b8, 2, none⟩) := hdep 4 _ 47 rfl rfl (by decide +kernel)
        have hcell := HC8.out W hB 2
        simp only [List.getElem?_toArray, List.getElem?_cons_zero, List.getElem?_cons_succ] at hcell
        exact lays_eq _ rfl (by simp [execOp, Act.eval, e1, go_sem, hcell])
      | 6, ho =>
        simp only [List.getElem?_cons_zero, List.getElem?_cons_succ, Option.some.injEq] at ho; subst ho
        have e1 : a.tmps.getD 48 undef = .string s := hdep 5 _ 48 rfl rfl (by decide +kernel)
        refine lays_call #[.string s] (by simp [Act.eval, e1]) (by kernel_rfl) ((HK1.out W).mono ?_)
        rintro e W' ⟨rfl, hB'⟩
        exact ⟨_, rfl, hB', rfl⟩
      | 7, ho =>
        simp only [List.getElem?_cons_zero, List.getElem?_cons_succ, Option.some.injEq] at ho; subst ho
        have e1 := hfix 8 (by decide +kernel)
        exact lays_eq _ rfl (by simp [execOp, Act.eval, e1, go_sem])
      | 8, ho =>
        simp only [List.getElem?_cons_zero, List.getElem?_cons_succ, Option.some.injEq] at ho; subst ho
        have e1 : a.tmps.getD 50 undef = .pointer (some ⟨b8, 4, none⟩) := hdep 7 _ 50 rfl rfl (by decide +kernel)
        exact lays_eq _ rfl (by simp [execOp, Act.eval, e1, go_sem])
      | 9, ho =>
        simp only [List.getElem?_cons_zero, List.getElem?_cons_succ, Option.some.injEq] at ho; subst ho
        have e1 : a.tmps.getD 51 undef = .pointer (some ⟨b8, 4, none⟩) := hdep 8 _ 51 rfl rfl (by decide +kernel)
        have hcell := HC8.out W hB 4
        simp only [List.getElem?_toArray, List.getElem?_cons_zero, List.getElem?_cons_succ] at hcell
        exact lays_eq _ rfl (by simp [execOp, Act.eval, e1, go_sem, hcell])
      | 10, ho =>
        simp only [List.getElem?_cons_zero, List.getElem?_cons_succ, Option.some.injEq] at ho; subst ho
        have e1 : a.tmps.getD 52 undef = .string r := hdep 9 _ 52 rfl rfl (by decide +kernel)
        refine lays_call #[.string r] (by simp [Act.eval, e1]) (by kernel_rfl) ((HK2.out W).mono ?_)
        rintro e W' ⟨rfl, hB'⟩
        exact ⟨_, rfl, hB', rfl⟩
      | 11, ho =>
        simp only [List.getElem?_cons_zero, List.getElem?_cons_succ, Option.some.injEq] at ho; subst ho
        have e1 := hfix 7 (by decide +kernel)
        exact lays_eq _ rfl (by simp [execOp, Act.eval, e1, go_sem])
      | 12, ho =>
        simp only [List.getElem?_cons_zero, List.getElem?_cons_succ, Option.some.injEq] at ho; subst ho
        have e1 : a.tmps.getD 54 undef = .pointer (some ⟨b7, 6, none⟩) := hdep 11 _ 54 rfl rfl (by decide +kernel)
        exact lays_eq _ rfl (by simp [execOp, Act.eval, e1, go_sem])
      | 13, ho =>
        simp only [List.getElem?_cons_zero, List.getElem?_cons_succ, Option.some.injEq] at ho; subst ho
        have e1 : a.tmps.getD 55 undef = .pointer (some ⟨b7, 6, none⟩) := hdep 12 _ 55 rfl rfl (by decide +kernel)
        have hcell := HC7.out W hB 6
        simp only [List.getElem?_toArray, List.getElem?_cons_zero, List.getElem?_cons_succ] at hcell
        exact lays_eq _ rfl (by simp [execOp, Act.eval, e1, go_sem, hcell])
      | 14, ho =>
        simp only [List.getElem?_cons_zero, List.getElem?_cons_succ, Option.some.injEq] at ho; subst ho
        have e1 := hfix 10 (by decide +kernel)
        exact lays_eq _ rfl (exec_move (by rw [eval_tmp, e1]; rfl))
      | 15, ho =>
        simp only [List.getElem?_cons_zero, List.getElem?_cons_succ, Option.some.injEq] at ho; subst ho
        have e1 := hfix 9 (by decide +kernel)
        exact lays_eq _ rfl (by simp [execOp, Act.eval, e1, go_sem])
      | 16, ho =>
        simp only [List.getElem?_cons_zero, List.getElem?_cons_succ, Option.some.injEq] at ho; subst ho
        have e1 : a.tmps.getD 58 undef = .pointer (some ⟨b9, 10, none⟩) := hdep 15 _ 58 rfl rfl (by decide +kernel)
        exact lays_eq _ rfl (by simp [execOp, Act.eval, e1, go_sem])
      | 17, ho =>
        simp only [List.getElem?_cons_zero, List.getElem?_cons_succ, Option.some.injEq] at ho; subst ho
        have e1 : a.tmps.getD 59 undef = .pointer (some ⟨b9, 10, none⟩) := hdep 16 _ 59 rfl rfl (by decide +kernel)
        have hcell := HC9.out W hB 10
        simp only [List.getElem?_toArray, List.getElem?_cons_zero, List.getElem?_cons_succ] at hcell
        exact lays_eq _ rfl (by simp [execOp, Act.eval, e1, go_sem, hcell])
      | 18, ho =>
        simp only [List.getElem?_cons_zero, List.getElem?_cons_succ, Option.some.injEq] at ho; subst ho
        have e1 : a.tmps.getD 45 undef = .int .i64 i := hdep 2 _ 45 rfl rfl (by decide +kernel)
        have e2 : a.tmps.getD 49 undef = .string s := hdep 6 _ 49 rfl rfl (by decide +kernel)
        have e3 : a.tmps.getD 53 undef = .string r := hdep 10 _ 53 rfl rfl (by decide +kernel)
        have e4 : a.tmps.getD 56 undef = .int .i64 op := hdep 13 _ 56 rfl rfl (by decide +kernel)
        have e5 : a.tmps.getD 57 undef = .slice p4 m4 cp4 := hdep 14 _ 57 rfl rfl (by decide +kernel)
        have e6 : a.tmps.getD 60 undef = .bool q := hdep 17 _ 60 rfl rfl (by decide +kernel)
        exact lays_eq _ rfl (exec_b29 (by rw [eval_tmp, e1]) (by rw [eval_tmp, e2]) (by rw [eval_tmp, e3]) (by rw [eval_tmp, e4]) (by rw [eval_tmp, e5]) (by rw [eval_tmp, e6]))
      | 19, ho =>
        simp only [List.getElem?_cons_zero, List.getElem?_cons_succ, Option.some.injEq] at ho; subst ho
        exact lays_new (B := W4.heap.size) hB.size (by simp [execOp, go_sem]) (fun _ _ h => h)
      | ix + 20, ho => simp at ho
    · intro a W hBW hd hsz hfix hT
      simp only [List.take_succ_cons, List.take_zero, List.drop_succ_cons, List.drop_zero] at hfix hT ⊢
      have f2 : a.tmps.getD 2 undef = .pointer (some ⟨w.heap.size, 0, none⟩) := hfix 2 (by decide +kernel)
      have f3 : a.tmps.getD 3 undef = .bool false := hfix 3 (by decide +kernel)
      have f7 : a.tmps.getD 7 undef = .pointer (some ⟨b7, 0, none⟩) := hfix 7 (by decide +kernel)
      have f8 : a.tmps.getD 8 undef = .pointer (some ⟨b8, 0, none⟩) := hfix 8 (by decide +kernel)
      have f9 : a.tmps.getD 9 undef = .pointer (some ⟨b9, 0, none⟩) := hfix 9 (by decide +kernel)
      have f11 : a.tmps.getD 11 undef = .int .i64 0 := hfix 11 (by decide +kernel)
      have f61 : a.tmps.getD 61 undef = .agg #[.int .i64 i, .string s, .string r, .int .i64 op, .slice p4 m4 cp4, .bool q] := hT 18 _ 61 rfl rfl
      have g12 : newP W4.heap.size 29 #[.int .i64 0, .string { data := #[] }, .string { data := #[] }, .int .i64 0, .slice none 0 0, .bool false] (a.tmps.getD 12 undef) W := hT 19 _ 12 rfl rfl
      rw [frame_lit a 89 hsz hd]
      clear hfix hT hsz hd
      simp only [List.range, List.range.loop, List.map]
      generalize a.tmps = t at *
      simp only [f2, f3, f7, f8, f9, f11, f61]
      clear f2 f3 f7 f8 f9 f11 f61
      obtain ⟨b12, hb12, e12, hz12⟩ := g12
      simp only [e12]
      clear e12
      have i29 := Lib.hid (show (Try.prog.info? 29).map (·.size) = some (#[.int .i64 i, .string s, .string r, .int .i64 op, .slice p4 m4 cp4, .bool q] : Array Value).size by kernel_rfl)
      have s29 := Lib.hid (show (#[.int .i64 0, .string { data := #[] }, .string { data := #[] }, .int .i64 0, .slice none 0 0, .bool false] : Array Value).size = (#[.int .i64 i, .string s, .string r, .int .i64 op, .slice p4 m4 cp4, .bool q] : Array Value).size from rfl)
      have o29 := Lib.hid (show (#[.int .i64 i, .string s, .string r, .int .i64 op, .slice p4 m4 cp4, .bool q] : Array Value).all (·.oneCell') = true by simp [Value.oneCell'])
      replace hz12 := Lib.hid hz12
      replace hb12 := Lib.hid hb12
      go_wp2_with (with_reducible refine wpList_put 29 b12 _ _ rfl rfl hz12.out i29.out s29.out o29.out ?_)
      intro W5 hz hg
      replace hBW := Lib.hid (below_put hBW hg hBW.size hb12.out)
      replace hz12 := Lib.hid hz
      clear hz hg
      have HGA : Hid (∀ W, Below W5.heap.size W5 W → GrAt W (.agg #[.int .i64 i, .string s, .string r, .int .i64 op, .slice p4 m4 cp4, .bool q]) ⟨i, s, r, op, rd 8 n, q⟩) := Lib.hid (fun W h => ⟨p4, cp4, by simp only [grV, HM4.out], by
        have := HV4.out.below (hBW.out.trans (h.mono hBW.out.size))
        simp only [HM4.out]
        exact this⟩)
      have HR := Lib.hid ((hBW.out.block w.heap.size (Nat.lt_of_lt_of_le (by rw [HS5.out]; omega) hB.out.size)).trans ((hB.out.block w.heap.size (by rw [HS5.out]; omega)).trans HR5.out))
      replace hz7 := Lib.hid ((hBW.out.block b7 (Array.getElem?_eq_some_iff.1 hz7.out).1).trans hz7.out)
      replace hz8 := Lib.hid ((hBW.out.block b8 (Array.getElem?_eq_some_iff.1 hz8.out).1).trans hz8.out)
      replace hz9 := Lib.hid ((hBW.out.block b9 (Array.getElem?_eq_some_iff.1 hz9.out).1).trans hz9.out)
      replace HV4 := Lib.hid (HV4.out.below hBW.out)
      replace hB := Lib.hid (hB.out.trans (hBW.out.mono hB.out.size))
      have HR4 : Hid (w.heap.size < W4.heap.size) := Lib.hid (Nat.lt_of_lt_of_le (by rw [HS5.out]; omega) HB4s.out)
      have H12W5 := hz12
      have H12lt : Hid (b12 < W5.heap.size) := Lib.hid (Array.getElem?_eq_some_iff.1 hz12.out).1
      clear HC7 HC8 HC9 hBW
      obtain ⟨t12, ht12⟩ : ∃ f : Nat → Option Value, f = fun j => W5.cell? ⟨b12, j, none⟩ := ⟨_, rfl⟩
      have x0 := cell_of hz12.out 0
      have x1 := cell_of hz12.out 1
      have x2 := cell_of hz12.out 2
      have x3 := cell_of hz12.out 3
      have x4 := cell_of hz12.out 4
      have x5 := cell_of hz12.out 5
      clear t12 ht12
      simp only [List.getElem?_toArray, List.getElem?_cons_zero, List.getElem?_cons_succ] at x0 x1 x2 x3 x4 x5
      go_wp2_with fail
      refine (HRT.out _ _ (HGA.out _ (Below.refl _ _))).mono ?_
      rintro e W6 ⟨rfl, hB6⟩
      clear x0 x1 x2 x3 x4 x5
      replace hz12 := Lib.hid ((hB6.block b12 (Array.getElem?_eq_some_iff.1 hz12.out).1).trans hz12.out)
      have x0 := cell_of hz12.out 0
      have x1 := cell_of hz12.out 1
      have x2 := cell_of hz12.out 2
      have x3 := cell_of hz12.out 3
      have x4 := cell_of hz12.out 4
      have x5 := cell_of hz12.out 5
      simp only [List.getElem?_toArray, List.getElem?_cons_zero, List.getElem?_cons_succ] at x0 x1 x2 x3 x4 x5
      go_wp2_with fail
      refine (HLI.out _ _ (HGA.out _ hB6)).mono ?_
      rintro e W7 ⟨rfl, hB7⟩
      clear x0 x1 x2 x3 x4 x5
      go_wp2
      obtain ⟨w8, hw8⟩ : ∃ w8, W7.alloc (.cells #[.iface 3 (.int .i64 i), .iface 9 (.string s), .iface 9 (.string r), .iface 3 (.int .i64 op), .iface 9 (.string n), .iface 4 (.bool q)] 54) = w8 := ⟨_, rfl⟩
      rw [hw8]
      have hB8 : Below W5.heap.size W5 w8 := by rw [← hw8]; exact (hB6.trans (hB7.mono hB6.size)).alloc (Nat.le_trans hB6.size hB7.size) _
      have HLv : Hid (w8.heap[W7.heap.size]? = some (.cells #[.iface 3 (.int .i64 i), .iface 9 (.string s), .iface 9 (.string r), .iface 3 (.int .i64 op), .iface 9 (.string n), .iface 4 (.bool q)] 54 (0, 0))) := Lib.hid (by rw [← hw8]; exact heap_alloc_new _ _)
      have hR13 : W5.heap.size ≤ W7.heap.size := Nat.le_trans hB6.size hB7.size
      have hRlt : w.heap.size < W5.heap.size := Nat.lt_of_lt_of_le (by rw [HS5.out]; omega) hB.out.size
      have HRl := Lib.hid hRlt
      have hz12' := (hB8.block b12 H12lt.out).trans H12W5.out
      have hz7' := (hB8.block b7 (Array.getElem?_eq_some_iff.1 hz7.out).1).trans hz7.out
      have hz8' := (hB8.block b8 (Array.getElem?_eq_some_iff.1 hz8.out).1).trans hz8.out
      have hz9' := (hB8.block b9 (Array.getElem?_eq_some_iff.1 hz9.out).1).trans hz9.out
      have hR' := (hB8.block w.heap.size hRlt).trans HR.out
      have HV8 := Lib.hid (HV4.out.below hB8)
      have hBw := Lib.hid (hB5.out.trans ((hB.out.trans (hB8.mono hB.out.size)).mono hB5.out.size))
      obtain ⟨WI, hWIe⟩ : ∃ WI : Bool → World → Prop, WI = fun b W => w8.grownBy W (some w.heap.size) ∧ W.heap[w.heap.size]? = some (.cells (if b = true then #[.int .i64 i, .string s, .string r, .int .i64 op, .slice p4 m4 cp4, .bool q] else #[.int .i64 0, .string { data := #[] }, .string { data := #[] }, .int .i64 0, .slice none 0 0, .bool false]) 29 (0, 0)) := ⟨_, rfl⟩
      have hWI1 : ∀ b W, WI b W → w8.grownBy W (some w.heap.size) := fun b W h => by rw [hWIe] at h; exact h.1
      have hWIf : ∀ W, WI false W → W.heap[w.heap.size]? = some (.cells #[.int .i64 0, .string { data := #[] }, .string { data := #[] }, .int .i64 0, .slice none 0 0, .bool false] 29 (0, 0)) := fun W h => by rw [hWIe] at h; exact h.2
      have hWIt : ∀ W, WI true W → W.heap[w.heap.size]? = some (.cells #[.int .i64 i, .string s, .string r, .int .i64 op, .slice p4 m4 cp4, .bool q] 29 (0, 0)) := fun W h => by rw [hWIe] at h; exact h.2
      have hMT : ∀ W, w8.grownBy W (some w.heap.size) → W.heap[w.heap.size]? = some (.cells #[.int .i64 i, .string s, .string r, .int .i64 op, .slice p4 m4 cp4, .bool q] 29 (0, 0)) → WI true W := fun W h1 h2 => by rw [hWIe]; exact ⟨h1, h2⟩
      have hMB : ∀ b W W', WI b W → Below W.heap.size W W' → WI b W' := fun b W W' h hB => by
        rw [hWIe] at h ⊢
        exact ⟨grown_below h.1 hB, (hB.block _ (Array.getElem?_eq_some_iff.1 h.2).1).trans h.2⟩
      have hM0 : WI false { w8 with drawn := w8.drawn + 1 } := by rw [hWIe]; exact ⟨⟨rfl, rfl, rfl, Nat.le_refl _, fun _ _ _ => rfl⟩, hR'⟩
      clear hWIe
      have ne7 : b7 ≠ w.heap.size := fun e => by have := hb7.out; rw [HS5.out] at this; omega
      have ne8 : b8 ≠ w.heap.size := fun e => by have := hb8.out; rw [HS5.out] at this; omega
      have ne9 : b9 ≠ w.heap.size := fun e => by have := hb9.out; rw [HS5.out] at this; omega
      have ne12 : b12 ≠ w.heap.size := fun e => by
        have h1 := hb12.out
        have h2 := HR4.out
        omega
      have ne13 : W7.heap.size ≠ w.heap.size := fun e => by omega
      have H7 : Hid (∀ b W, WI b W → W.heap[b7]? = some (.cells #[.int .i64 i, .bool true, .int .i64 0, .bool false, .int .i64 0, .bool false, .int .i64 op, .bool true, .int .i64 0, .bool false, .int .i64 0, .bool false] 65 (0, 0))) := Lib.hid fun b W h => grown_at (hWI1 b W h) hz7' ne7
      have H8 : Hid (∀ b W, WI b W → W.heap[b8]? = some (.cells #[.string { data := #[] }, .bool false, .string s, .bool true, .string r, .bool true, .string { data := #[] }, .bool false, .string n, .bool true, .string { data := #[] }, .bool false] 69 (0, 0))) := Lib.hid fun b W h => grown_at (hWI1 b W h) hz8' ne8
      have H9 : Hid (∀ b W, WI b W → W.heap[b9]? = some (.cells #[.bool false, .bool false, .bool false, .bool false, .bool false, .bool false, .bool false, .bool false, .bool false, .bool false, .bool q, .bool true] 73 (0, 0))) := Lib.hid fun b W h => grown_at (hWI1 b W h) hz9' ne9
      have H12 : Hid (∀ b W, WI b W → W.heap[b12]? = some (.cells #[.int .i64 i, .string s, .string r, .int .i64 op, .slice p4 m4 cp4, .bool q] 29 (0, 0))) := Lib.hid fun b W h => grown_at (hWI1 b W h) hz12' ne12
      have H13 : Hid (∀ b W, WI b W → W.heap[W7.heap.size]? = some (.cells #[.iface 3 (.int .i64 i), .iface 9 (.string s), .iface 9 (.string r), .iface 3 (.int .i64 op), .iface 9 (.string n), .iface 4 (.bool q)] 54 (0, 0))) := Lib.hid fun b W h => grown_at (hWI1 b W h) HLv.out ne13
      refine wp_region_fine_store 18 17 (by decide) WI (fun _ j v _ => TV [.agg #[.int .i64 i, .string s, .string r, .int .i64 op, .slice p4 m4 cp4, .bool q], .agg #[.iface 3 (.int .i64 i), .iface 9 (.string s), .iface 9 (.string r), .iface 3 (.int .i64 op), .iface 9 (.string n), .iface 4 (.bool q)], intT i op s r n q, intT i op s r n q, .bool true, .bool true, .agg #[.iface 3 (.int .i64 i), .iface 9 (.string s), .iface 9 (.string r), .iface 3 (.int .i64 op), .iface 9 (.string n), .iface 4 (.bool q)], strT i op s r n q, strT i op s r n q, .bool true, .bool true, .bool true, .agg #[.iface 3 (.int .i64 i), .iface 9 (.string s), .iface 9 (.string r), .iface 3 (.int .i64 op), .iface 9 (.string n), .iface 4 (.bool q)], boolT i op s r n q, boolT i op s r n q, .bool true, .bool true] j v) (by kernel_rfl) (by kernel_rfl) (by kernel_rfl) (by kernel_rfl) hM0 hMB (fun _ _ _ _ _ h _ => h) ?_ ?_ ?_ ?_
      · intro ix o j b ho hg ph v W hT
        simp only [List.take_succ_cons, List.take_zero] at ho
        match ix, ho with
        | 0, ho =>
          simp only [List.getElem?_cons_zero, Option.some.injEq] at ho; subst ho
          cases hg
        | 1, ho =>
          simp only [List.getElem?_cons_zero, List.getElem?_cons_succ, Option.some.injEq] at ho; subst ho
          cases hg
        | 2, ho =>
          simp only [List.getElem?_cons_zero, List.getElem?_cons_succ, Option.some.injEq] at ho; subst ho
          cases hg
        | 3, ho =>
          simp only [List.getElem?_cons_zero, List.getElem?_cons_succ, Option.some.injEq] at ho; subst ho
          cases hg
        | 4, ho =>
          simp only [List.getElem?_cons_zero, List.getElem?_cons_succ, Option.some.injEq] at ho; subst ho
          cases hg
        | 5, ho =>
          simp only [List.getElem?_cons_zero, List.getElem?_cons_succ, Option.some.injEq] at ho; subst ho
          cases hg
        | 6, ho =>
          simp only [List.getElem?_cons_zero, List.getElem?_cons_succ, Option.some.injEq] at ho; subst ho
          obtain ⟨rfl, rfl⟩ := Prod.mk.inj (Option.some.inj hg)
          exact hT _ rfl
        | 7, ho =>
          simp only [List.getElem?_cons_zero, List.getElem?_cons_succ, Option.some.injEq] at ho; subst ho
          obtain ⟨rfl, rfl⟩ := Prod.mk.inj (Option.some.inj hg)
          exact hT _ rfl
        | 8, ho =>
          simp only [List.getElem?_cons_zero, List.getElem?_cons_succ, Option.some.injEq] at ho; subst ho
          obtain ⟨rfl, rfl⟩ := Prod.mk.inj (Option.some.inj hg)
          exact hT _ rfl
        | 9, ho =>
          simp only [List.getElem?_cons_zero, List.getElem?_cons_succ, Option.some.injEq] at ho; subst ho
          obtain ⟨rfl, rfl⟩ := Prod.mk.inj (Option.some.inj hg)
          exact hT _ rfl
        | 10, ho =>
          simp only [List.getElem?_cons_zero, List.getElem?_cons_succ, Option.some.injEq] at ho; subst ho
          cases hg
        | 11, ho =>
          simp only [List.getElem?_cons_zero, List.getElem?_cons_succ, Option.some.injEq] at ho; subst ho
          cases hg
        | 12, ho =>
          simp only [List.getElem?_cons_zero, List.getElem?_cons_succ, Option.some.injEq] at ho; subst ho
          obtain ⟨rfl, rfl⟩ := Prod.mk.inj (Option.some.inj hg)
          exact hT _ rfl
        | 13, ho =>
          simp only [List.getElem?_cons_zero, List.getElem?_cons_succ, Option.some.injEq] at ho; subst ho
          obtain ⟨rfl, rfl⟩ := Prod.mk.inj (Option.some.inj hg)
          exact hT _ rfl
        | 14, ho =>
          simp only [List.getElem?_cons_zero, List.getElem?_cons_succ, Option.some.injEq] at ho; subst ho
          obtain ⟨rfl, rfl⟩ := Prod.mk.inj (Option.some.inj hg)
          exact hT _ rfl
        | 15, ho =>
          simp only [List.getElem?_cons_zero, List.getElem?_cons_succ, Option.some.injEq] at ho; subst ho
          obtain ⟨rfl, rfl⟩ := Prod.mk.inj (Option.some.inj hg)
          exact hT _ rfl
        | 16, ho =>
          simp only [List.getElem?_cons_zero, List.getElem?_cons_succ, Option.some.injEq] at ho; subst ho
          cases hg
        | 17, ho =>
          simp only [List.getElem?_cons_zero, List.getElem?_cons_succ, Option.some.injEq] at ho; subst ho
          cases hg
        | ix + 18, ho => simp at ho
      · intro o ho a W hWI hdep hfix Q
        simp only [List.take_succ_cons, List.take_zero] at ho hdep hfix
        simp only [List.getElem?_cons_zero, List.getElem?_cons_succ, Option.some.injEq] at ho
        subst ho
        have e1 : a.tmps.getD 72 undef = .agg #[.int .i64 i, .string s, .string r, .int .i64 op, .slice p4 m4 cp4, .bool q] := hdep 0 _ 72 rfl rfl (by decide +kernel) _ rfl
        have e2 : a.tmps.getD 2 undef = .pointer (some ⟨w.heap.size, 0, none⟩) := hfix 2 (by decide +kernel)
        refine wp_store_row 29 (.tmp 2) (.tmp 72) rfl w.heap.size #[.int .i64 i, .string s, .string r, .int .i64 op, .slice p4 m4 cp4, .bool q] (by rw [eval_tmp, e2]) (by rw [eval_tmp, e1]) 29 #[.int .i64 0, .string { data := #[] }, .string { data := #[] }, .int .i64 0, .slice none 0 0, .bool false] (hWIf W hWI) i29.out s29.out o29.out ⟨rfl, ?_, fun _ _ _ _ _ _ _ h => h⟩
        have hg := hWI1 _ W hWI
        refine hMT _ ⟨hg.os, hg.tape, hg.output, by simpa using hg.size, fun k hk hn => ?_⟩ (setRow_heap W _ _ _ 29 (0, 0) (hWIf W hWI))
        rw [setRow_other W _ k _ (fun e => hn (by rw [e]))]
        exact hg.block k hk hn
      · intro ix o ho hne a W b hWI _ _ hdep hfix
        simp only [List.take_succ_cons, List.take_zero] at ho hdep hfix
        change Lays Try.prog (fun j v _ => TV [.agg #[.int .i64 i, .string s, .string r, .int .i64 op, .slice p4 m4 cp4, .bool q], .agg #[.iface 3 (.int .i64 i), .iface 9 (.string s), .iface 9 (.string r), .iface 3 (.int .i64 op), .iface 9 (.string n), .iface 4 (.bool q)], intT i op s r n q, intT i op s r n q, .bool true, .bool true, .agg #[.iface 3 (.int .i64 i), .iface 9 (.string s), .iface 9 (.string r), .iface 3 (.int .i64 op), .iface 9 (.string n), .iface 4 (.bool q)], strT i op s r n q, strT i op s r n q, .bool true, .bool true, .bool true, .agg #[.iface 3 (.int .i64 i), .iface 9 (.string s), .iface 9 (.string r), .iface 3 (.int .i64 op), .iface 9 (.string n), .iface 4 (.bool q)], boolT i op s r n q, boolT i op s r n q, .bool true, .bool true] j v) ix o a W
        match ix, ho with
        | 0, ho =>
          simp only [List.getElem?_cons_zero, Option.some.injEq] at ho; subst ho
          have e1 : a.tmps.getD 12 undef = .pointer (some ⟨b12, 0, none⟩) := hfix 12 (by decide +kernel)
          exact lays_eq _ (fun x hx => Option.some.inj hx) (exec_load (by rw [eval_tmp, e1]) (ld_cells (P := Try.prog) (T := 29) W [.int .i64 i, .string s, .string r, .int .i64 op, .slice p4 m4 cp4, .bool q] (by kernel_rfl) (by kernel_rfl) (H12.out b W hWI)).1)
        | 1, ho =>
          simp only [List.getElem?_cons_zero, List.getElem?_cons_succ, Option.some.injEq] at ho; subst ho
          have e1 : a.tmps.getD 13 undef = .pointer (some ⟨W7.heap.size, 0, none⟩) := hfix 13 (by decide +kernel)
          exact lays_eq _ (fun x hx => Option.some.inj hx) (exec_load (by rw [eval_tmp, e1]) (ld_cells (P := Try.prog) (T := 54) W [.iface 3 (.int .i64 i), .iface 9 (.string s), .iface 9 (.string r), .iface 3 (.int .i64 op), .iface 9 (.string n), .iface 4 (.bool q)] (by kernel_rfl) (by kernel_rfl) (H13.out b W hWI)).1)
        | 2, ho =>
          simp only [List.getElem?_cons_zero, List.getElem?_cons_succ, Option.some.injEq] at ho; subst ho
          have e1 : a.tmps.getD 73 undef = .agg #[.iface 3 (.int .i64 i), .iface 9 (.string s), .iface 9 (.string r), .iface 3 (.int .i64 op), .iface 9 (.string n), .iface 4 (.bool q)] := hdep 1 _ 73 rfl rfl (by decide +kernel) _ rfl
          refine lays_call #[.agg #[.iface 3 (.int .i64 i), .iface 9 (.string s), .iface 9 (.string r), .iface 3 (.int .i64 op), .iface 9 (.string n), .iface 4 (.bool q)]] (by simp [Act.eval, e1]) (by kernel_rfl) ((told_int i op s r n q W).mono ?_)
          rintro e W' ⟨rfl, hB'⟩
          exact ⟨_, rfl, hB', (fun x hx => Option.some.inj hx)⟩
        | 3, ho =>
          simp only [List.getElem?_cons_zero, List.getElem?_cons_succ, Option.some.injEq] at ho; subst ho
          have e1 : a.tmps.getD 7 undef = .pointer (some ⟨b7, 0, none⟩) := hfix 7 (by decide +kernel)
          exact lays_eq _ (fun x hx => Option.some.inj hx) (exec_load (by rw [eval_tmp, e1]) (ld_cells (P := Try.prog) (T := 65) W [.int .i64 i, .bool true, .int .i64 0, .bool false, .int .i64 0, .bool false, .int .i64 op, .bool true, .int .i64 0, .bool false, .int .i64 0, .bool false] (by kernel_rfl) (by kernel_rfl) (H7.out b W hWI)).1)
        | 4, ho =>
          simp only [List.getElem?_cons_zero, List.getElem?_cons_succ, Option.some.injEq] at ho; subst ho
          have e1 : a.tmps.getD 74 undef = intT i op s r n q := hdep 2 _ 74 rfl rfl (by decide +kernel) _ rfl
          have e2 : a.tmps.getD 75 undef = intT i op s r n q := hdep 3 _ 75 rfl rfl (by decide +kernel) _ rfl
          exact lays_eq _ (fun x hx => Option.some.inj hx) (exec_eq65 i op s r n q (by rw [eval_tmp, e1]) (by rw [eval_tmp, e2]))
        | 5, ho =>
          simp only [List.getElem?_cons_zero, List.getElem?_cons_succ, Option.some.injEq] at ho; subst ho
          have e1 : a.tmps.getD 76 undef = .bool true := hdep 4 _ 76 rfl rfl (by decide +kernel) _ rfl
          exact lays_eq _ (fun x hx => Option.some.inj hx) (exec_move (by rw [eval_tmp, e1]))
        | 6, ho =>
          simp only [List.getElem?_cons_zero, List.getElem?_cons_succ, Option.some.injEq] at ho; subst ho
          have e1 : a.tmps.getD 13 undef = .pointer (some ⟨W7.heap.size, 0, none⟩) := hfix 13 (by decide +kernel)
          exact lays_eq _ (fun x hx => Option.some.inj hx) (exec_load (by rw [eval_tmp, e1]) (ld_cells (P := Try.prog) (T := 54) W [.iface 3 (.int .i64 i), .iface 9 (.string s), .iface 9 (.string r), .iface 3 (.int .i64 op), .iface 9 (.string n), .iface 4 (.bool q)] (by kernel_rfl) (by kernel_rfl) (H13.out b W hWI)).1)
        | 7, ho =>
          simp only [List.getElem?_cons_zero, List.getElem?_cons_succ, Option.some.injEq] at ho; subst ho
          have e1 : a.tmps.getD 78 undef = .agg #[.iface 3 (.int .i64 i), .iface 9 (.string s), .iface 9 (.string r), .iface 3 (.int .i64 op), .iface 9 (.string n), .iface 4 (.bool q)] := hdep 6 _ 78 rfl rfl (by decide +kernel) _ rfl
          refine lays_call #[.agg #[.iface 3 (.int .i64 i), .iface 9 (.string s), .iface 9 (.string r), .iface 3 (.int .i64 op), .iface 9 (.string n), .iface 4 (.bool q)]] (by simp [Act.eval, e1]) (by kernel_rfl) ((told_str i op s r n q W).mono ?_)
          rintro e W' ⟨rfl, hB'⟩
          exact ⟨_, rfl, hB', (fun x hx => Option.some.inj hx)⟩
        | 8, ho =>
          simp only [List.getElem?_cons_zero, List.getElem?_cons_succ, Option.some.injEq] at ho; subst ho
          have e1 : a.tmps.getD 8 undef = .pointer (some ⟨b8, 0, none⟩) := hfix 8 (by decide +kernel)
          exact lays_eq _ (fun x hx => Option.some.inj hx) (exec_load (by rw [eval_tmp, e1]) (ld_cells (P := Try.prog) (T := 69) W [.string { data := #[] }, .bool false, .string s, .bool true, .string r, .bool true, .string { data := #[] }, .bool false, .string n, .bool true, .string { data := #[] }, .bool false] (by kernel_rfl) (by kernel_rfl) (H8.out b W hWI)).1)
        | 9, ho =>
          simp only [List.getElem?_cons_zero, List.getElem?_cons_succ, Option.some.injEq] at ho; subst ho
          have e1 : a.tmps.getD 79 undef = strT i op s r n q := hdep 7 _ 79 rfl rfl (by decide +kernel) _ rfl
          have e2 : a.tmps.getD 80 undef = strT i op s r n q := hdep 8 _ 80 rfl rfl (by decide +kernel) _ rfl
          exact lays_eq _ (fun x hx => Option.some.inj hx) (exec_eq69 i op s r n q (by rw [eval_tmp, e1]) (by rw [eval_tmp, e2]))
        | 10, ho =>
          simp only [List.getElem?_cons_zero, List.getElem?_cons_succ, Option.some.injEq] at ho; subst ho
          have e1 : a.tmps.getD 77 undef = .bool true := hdep 5 _ 77 rfl rfl (by decide +kernel) _ rfl
          have e2 : a.tmps.getD 81 undef = .bool true := hdep 9 _ 81 rfl rfl (by decide +kernel) _ rfl
          exact lays_eq _ (fun x hx => Option.some.inj hx) (exec_pickT (by rw [eval_tmp, e1]) (by rw [eval_tmp, e2]))
        | 11, ho =>
          simp only [List.getElem?_cons_zero, List.getElem?_cons_succ, Option.some.injEq] at ho; subst ho
          have e1 : a.tmps.getD 82 undef = .bool true := hdep 10 _ 82 rfl rfl (by decide +kernel) _ rfl
          exact lays_eq _ (fun x hx => Option.some.inj hx) (exec_move (by rw [eval_tmp, e1]))
        | 12, ho =>
          simp only [List.getElem?_cons_zero, List.getElem?_cons_succ, Option.some.injEq] at ho; subst ho
          have e1 : a.tmps.getD 13 undef = .pointer (some ⟨W7.heap.size, 0, none⟩) := hfix 13 (by decide +kernel)
          exact lays_eq _ (fun x hx => Option.some.inj hx) (exec_load (by rw [eval_tmp, e1]) (ld_cells (P := Try.prog) (T := 54) W [.iface 3 (.int .i64 i), .iface 9 (.string s), .iface 9 (.string r), .iface 3 (.int .i64 op), .iface 9 (.string n), .iface 4 (.bool q)] (by kernel_rfl) (by kernel_rfl) (H13.out b W hWI)).1)
        | 13, ho =>
          simp only [List.getElem?_cons_zero, List.getElem?_cons_succ, Option.some.injEq] at ho; subst ho
          have e1 : a.tmps.getD 84 undef = .agg #[.iface 3 (.int .i64 i), .iface 9 (.string s), .iface 9 (.string r), .iface 3 (.int .i64 op), .iface 9 (.string n), .iface 4 (.bool q)] := hdep 12 _ 84 rfl rfl (by decide +kernel) _ rfl
          refine lays_call #[.agg #[.iface 3 (.int .i64 i), .iface 9 (.string s), .iface 9 (.string r), .iface 3 (.int .i64 op), .iface 9 (.string n), .iface 4 (.bool q)]] (by simp [Act.eval, e1]) (by kernel_rfl) ((told_bool i op s r n q W).mono ?_)
          rintro e W' ⟨rfl, hB'⟩
          exact ⟨_, rfl, hB', (fun x hx => Option.some.inj hx)⟩
        | 14, ho =>
          simp only [List.getElem?_cons_zero, List.getElem?_cons_succ, Option.some.injEq] at ho; subst ho
          have e1 : a.tmps.getD 9 undef = .pointer (some ⟨b9, 0, none⟩) := hfix 9 (by decide +kernel)
          exact lays_eq _ (fun x hx => Option.some.inj hx) (exec_load (by rw [eval_tmp, e1]) (ld_cells (P := Try.prog) (T := 73) W [.bool false, .bool false, .bool false, .bool false, .bool false, .bool false, .bool false, .bool false, .bool false, .bool false, .bool q, .bool true] (by kernel_rfl) (by kernel_rfl) (H9.out b W hWI)).1)
        | 15, ho =>
          simp only [List.getElem?_cons_zero, List.getElem?_cons_succ, Option.some.injEq] at ho; subst ho
          have e1 : a.tmps.getD 85 undef = boolT i op s r n q := hdep 13 _ 85 rfl rfl (by decide +kernel) _ rfl
          have e2 : a.tmps.getD 86 undef = boolT i op s r n q := hdep 14 _ 86 rfl rfl (by decide +kernel) _ rfl
          exact lays_eq _ (fun x hx => Option.some.inj hx) (exec_eq73 i op s r n q (by rw [eval_tmp, e1]) (by rw [eval_tmp, e2]))
        | 16, ho =>
          simp only [List.getElem?_cons_zero, List.getElem?_cons_succ, Option.some.injEq] at ho; subst ho
          have e1 : a.tmps.getD 83 undef = .bool true := hdep 11 _ 83 rfl rfl (by decide +kernel) _ rfl
          have e2 : a.tmps.getD 87 undef = .bool true := hdep 15 _ 87 rfl rfl (by decide +kernel) _ rfl
          exact lays_eq _ (fun x hx => Option.some.inj hx) (exec_pickT (by rw [eval_tmp, e1]) (by rw [eval_tmp, e2]))
        | 17, ho => exact absurd rfl hne
        | ix + 18, ho => simp at ho
      · intro a W hWI hd hsz hfix hT
        simp only [List.take_succ_cons, List.take_zero, List.drop_succ_cons, List.drop_zero] at hfix hT ⊢
        have f2 : a.tmps.getD 2 undef = .pointer (some ⟨w.heap.size, 0, none⟩) := hfix 2 (by decide +kernel)
        have f88 : a.tmps.getD 88 undef = .bool true := hT 16 _ 88 rfl rfl _ rfl
        rw [frame_lit a 89 hsz hd]
        clear hfix hT hsz hd
        simp only [List.range, List.range.loop, List.map]
        generalize a.tmps = t at *
        simp only [f2, f88]
        clear f2 f88
        have hcell := cell_of (hWIt W hWI)
        have hgr := hWI1 _ W hWI
        go_wp2
        refine bodyPost_ret (by simp [results, Try.results30, go_sem, hcell]; try rfl) rfl ?_
        refine HA.out _ W ⟨p4, cp4, by simp only [grV, HM4.out], ?_⟩ ?_
        · simp only [HM4.out]
          exact ps_past HV8.out HRP.out hR' hgr
        · exact below_put hBw.out hgr hBw.out.size (Nat.le_refl _)
end Go.Proofs.Ytfihbfkgkljjdaa
