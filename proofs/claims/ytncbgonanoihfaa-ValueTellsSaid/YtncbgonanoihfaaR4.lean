/- Operations run by themselves, out of their operands' values; frames out of their slots; a block of five cells. No condition. -/
import Derived.Test.YtncbgonanoihfaaR3
import Derived.Test.YtncbgonanoihfaaG1
import Derived.Test.YtncbgonanoihfaaX2
namespace Go.Own
open Go Go.RowKit
section
variable {P : Program} {ρ : Operand → Value} {W W' : World} {dst : Option Tmp} {ty : TypeId} {pos : String} {after : Array Edge} {guard : Option (Nat × Bool)} {v u r : Value} {x y z : Operand}
theorem exec_move (h : ρ x = v) : (execOp ρ { dst, op := .move x, type := ty, pos, after, guard }).run P W = .ok (.value v) W := by
  subst h; rfl
theorem exec_assign (h : ρ x = v) : (execOp ρ { dst, op := .assign x, type := ty, pos, after, guard }).run P W = .ok (.value v) W := by
  subst h; rfl
theorem exec_load {T : TypeId} (h1 : ρ x = v) (hr : (Instr.loadAt T v).run P W = .ok r W) : (execOp ρ { dst, op := .load T x, type := ty, pos, after, guard }).run P W = .ok (.value r) W := by
  have e : execOp ρ { dst, op := .load T x, type := ty, pos, after, guard } = (Instr.loadAt T (ρ x) >>= fun v => pure (.value v)) := rfl
  rw [e, h1]
  simp [hr, Result.andThen]
theorem exec_iface {T : TypeId} (h1 : ρ x = v) (hr : (Instr.makeInterface T v).run P W = .ok r W) : (execOp ρ { dst, op := .makeInterface T x, type := ty, pos, after, guard }).run P W = .ok (.value r) W := by
  simp [execOp, h1, hr, Result.andThen]
end
theorem eval_tmp (a : Act) (s : Nat) : a.eval (.tmp s) = a.tmps.getD s undef := rfl
theorem frame_lit (a : Act) (n : Nat) (h : a.tmps.size = n) (hd : a.defers = []) : a = { tmps := ((List.range n).map fun k => a.tmps.getD k undef).toArray, defers := [] } := by
  obtain ⟨t, d⟩ := a
  simp only at h hd
  subst hd
  congr 1
  apply Array.ext
  · simp [h]
  · intro i h1 h2
    simp [Array.getD, h1]
end Go.Own
namespace Go.Proofs.Ytncbgonanoihfaa
open Go.RowKit Go.Own
/-- Block B holds five values, at its head. -/
def Box5 (w : World) (B : Nat) (c0 c1 c2 c3 c4 : Value) : Prop :=
  B < w.heap.size ∧ w.cell? ⟨B, 0, none⟩ = some c0 ∧ w.cell? ⟨B, 1, none⟩ = some c1 ∧ w.cell? ⟨B, 2, none⟩ = some c2 ∧ w.cell? ⟨B, 3, none⟩ = some c3 ∧ w.cell? ⟨B, 4, none⟩ = some c4
theorem Box5.below {w w' : World} {B : Nat} {c0 c1 c2 c3 c4 : Value} (h : Box5 w B c0 c1 c2 c3 c4) (hb : Below w.heap.size w w') : Box5 w' B c0 c1 c2 c3 c4 := by
  obtain ⟨h1, e0, e1, e2, e3, e4⟩ := h
  have hk : ∀ i, w'.cell? ⟨B, i, none⟩ = w.cell? ⟨B, i, none⟩ := fun i => hb.cell (p := ⟨B, i, none⟩) h1
  exact ⟨Nat.lt_of_lt_of_le h1 hb.size, by rw [hk]; exact e0, by rw [hk]; exact e1, by rw [hk]; exact e2, by rw [hk]; exact e3, by rw [hk]; exact e4⟩
theorem box5_new (w : World) (c0 c1 c2 c3 c4 : Value) (t : TypeId) : Box5 (w.alloc (.cells #[c0, c1, c2, c3, c4] t)) w.heap.size c0 c1 c2 c3 c4 :=
  ⟨by simp, cell_new _ _ _ _, cell_new _ _ _ _, cell_new _ _ _ _, cell_new _ _ _ _, cell_new _ _ _ _⟩
theorem Box5.load {w : World} {B : Nat} {c0 c1 c2 c3 c4 : Value} (h : Box5 w B c0 c1 c2 c3 c4) : (Instr.loadAt 24 (.pointer (some ⟨B, 0, none⟩))).run Try.prog w = .ok (.agg #[c0, c1, c2, c3, c4]) w := by
  obtain ⟨_, e0, e1, e2, e3, e4⟩ := h
  exact ld_five w (b := B) (o := 0) e0 e1 e2 e3 e4
/-- A call of Of: its value is that of x, from then on. -/
theorem of_has {x : V} {d : Nat} {v : Value} {w : World} (hf : fewV x d = true) (hv : Holds w v x) : Calls Try.prog 10 #[v] w fun e w' => ∃ r, e = .returned r ∧ Below w.heap.size w w' ∧ Has w' r (ofV x) :=
  (of_any x d v w hf hv).mono fun _ _ ⟨r, h1, h2, h3⟩ => ⟨r, h1, h3, h2.has⟩
end Go.Proofs.Ytncbgonanoihfaa
