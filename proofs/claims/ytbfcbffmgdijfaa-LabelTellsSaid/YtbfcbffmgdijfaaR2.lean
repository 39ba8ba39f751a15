/- Operations run by themselves, out of their operands' values; frames out of their slots. No condition. -/
import Derived.Test.YtbfcbffmgdijfaaR1
import Derived.Test.YtbfcbffmgdijfaaP3
import Derived.WalkSpells
namespace Go.Own
open Go Go.RowKit
section
variable {P : Program} {ρ : Operand → Value} {W W' : World} {dst : Option Tmp} {ty : TypeId} {pos : String} {after : Array Edge} {guard : Option (Nat × Bool)} {v u r : Value} {x y : Operand}
theorem exec_move (h : ρ x = v) : (execOp ρ { dst, op := .move x, type := ty, pos, after, guard }).run P W = .ok (.value v) W := by
  subst h; rfl
theorem exec_assign (h : ρ x = v) : (execOp ρ { dst, op := .assign x, type := ty, pos, after, guard }).run P W = .ok (.value v) W := by
  subst h; rfl
theorem exec_append {t t' : TypeId} (h1 : ρ x = v) (h2 : ρ y = u) (hr : (Builtin.append_ #[t, t'] ty #[v, u]).run P W = .ok r W') :
    (execOp ρ { dst, op := .call { callee := .builtin .append, args := #[x, y], argTypes := #[t, t'] }, type := ty, pos, after, guard }).run P W = .ok (.value r) W' := by
  simp [execOp, resolve, invoke, builtin, h1, h2, hr, Result.andThen]
theorem exec_load {T : TypeId} (h1 : ρ x = v) (hr : (Instr.loadAt T v).run P W = .ok r W) : (execOp ρ { dst, op := .load T x, type := ty, pos, after, guard }).run P W = .ok (.value r) W := by
  have e : execOp ρ { dst, op := .load T x, type := ty, pos, after, guard } = (Instr.loadAt T (ρ x) >>= fun v => pure (.value v)) := rfl
  rw [e, h1]
  simp [hr, Result.andThen]
theorem exec_convert {S T : TypeId} (h1 : ρ x = v) (hr : (convert S T v).run P W = .ok r W) : (execOp ρ { dst, op := .convert S T x, type := ty, pos, after, guard }).run P W = .ok (.value r) W := by
  simp [execOp, h1, hr, Result.andThen]
end
theorem eval_tmp (a : Act) (s : Nat) : a.eval (.tmp s) = a.tmps.getD s undef := rfl
theorem frame_lit (a : Act) (n : Nat) (h : a.tmps.size = n) (hd : a.defers = []) : a = { tmps := ((List.range n).map fun k => a.tmps.getD k undef).toArray, defers := [] } := by
  obtain ⟨t, d⟩ := a
  simp only at h hd
  subst hd
  congr 1
  apply Array.ext
  · simp [h]
  · intro i h1 h2
    simp [Array.getD, h1]
end Go.Own
namespace Go.Proofs.Ytbfcbffmgdijfaa
open Go.RowKit Go.Own
theorem OwnP.below {W W' : World} {B : Nat} {v : Value} {M : List P2} (h : OwnP W B v M) (hb : Below W.heap.size W W') : OwnP W' B v M := by
  unfold OwnP at h ⊢
  exact h.kept (row := none) ⟨hb.os, hb.tape, hb.output, hb.size, fun k hk _ => hb.block k hk⟩ (by
    rcases h.2 with ⟨rfl, _⟩ | ⟨g, c, cur, rfl, _⟩
    · exact Or.inl rfl
    · exact Or.inr (by simp [Value.ownBlock]))
/-- What is there of an empty row. -/
def Empty0 (W : World) (B : Nat) (v : Value) : Prop := ∃ g, v = .slice (some ⟨g, 0, none⟩) 0 0 ∧ B ≤ g ∧ W.heap[g]? = some (.cells #[] 39 (0, 0))
theorem Empty0.below {W W' : World} {B : Nat} {v : Value} (h : Empty0 W B v) (hb : Below W.heap.size W W') : Empty0 W' B v := by
  obtain ⟨g, h1, h2, h3⟩ := h
  exact ⟨g, h1, h2, (hb.block g (Array.getElem?_eq_some_iff.1 h3).1).trans h3⟩
theorem exec_empty {ρ : Operand → Value} {W : World} {dst : Option Tmp} {ty : TypeId} {pos : String} {after : Array Edge} {guard : Option (Nat × Bool)} :
    (execOp ρ { dst, op := .buildSlice 22 0 #[], type := ty, pos, after, guard }).run Try.prog W = .ok (.value (.slice (some ⟨W.heap.size, 0, none⟩) 0 0)) (W.alloc (.cells #[] 39)) := by
  have e : (Instr.buildSlice 22 0 #[]).run Try.prog W = .ok (.slice (some ⟨W.heap.size, 0, none⟩) 0 0) (W.alloc (.cells #[] 39)) := by kernel_rfl
  simp [execOp, e, Result.andThen]
theorem exec_one {ρ : Operand → Value} {W : World} {dst : Option Tmp} {ty : TypeId} {pos : String} {after : Array Edge} {guard : Option (Nat × Bool)} {x : Operand} {a b : ByteArray} (h : ρ x = .agg #[.string a, .string b]) :
    (execOp ρ { dst, op := .buildSlice 22 1 #[(0, x)], type := ty, pos, after, guard }).run Try.prog W = .ok (.value (.slice (some ⟨W.heap.size, 0, none⟩) 1 1)) (W.alloc (.cells #[.string a, .string b] 39)) := by
  have e : (Instr.buildSlice 22 1 #[(0, .agg #[.string a, .string b])]).run Try.prog W = .ok (.slice (some ⟨W.heap.size, 0, none⟩) 1 1) (W.alloc (.cells #[.string a, .string b] 39)) := by kernel_rfl
  simp [execOp, h, e, Result.andThen]
theorem ps_one (W : World) (x : P2) : PsC (W.alloc (.cells #[.string x.1, .string x.2] 39)) (.slice (some ⟨W.heap.size, 0, none⟩) 1 1) [x] := by
  refine ⟨_, _, rfl, Nat.le_refl _, fun j u hu => ⟨W.heap.size, 0, rfl, ?_⟩⟩
  rw [cell_new, Nat.zero_add]
  simpa [cellsP] using hu
end Go.Proofs.Ytbfcbffmgdijfaa
