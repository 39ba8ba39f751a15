/- More operations by themselves: strings loaded, their lengths, one byte as a string, sums. No condition. -/
import Derived.Test.YtbfcbffmgdijfaaR4
import Derived.Laws.Concat
namespace Go.Proofs.Ytbfcbffmgdijfaa
open Go.RowKit Go.Own
attribute [-go_sem] run_string_add_if
section
variable {ρ : Operand → Value} {W : World} {dst : Option Tmp} {ty : TypeId} {pos : String} {after : Array Edge} {guard : Option (Nat × Bool)} {x y : Operand}
theorem ld_str {W : World} {b k : Nat} {s : ByteArray} (h : W.cell? ⟨b, k, none⟩ = some (.string s)) : (Instr.loadAt 9 (.pointer (some ⟨b, k, none⟩))).run Try.prog W = .ok (.string s) W := by
  simp [go_sem, h]
theorem exec_len {s : ByteArray} (h : ρ x = .string s) :
    (execOp ρ { dst, op := .call { callee := .builtin .len, args := #[x], argTypes := #[9] }, type := 3, pos, after, guard }).run Try.prog W = .ok (.value (.int .i64 (s.size : Int))) W := by
  have e : (Builtin.len_ #[9] 3 #[.string s]).run Try.prog W = .ok (.int .i64 (s.size : Int)) W := by
    simp [go_sem]
  simp [execOp, resolve, invoke, builtin, h, e, Result.andThen]
theorem conv35 {k : Nat} (h : k ≤ 255) : (convert 3 5 (.int .i64 (k : Int))).run Try.prog W = .ok (.int .u8 (k : Int)) W := by
  have e : (convert 3 5 (.int .i64 (k : Int))).run Try.prog W = .ok (.int .u8 (IntKind.u8.wrap (k : Int))) W := by kernel_rfl
  rw [e]
  have : IntKind.u8.wrap (k : Int) = (k : Int) := by simp [IntKind.wrap, IntKind.bits, IntKind.signed]; omega
  rw [this]
theorem exec_byte {k : Nat} (h : ρ x = .int .u8 (k : Int)) :
    (execOp ρ { dst, op := .buildSlice 45 1 #[(0, x)], type := ty, pos, after, guard }).run Try.prog W = .ok (.value (.slice (some ⟨W.heap.size, 0, none⟩) 1 1)) (W.alloc (.cells #[.int .u8 (k : Int)] 5)) := by
  have e : (Instr.buildSlice 45 1 #[(0, .int .u8 (k : Int))]).run Try.prog W = .ok (.slice (some ⟨W.heap.size, 0, none⟩) 1 1) (W.alloc (.cells #[.int .u8 (k : Int)] 5)) := by kernel_rfl
  simp [execOp, h, e, Result.andThen]
theorem byte_own (W : World) (B k : Nat) (hB : B ≤ W.heap.size) : OwnB (W.alloc (.cells #[.int .u8 (k : Int)] 5)) B (.slice (some ⟨W.heap.size, 0, none⟩) 1 1) [k] :=
  ⟨rfl, Or.inr ⟨W.heap.size, 1, #[.int .u8 (k : Int)], rfl, hB, heap_alloc_new W _, by simp, by unfold maxLen; omega, by simp, by simp [nb]⟩⟩
theorem exec_add {a b : ByteArray} (h1 : ρ x = .string a) (h2 : ρ y = .string b) (hs : a.size + b.size ≤ 1000000) :
    (execOp ρ { dst, op := .binOp .add 9 x y 9, type := ty, pos, after, guard }).run Try.prog W = .ok (.value (.string (a ++ b))) W := by
  have hadd : (Op.stringOp .add a b).run Try.prog W = .ok (.string (a ++ b)) W := run_string_add_sum W a b (by omega)
  simp [execOp, h1, h2, go_sem, hadd, Result.andThen]
end
theorem OwnB.below {W W' : World} {B : Nat} {v : Value} {l : List Nat} (h : OwnB W B v l) (hb : Below W.heap.size W W') : OwnB W' B v l := by
  unfold OwnB at h ⊢
  exact h.kept (row := none) ⟨hb.os, hb.tape, hb.output, hb.size, fun k hk _ => hb.block k hk⟩ (by
    rcases h.2 with ⟨rfl, _⟩ | ⟨g, c, cur, rfl, _⟩
    · exact Or.inl rfl
    · exact Or.inr (by simp [Value.ownBlock]))
end Go.Proofs.Ytbfcbffmgdijfaa
