/- What six values tell as numbers, texts and yeses: the program's three readings, by contract. No condition. -/
import Derived.Test.YtfihbfkgkljjdaaGC
import Derived.Handy
namespace Go.Proofs.Ytfihbfkgkljjdaa
open Go.RowKit Go.Own
@[go_sem ↓] theorem ta_3_3 (u : Value) (w : World) : (Instr.typeAssert (.iface 3 u) 20 3 true).run Try.prog w = .ok (.tuple #[u, .bool true]) w := by kernel_rfl
@[go_sem ↓] theorem ta_9_3 (u : Value) (w : World) : (Instr.typeAssert (.iface 9 u) 20 3 true).run Try.prog w = .ok (.tuple #[.int .i64 0, .bool false]) w := by kernel_rfl
@[go_sem ↓] theorem ta_4_3 (u : Value) (w : World) : (Instr.typeAssert (.iface 4 u) 20 3 true).run Try.prog w = .ok (.tuple #[.int .i64 0, .bool false]) w := by kernel_rfl
@[go_sem ↓] theorem ta_43_3 (u : Value) (w : World) : (Instr.typeAssert (.iface 43 u) 20 3 true).run Try.prog w = .ok (.tuple #[.int .i64 0, .bool false]) w := by kernel_rfl
@[go_sem ↓] theorem ta_3_9 (u : Value) (w : World) : (Instr.typeAssert (.iface 3 u) 20 9 true).run Try.prog w = .ok (.tuple #[.string { data := #[] }, .bool false]) w := by kernel_rfl
@[go_sem ↓] theorem ta_9_9 (u : Value) (w : World) : (Instr.typeAssert (.iface 9 u) 20 9 true).run Try.prog w = .ok (.tuple #[u, .bool true]) w := by kernel_rfl
@[go_sem ↓] theorem ta_4_9 (u : Value) (w : World) : (Instr.typeAssert (.iface 4 u) 20 9 true).run Try.prog w = .ok (.tuple #[.string { data := #[] }, .bool false]) w := by kernel_rfl
@[go_sem ↓] theorem ta_43_9 (u : Value) (w : World) : (Instr.typeAssert (.iface 43 u) 20 9 true).run Try.prog w = .ok (.tuple #[.string { data := #[] }, .bool false]) w := by kernel_rfl
@[go_sem ↓] theorem ta_3_4 (u : Value) (w : World) : (Instr.typeAssert (.iface 3 u) 20 4 true).run Try.prog w = .ok (.tuple #[.bool false, .bool false]) w := by kernel_rfl
@[go_sem ↓] theorem ta_9_4 (u : Value) (w : World) : (Instr.typeAssert (.iface 9 u) 20 4 true).run Try.prog w = .ok (.tuple #[.bool false, .bool false]) w := by kernel_rfl
@[go_sem ↓] theorem ta_4_4 (u : Value) (w : World) : (Instr.typeAssert (.iface 4 u) 20 4 true).run Try.prog w = .ok (.tuple #[u, .bool true]) w := by kernel_rfl
@[go_sem ↓] theorem ta_43_4 (u : Value) (w : World) : (Instr.typeAssert (.iface 43 u) 20 4 true).run Try.prog w = .ok (.tuple #[.bool false, .bool false]) w := by kernel_rfl
@[go_sem ↓] theorem ta_3_43 (u : Value) (w : World) : (Instr.typeAssert (.iface 3 u) 20 43 true).run Try.prog w = .ok (.tuple #[.slice none 0 0, .bool false]) w := by kernel_rfl
@[go_sem ↓] theorem ta_9_43 (u : Value) (w : World) : (Instr.typeAssert (.iface 9 u) 20 43 true).run Try.prog w = .ok (.tuple #[.slice none 0 0, .bool false]) w := by kernel_rfl
@[go_sem ↓] theorem ta_4_43 (u : Value) (w : World) : (Instr.typeAssert (.iface 4 u) 20 43 true).run Try.prog w = .ok (.tuple #[.slice none 0 0, .bool false]) w := by kernel_rfl
@[go_sem ↓] theorem ta_43_43 (u : Value) (w : World) : (Instr.typeAssert (.iface 43 u) 20 43 true).run Try.prog w = .ok (.tuple #[u, .bool true]) w := by kernel_rfl
def intT (i o : Int) (_s _r _n : ByteArray) (_q : Bool) : Value := .agg #[.int .i64 i, .bool true, .int .i64 0, .bool false, .int .i64 0, .bool false, .int .i64 o, .bool true, .int .i64 0, .bool false, .int .i64 0, .bool false]
set_option maxRecDepth 100000 in
set_option maxHeartbeats 4000000 in
theorem told_int (i o : Int) (s r n : ByteArray) (q : Bool) (w : World) :
    Calls Try.prog 37 #[.agg #[.iface 3 (.int .i64 i), .iface 9 (.string s), .iface 9 (.string r), .iface 3 (.int .i64 o), .iface 9 (.string n), .iface 4 (.bool q)]] w fun e w' => e = .returned (intT i o s r n q) ∧ Below w.heap.size w w' := by
  unfold intT
  go_enter Try.func37, Try.ntmps37
  go_wp2
  have i0 : ∀ W : World, (Instr.index 54 (.agg #[.iface 3 (.int .i64 i), .iface 9 (.string s), .iface 9 (.string r), .iface 3 (.int .i64 o), .iface 9 (.string n), .iface 4 (.bool q)]) (.int .i64 0)).run Try.prog W = .ok (.iface 3 (.int .i64 i)) W := fun W => by kernel_rfl
  have i1 : ∀ W : World, (Instr.index 54 (.agg #[.iface 3 (.int .i64 i), .iface 9 (.string s), .iface 9 (.string r), .iface 3 (.int .i64 o), .iface 9 (.string n), .iface 4 (.bool q)]) (.int .i64 1)).run Try.prog W = .ok (.iface 9 (.string s)) W := fun W => by kernel_rfl
  have i2 : ∀ W : World, (Instr.index 54 (.agg #[.iface 3 (.int .i64 i), .iface 9 (.string s), .iface 9 (.string r), .iface 3 (.int .i64 o), .iface 9 (.string n), .iface 4 (.bool q)]) (.int .i64 2)).run Try.prog W = .ok (.iface 9 (.string r)) W := fun W => by kernel_rfl
  have i3 : ∀ W : World, (Instr.index 54 (.agg #[.iface 3 (.int .i64 i), .iface 9 (.string s), .iface 9 (.string r), .iface 3 (.int .i64 o), .iface 9 (.string n), .iface 4 (.bool q)]) (.int .i64 3)).run Try.prog W = .ok (.iface 3 (.int .i64 o)) W := fun W => by kernel_rfl
  have i4 : ∀ W : World, (Instr.index 54 (.agg #[.iface 3 (.int .i64 i), .iface 9 (.string s), .iface 9 (.string r), .iface 3 (.int .i64 o), .iface 9 (.string n), .iface 4 (.bool q)]) (.int .i64 4)).run Try.prog W = .ok (.iface 9 (.string n)) W := fun W => by kernel_rfl
  have i5 : ∀ W : World, (Instr.index 54 (.agg #[.iface 3 (.int .i64 i), .iface 9 (.string s), .iface 9 (.string r), .iface 3 (.int .i64 o), .iface 9 (.string n), .iface 4 (.bool q)]) (.int .i64 5)).run Try.prog W = .ok (.iface 4 (.bool q)) W := fun W => by kernel_rfl
  go_rounds 7
  go_returns
  refine ⟨rfl, ?_⟩
  go_grown
def strT (_i _o : Int) (s r n : ByteArray) (_q : Bool) : Value := .agg #[.string { data := #[] }, .bool false, .string s, .bool true, .string r, .bool true, .string { data := #[] }, .bool false, .string n, .bool true, .string { data := #[] }, .bool false]
set_option maxRecDepth 100000 in
set_option maxHeartbeats 4000000 in
theorem told_str (i o : Int) (s r n : ByteArray) (q : Bool) (w : World) :
    Calls Try.prog 38 #[.agg #[.iface 3 (.int .i64 i), .iface 9 (.string s), .iface 9 (.string r), .iface 3 (.int .i64 o), .iface 9 (.string n), .iface 4 (.bool q)]] w fun e w' => e = .returned (strT i o s r n q) ∧ Below w.heap.size w w' := by
  unfold strT
  go_enter Try.func38, Try.ntmps38
  go_wp2
  have i0 : ∀ W : World, (Instr.index 54 (.agg #[.iface 3 (.int .i64 i), .iface 9 (.string s), .iface 9 (.string r), .iface 3 (.int .i64 o), .iface 9 (.string n), .iface 4 (.bool q)]) (.int .i64 0)).run Try.prog W = .ok (.iface 3 (.int .i64 i)) W := fun W => by kernel_rfl
  have i1 : ∀ W : World, (Instr.index 54 (.agg #[.iface 3 (.int .i64 i), .iface 9 (.string s), .iface 9 (.string r), .iface 3 (.int .i64 o), .iface 9 (.string n), .iface 4 (.bool q)]) (.int .i64 1)).run Try.prog W = .ok (.iface 9 (.string s)) W := fun W => by kernel_rfl
  have i2 : ∀ W : World, (Instr.index 54 (.agg #[.iface 3 (.int .i64 i), .iface 9 (.string s), .iface 9 (.string r), .iface 3 (.int .i64 o), .iface 9 (.string n), .iface 4 (.bool q)]) (.int .i64 2)).run Try.prog W = .ok (.iface 9 (.string r)) W := fun W => by kernel_rfl
  have i3 : ∀ W : World, (Instr.index 54 (.agg #[.iface 3 (.int .i64 i), .iface 9 (.string s), .iface 9 (.string r), .iface 3 (.int .i64 o), .iface 9 (.string n), .iface 4 (.bool q)]) (.int .i64 3)).run Try.prog W = .ok (.iface 3 (.int .i64 o)) W := fun W => by kernel_rfl
  have i4 : ∀ W : World, (Instr.index 54 (.agg #[.iface 3 (.int .i64 i), .iface 9 (.string s), .iface 9 (.string r), .iface 3 (.int .i64 o), .iface 9 (.string n), .iface 4 (.bool q)]) (.int .i64 4)).run Try.prog W = .ok (.iface 9 (.string n)) W := fun W => by kernel_rfl
  have i5 : ∀ W : World, (Instr.index 54 (.agg #[.iface 3 (.int .i64 i), .iface 9 (.string s), .iface 9 (.string r), .iface 3 (.int .i64 o), .iface 9 (.string n), .iface 4 (.bool q)]) (.int .i64 5)).run Try.prog W = .ok (.iface 4 (.bool q)) W := fun W => by kernel_rfl
  go_rounds 7
  go_returns
  refine ⟨rfl, ?_⟩
  go_grown
def boolT (_i _o : Int) (_s _r _n : ByteArray) (q : Bool) : Value := .agg #[.bool false, .bool false, .bool false, .bool false, .bool false, .bool false, .bool false, .bool false, .bool false, .bool false, .bool q, .bool true]
set_option maxRecDepth 100000 in
set_option maxHeartbeats 4000000 in
theorem told_bool (i o : Int) (s r n : ByteArray) (q : Bool) (w : World) :
    Calls Try.prog 39 #[.agg #[.iface 3 (.int .i64 i), .iface 9 (.string s), .iface 9 (.string r), .iface 3 (.int .i64 o), .iface 9 (.string n), .iface 4 (.bool q)]] w fun e w' => e = .returned (boolT i o s r n q) ∧ Below w.heap.size w w' := by
  unfold boolT
  go_enter Try.func39, Try.ntmps39
  go_wp2
  have i0 : ∀ W : World, (Instr.index 54 (.agg #[.iface 3 (.int .i64 i), .iface 9 (.string s), .iface 9 (.string r), .iface 3 (.int .i64 o), .iface 9 (.string n), .iface 4 (.bool q)]) (.int .i64 0)).run Try.prog W = .ok (.iface 3 (.int .i64 i)) W := fun W => by kernel_rfl
  have i1 : ∀ W : World, (Instr.index 54 (.agg #[.iface 3 (.int .i64 i), .iface 9 (.string s), .iface 9 (.string r), .iface 3 (.int .i64 o), .iface 9 (.string n), .iface 4 (.bool q)]) (.int .i64 1)).run Try.prog W = .ok (.iface 9 (.string s)) W := fun W => by kernel_rfl
  have i2 : ∀ W : World, (Instr.index 54 (.agg #[.iface 3 (.int .i64 i), .iface 9 (.string s), .iface 9 (.string r), .iface 3 (.int .i64 o), .iface 9 (.string n), .iface 4 (.bool q)]) (.int .i64 2)).run Try.prog W = .ok (.iface 9 (.string r)) W := fun W => by kernel_rfl
  have i3 : ∀ W : World, (Instr.index 54 (.agg #[.iface 3 (.int .i64 i), .iface 9 (.string s), .iface 9 (.string r), .iface 3 (.int .i64 o), .iface 9 (.string n), .iface 4 (.bool q)]) (.int .i64 3)).run Try.prog W = .ok (.iface 3 (.int .i64 o)) W := fun W => by kernel_rfl
  have i4 : ∀ W : World, (Instr.index 54 (.agg #[.iface 3 (.int .i64 i), .iface 9 (.string s), .iface 9 (.string r), .iface 3 (.int .i64 o), .iface 9 (.string n), .iface 4 (.bool q)]) (.int .i64 4)).run Try.prog W = .ok (.iface 9 (.string n)) W := fun W => by kernel_rfl
  have i5 : ∀ W : World, (Instr.index 54 (.agg #[.iface 3 (.int .i64 i), .iface 9 (.string s), .iface 9 (.string r), .iface 3 (.int .i64 o), .iface 9 (.string n), .iface 4 (.bool q)]) (.int .i64 5)).run Try.prog W = .ok (.iface 4 (.bool q)) W := fun W => by kernel_rfl
  go_rounds 7
  go_returns
  refine ⟨rfl, ?_⟩
  go_grown
end Go.Proofs.Ytfihbfkgkljjdaa
