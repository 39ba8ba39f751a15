/- What a value is told by its type. No condition. -/
import Derived.Test.YtncbgonanoihfaaProg
import Derived.WalkKit
namespace Go.Proofs.Ytncbgonanoihfaa
open Go.RowKit
@[go_sem ↓] theorem ta_3_3 (u : Value) (w : World) : (Instr.typeAssert (.iface 3 u) 20 3 true).run Try.prog w = .ok (.tuple #[u, .bool true]) w := by kernel_rfl
@[go_sem ↓] theorem ta_9_3 (u : Value) (w : World) : (Instr.typeAssert (.iface 9 u) 20 3 true).run Try.prog w = .ok (.tuple #[.int .i64 0, .bool false]) w := by kernel_rfl
@[go_sem ↓] theorem ta_4_3 (u : Value) (w : World) : (Instr.typeAssert (.iface 4 u) 20 3 true).run Try.prog w = .ok (.tuple #[.int .i64 0, .bool false]) w := by kernel_rfl
@[go_sem ↓] theorem ta_48_3 (u : Value) (w : World) : (Instr.typeAssert (.iface 48 u) 20 3 true).run Try.prog w = .ok (.tuple #[.int .i64 0, .bool false]) w := by kernel_rfl
@[go_sem ↓] theorem ta_54_3 (u : Value) (w : World) : (Instr.typeAssert (.iface 54 u) 20 3 true).run Try.prog w = .ok (.tuple #[.int .i64 0, .bool false]) w := by kernel_rfl
@[go_sem ↓] theorem ta_nil_3 (w : World) : (Instr.typeAssert .nilIface 20 3 true).run Try.prog w = .ok (.tuple #[.int .i64 0, .bool false]) w := by kernel_rfl
@[go_sem ↓] theorem ta_3_9 (u : Value) (w : World) : (Instr.typeAssert (.iface 3 u) 20 9 true).run Try.prog w = .ok (.tuple #[.string { data := #[] }, .bool false]) w := by kernel_rfl
@[go_sem ↓] theorem ta_9_9 (u : Value) (w : World) : (Instr.typeAssert (.iface 9 u) 20 9 true).run Try.prog w = .ok (.tuple #[u, .bool true]) w := by kernel_rfl
@[go_sem ↓] theorem ta_4_9 (u : Value) (w : World) : (Instr.typeAssert (.iface 4 u) 20 9 true).run Try.prog w = .ok (.tuple #[.string { data := #[] }, .bool false]) w := by kernel_rfl
@[go_sem ↓] theorem ta_48_9 (u : Value) (w : World) : (Instr.typeAssert (.iface 48 u) 20 9 true).run Try.prog w = .ok (.tuple #[.string { data := #[] }, .bool false]) w := by kernel_rfl
@[go_sem ↓] theorem ta_54_9 (u : Value) (w : World) : (Instr.typeAssert (.iface 54 u) 20 9 true).run Try.prog w = .ok (.tuple #[.string { data := #[] }, .bool false]) w := by kernel_rfl
@[go_sem ↓] theorem ta_nil_9 (w : World) : (Instr.typeAssert .nilIface 20 9 true).run Try.prog w = .ok (.tuple #[.string { data := #[] }, .bool false]) w := by kernel_rfl
@[go_sem ↓] theorem ta_3_4 (u : Value) (w : World) : (Instr.typeAssert (.iface 3 u) 20 4 true).run Try.prog w = .ok (.tuple #[.bool false, .bool false]) w := by kernel_rfl
@[go_sem ↓] theorem ta_9_4 (u : Value) (w : World) : (Instr.typeAssert (.iface 9 u) 20 4 true).run Try.prog w = .ok (.tuple #[.bool false, .bool false]) w := by kernel_rfl
@[go_sem ↓] theorem ta_4_4 (u : Value) (w : World) : (Instr.typeAssert (.iface 4 u) 20 4 true).run Try.prog w = .ok (.tuple #[u, .bool true]) w := by kernel_rfl
@[go_sem ↓] theorem ta_48_4 (u : Value) (w : World) : (Instr.typeAssert (.iface 48 u) 20 4 true).run Try.prog w = .ok (.tuple #[.bool false, .bool false]) w := by kernel_rfl
@[go_sem ↓] theorem ta_54_4 (u : Value) (w : World) : (Instr.typeAssert (.iface 54 u) 20 4 true).run Try.prog w = .ok (.tuple #[.bool false, .bool false]) w := by kernel_rfl
@[go_sem ↓] theorem ta_nil_4 (w : World) : (Instr.typeAssert .nilIface 20 4 true).run Try.prog w = .ok (.tuple #[.bool false, .bool false]) w := by kernel_rfl
@[go_sem ↓] theorem ta_3_48 (u : Value) (w : World) : (Instr.typeAssert (.iface 3 u) 20 48 true).run Try.prog w = .ok (.tuple #[.slice none 0 0, .bool false]) w := by kernel_rfl
@[go_sem ↓] theorem ta_9_48 (u : Value) (w : World) : (Instr.typeAssert (.iface 9 u) 20 48 true).run Try.prog w = .ok (.tuple #[.slice none 0 0, .bool false]) w := by kernel_rfl
@[go_sem ↓] theorem ta_4_48 (u : Value) (w : World) : (Instr.typeAssert (.iface 4 u) 20 48 true).run Try.prog w = .ok (.tuple #[.slice none 0 0, .bool false]) w := by kernel_rfl
@[go_sem ↓] theorem ta_48_48 (u : Value) (w : World) : (Instr.typeAssert (.iface 48 u) 20 48 true).run Try.prog w = .ok (.tuple #[u, .bool true]) w := by kernel_rfl
@[go_sem ↓] theorem ta_54_48 (u : Value) (w : World) : (Instr.typeAssert (.iface 54 u) 20 48 true).run Try.prog w = .ok (.tuple #[.slice none 0 0, .bool false]) w := by kernel_rfl
@[go_sem ↓] theorem ta_nil_48 (w : World) : (Instr.typeAssert .nilIface 20 48 true).run Try.prog w = .ok (.tuple #[.slice none 0 0, .bool false]) w := by kernel_rfl
end Go.Proofs.Ytncbgonanoihfaa
