/- Lists of one value and of two; more operations by themselves. No condition. -/
import Derived.Test.YtncbgonanoihfaaR4
import Derived.Test.YtncbgonanoihfaaD3
namespace Go.Proofs.Ytncbgonanoihfaa
open Go.RowKit Go.Own
theorem wpList_build1 {ops : Array Oper} {rest : List Oper} {a : Act} {Q : Exit → Act → World → Prop} {w : World} {d s : Nat} {ty : TypeId} {pos : String} {after : Array Edge} (v : Value) (hv : a.eval (.tmp s) = v) (hf : (∃ t u, v = .iface t u) ∨ v = .nilIface)
    (h : wpList Try.prog ops Q rest (a.put (some d) (.slice (some ⟨w.heap.size, 0, none⟩) 1 1)) (w.alloc (.cells #[v] 20))) :
    wpList Try.prog ops Q ({ dst := some d, op := .buildSlice 48 1 #[(0, .tmp s)], type := ty, pos := pos, after := after, guard := none } :: rest) a w := by
  refine wpList_plain rfl fun K hK => ?_
  have e := bs_one hf w
  unfold Oper.wp
  simp [execOp, hv, e, Result.andThen]
  exact hK _ _ h
theorem has_list {w : World} {b : Nat} {cs : List Value} {xs : List A} (hb : w.heap[b]? = some (.cells cs.toArray 20 (0, 0))) (hl : cs.length = xs.length) (hn : xs.length ≤ 1000) (h : ∀ (j : Nat) (x : A), xs[j]? = some x → ∃ v, cs[j]? = some v ∧ Has w v x) :
    Has w (.iface 48 (.slice (some ⟨b, 0, none⟩) xs.length xs.length)) (.list xs) := by
  refine .list b 0 xs.length xs.length xs (fun j => cs.getD j .nilIface) rfl trivial (Array.getElem?_eq_some_iff.1 hb).1 (Nat.le_refl _) (by omega) (fun j x hx => ?_) (fun j x hx => ?_)
  · obtain ⟨v, hv, _⟩ := h j x hx
    simp only [World.cell?, hb, Option.isSome_none, Bool.false_eq_true, if_false]
    simp [hv]
  · obtain ⟨v, hv, hh⟩ := h j x hx
    simp only [List.getD_eq_getElem?_getD, hv, Option.getD_some]
    exact hh
theorem has_one {w : World} {v : Value} {x : A} (h : Has w v x) : Has (w.alloc (.cells #[v] 20)) (.iface 48 (.slice (some ⟨w.heap.size, 0, none⟩) 1 1)) (.list [x]) :=
  has_list (cs := [v]) (xs := [x]) (heap_alloc_new w _) rfl (by simp) (fun j y hy => by
    cases j with
    | zero => simp at hy; subst hy; exact ⟨v, rfl, h.below ((Below.refl _ _).alloc (Nat.le_refl _) _)⟩
    | succ j => simp at hy)
theorem has_two {w : World} {v u : Value} {x y : A} (h : Has w v x) (g : Has w u y) : Has (w.alloc (.cells #[v, u] 20)) (.iface 48 (.slice (some ⟨w.heap.size, 0, none⟩) 2 2)) (.list [x, y]) :=
  has_list (cs := [v, u]) (xs := [x, y]) (heap_alloc_new w _) rfl (by simp) (fun j z hz => by
    match j, hz with
    | 0, hz => simp at hz; subst hz; exact ⟨v, rfl, h.below ((Below.refl _ _).alloc (Nat.le_refl _) _)⟩
    | 1, hz => simp at hz; subst hz; exact ⟨u, rfl, g.below ((Below.refl _ _).alloc (Nat.le_refl _) _)⟩
    | j + 2, hz => simp at hz)
theorem bs_two {v u : Value} (h : (∃ t u, v = .iface t u) ∨ v = .nilIface) (g : (∃ t z, u = .iface t z) ∨ u = .nilIface) (W : World) : (Instr.buildSlice 48 2 #[(0, v), (1, u)]).run Try.prog W = .ok (.slice (some ⟨W.heap.size, 0, none⟩) 2 2) (W.alloc (.cells #[v, u] 20)) := by
  rcases h with ⟨t, z, rfl⟩ | rfl
  · rcases g with ⟨t', z', rfl⟩ | rfl
    · kernel_rfl
    · kernel_rfl
  · rcases g with ⟨t', z', rfl⟩ | rfl
    · kernel_rfl
    · kernel_rfl
theorem ld_any {W : World} {b o : Nat} {v : Value} (h : W.cell? ⟨b, o, none⟩ = some v) : (Instr.loadAt 20 (.pointer (some ⟨b, o, none⟩))).run Try.prog W = .ok v W := by
  have ha : (isAgg 20).run Try.prog W = .ok false W := by kernel_rfl
  simp [Instr.loadAt, Instr.sureAddr, loadVar, ha, h, go_sem]
section
variable {ρ : Operand → Value} {W W' : World} {dst : Option Tmp} {ty : TypeId} {pos : String} {after : Array Edge} {guard : Option (Nat × Bool)} {v u r : Value} {x y z : Operand}
theorem exec_build2 {v u : Value} (h1 : ρ x = v) (h2 : ρ y = u) (hf : (∃ t u, v = .iface t u) ∨ v = .nilIface) (hg : (∃ t z, u = .iface t z) ∨ u = .nilIface) :
    (execOp ρ { dst, op := .buildSlice 48 2 #[(0, x), (1, y)], type := ty, pos, after, guard }).run Try.prog W = .ok (.value (.slice (some ⟨W.heap.size, 0, none⟩) 2 2)) (W.alloc (.cells #[v, u] 20)) := by
  have e := bs_two hf hg W
  simp [execOp, h1, h2, e, Result.andThen]
theorem exec_mk {v : Value} (h1 : ρ x = v) : (execOp ρ { dst, op := .makeInterface 48 x, type := ty, pos, after, guard }).run Try.prog W = .ok (.value (.iface 48 v)) W := by
  subst h1; kernel_rfl
theorem exec_ext0 {a b : Value} (h1 : ρ x = .tuple #[a, b]) : (execOp ρ { dst, op := .extract x 0, type := ty, pos, after, guard }).run Try.prog W = .ok (.value a) W := by
  simp [execOp, h1, go_sem]
theorem exec_ext1 {a b : Value} (h1 : ρ x = .tuple #[a, b]) : (execOp ρ { dst, op := .extract x 1, type := ty, pos, after, guard }).run Try.prog W = .ok (.value b) W := by
  simp [execOp, h1, go_sem]
theorem exec_pick {b : Bool} (h1 : ρ x = .bool true) (h2 : ρ y = .bool b) : (execOp ρ { dst, op := .pick x y z, type := ty, pos, after, guard }).run Try.prog W = .ok (.value (.bool b)) W := by
  simp [execOp, h1, h2, go_sem]
theorem exec_eql0 {T T' : TypeId} {n : Int} (hT : T = 27 ∨ T = 3) (h1 : ρ x = .int .i64 n) (h2 : ρ y = .int .i64 n) : (execOp ρ { dst, op := .binOp .eql T x y T', type := ty, pos, after, guard }).run Try.prog W = .ok (.value (.bool true)) W := by
  rcases hT with rfl | rfl <;> simp [execOp, h1, h2, go_sem]
theorem exec_eqls {T' : TypeId} {s : ByteArray} (h1 : ρ x = .string s) (h2 : ρ y = .string s) : (execOp ρ { dst, op := .binOp .eql 9 x y T', type := ty, pos, after, guard }).run Try.prog W = .ok (.value (.bool true)) W := by
  simp [execOp, h1, h2, go_sem]
theorem exec_adds {s t : ByteArray} (h1 : ρ x = .string s) (h2 : ρ y = .string t) (hs : s.size + t.size ≤ 9223372036854775807) : (execOp ρ { dst, op := .binOp .add 9 x y 9, type := ty, pos, after, guard }).run Try.prog W = .ok (.value (.string (s ++ t))) W := by
  have hadd : (Op.stringOp .add s t).run Try.prog W = .ok (.string (s ++ t)) W := run_string_add_sum W s t hs
  simp [execOp, h1, h2, go_sem, hadd, Result.andThen]
theorem exec_from {s : ByteArray} (h0 : ρ (.const (.int .i64 2)) = .int .i64 2) (h1 : ρ x = .string s) (hs : 2 ≤ s.size) : (execOp ρ { dst, op := .slice 9 x (some (.const (.int .i64 2))) none none, type := ty, pos, after, guard }).run Try.prog W = .ok (.value (.string (s.extract 2 s.size))) W := by
  simp [execOp, h0, h1, go_sem]
  intro h
  omega
theorem exec_to {s : ByteArray} (h0 : ρ (.const (.int .i64 2)) = .int .i64 2) (h1 : ρ x = .string s) (hs : 2 ≤ s.size) : (execOp ρ { dst, op := .slice 9 x none (some (.const (.int .i64 2))) none, type := ty, pos, after, guard }).run Try.prog W = .ok (.value (.string (s.extract 0 2))) W := by
  simp [execOp, h0, h1, go_sem]
  intro h
  omega
theorem exec_len {p : Option Addr} {n c : Nat} {t : TypeId} (h1 : ρ x = .slice p n c) : (execOp ρ { dst, op := .call { callee := .builtin .len, args := #[x], argTypes := #[48] }, type := t, pos, after, guard }).run Try.prog W = .ok (.value (.int .i64 (n : Int))) W := by
  simp [h1, go_sem]
theorem exec_at {b o n c : Nat} (k : Nat) (h0 : ρ (.const (.int .i64 (k : Int))) = .int .i64 (k : Int)) (h1 : ρ x = .slice (some ⟨b, o, none⟩) n c) (hk : k < n) : (execOp ρ { dst, op := .indexAddr 48 x (.const (.int .i64 (k : Int))), type := ty, pos, after, guard }).run Try.prog W = .ok (.value (.pointer (some ⟨b, o + k, none⟩))) W := by
  simp [execOp, h0, h1, go_sem, hk]
end
end Go.Proofs.Ytncbgonanoihfaa
