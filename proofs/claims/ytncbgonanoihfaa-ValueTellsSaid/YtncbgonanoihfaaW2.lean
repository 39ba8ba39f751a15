/- A row of values of the call's own. No condition. -/
import Derived.Test.YtncbgonanoihfaaW1
import Derived.Deep.AppendLies
namespace Go.Proofs.Ytncbgonanoihfaa
open Go.RowKit Go.Own
theorem info20 : (Try.prog.info? 20).map (fun i => (i.zero, i.size, i.bytes)) = some (some .nilIface, 1, 16) := by kernel_rfl
/-- The slice v holds the values l, in a row of the call's own; their lists lie in other blocks, from B on. -/
def RowA (w : World) (B : Nat) (v : Value) (l : List A) : Prop :=
  ∃ us, w.ownsRow B 20 1 v l.length us ∧ ∀ (i : Nat) (x : A), l[i]? = some x → ∃ u, us[i]? = some u ∧ AAt w (fun b => B ≤ b ∧ v.ownBlock ≠ some b) u x
theorem AAt.fresh {w w' : World} {S : Nat → Prop} {v : Value} {a : A} (h : AAt w S v a) (hb : Below w.heap.size w w') : AAt w' S v a :=
  h.keep (fun _ h _ => h) hb.size (fun b _ hlt => hb.block b hlt)
theorem grown_of_below {w w' : World} (h : Below w.heap.size w w') (row : Option Nat) : w.grownBy w' row := ⟨h.os, h.tape, h.output, h.size, fun k hk _ => h.block k hk⟩
theorem own_kept {w w' : World} {B E z n : Nat} {v : Value} {xs : List Value} (h : w.ownsRow B E z v n xs) (hb : Below w.heap.size w w') : w'.ownsRow B E z v n xs :=
  h.kept (grown_of_below hb none) (by cases hv : v.ownBlock <;> simp)
theorem RowA.below {w w' : World} {B : Nat} {v : Value} {l : List A} (h : RowA w B v l) (hb : Below w.heap.size w w') : RowA w' B v l := by
  obtain ⟨us, h1, h2⟩ := h
  refine ⟨us, own_kept h1 hb, fun i x hx => ?_⟩
  obtain ⟨u, hu, ha⟩ := h2 i x hx
  exact ⟨u, hu, ha.fresh hb⟩
theorem RowA.lt {w : World} {B : Nat} {v : Value} {l : List A} (h : RowA w B v l) : ∀ g, v.ownBlock = some g → B ≤ g ∧ g < w.heap.size := by
  obtain ⟨us, h1, h2⟩ := h
  exact h1.lt
theorem RowA.shape {w : World} {B : Nat} {v : Value} {l : List A} (h : RowA w B v l) : ∃ p c, v = .slice p l.length c := by
  obtain ⟨us, h1, h2⟩ := h
  rcases h1.2 with ⟨rfl, h0⟩ | ⟨g, cap, cur, rfl, _⟩
  · rw [h0]; exact ⟨_, _, rfl⟩
  · exact ⟨_, _, rfl⟩
theorem RowA.has {w : World} {B : Nat} {v : Value} {l : List A} (h : RowA w B v l) : AAt w (fun b => B ≤ b) (.iface 48 v) (.list l) := by
  obtain ⟨us, h1, h2⟩ := h
  rcases h1.2 with ⟨rfl, h0⟩ | ⟨g, cap, cur, rfl, hb, hg, hle, hm, hs, ht⟩
  · have : l = [] := List.eq_nil_of_length_eq_zero h0
    subst this
    exact .nil
  · refine .list g 0 l.length cap l (fun j => us.getD j .nilIface) rfl hb (Array.getElem?_eq_some_iff.1 hg).1 hle (by unfold maxLen at hm; exact hm) (fun j x hx => ?_) (fun j x hx => ?_)
    · obtain ⟨u, hu, _⟩ := h2 j x hx
      have := h1.cells (g := g) rfl j u hu
      rw [hadd] at this
      rw [this]
      simp [List.getD, hu]
    · obtain ⟨u, hu, ha⟩ := h2 j x hx
      have e : us.getD j .nilIface = u := by simp [List.getD, hu]
      rw [e]
      exact ha.keep (fun b hb _ => hb.1) (Nat.le_refl _) (fun _ _ _ => rfl)
theorem RowA.nil (w : World) (B : Nat) : RowA w B (.slice none 0 0) [] := ⟨[], World.ownsRow_nil w B 20 1, fun i x hx => by simp at hx⟩
theorem RowA.made {w : World} {B : Nat} (hB : B ≤ w.heap.size) (cur : Array Value) (cap : Nat) (hc : cap ≤ 9223372036854775807) (hs : cur.size = cap) : RowA (w.alloc (.cells cur 20)) B (.slice (some ⟨w.heap.size, 0, none⟩) 0 cap) [] :=
  ⟨[], World.ownsRow_made w cur cap hB (by unfold maxLen; exact hc) (by omega), fun i x hx => by simp at hx⟩
/-- One more. -/
theorem RowA.snoc {w w1 : World} {B : Nat} {v : Value} {l : List A} {us : List Value} {u : Value} {x : A} {o : Obj} {g cap : Nat}
    (h2 : ∀ (i : Nat) (x : A), l[i]? = some x → ∃ u, us[i]? = some u ∧ AAt w (fun b => B ≤ b ∧ v.ownBlock ≠ some b) u x) (hu : AAt w (fun b => B ≤ b ∧ v.ownBlock ≠ some b) u x) (hul : us.length = l.length)
    (hown : w1.ownsRow B 20 1 (.slice (some ⟨g, 0, none⟩) (l.length + 1) cap) (l.length + 1) (us ++ [u])) (hg : (w.alloc o).grownBy w1 v.ownBlock) (hat : v.ownBlock = some g ∨ g = w.heap.size + 1) :
    RowA w1 B (.slice (some ⟨g, 0, none⟩) (l.length + 1) cap) (l ++ [x]) := by
  have hsz : w.heap.size ≤ w1.heap.size := by have := hg.size; simp at this; omega
  have keep : ∀ {u x}, AAt w (fun b => B ≤ b ∧ v.ownBlock ≠ some b) u x → AAt w1 (fun b => B ≤ b ∧ (Value.slice (some ⟨g, 0, none⟩) (l.length + 1) cap).ownBlock ≠ some b) u x := fun {u x} h => by
    refine h.keep (fun b hb hlt => ⟨hb.1, fun e => ?_⟩) hsz (fun b hb hlt => ?_)
    · simp only [Value.ownBlock, Option.some.injEq] at e
      subst e
      rcases hat with h | h
      · exact hb.2 h
      · omega
    · rw [hg.block b (by simp; omega) (fun e => hb.2 e.symm)]
      exact heap_alloc_old w o hlt
  refine ⟨us ++ [u], by simpa using hown, fun i y hy => ?_⟩
  rcases Nat.lt_or_ge i l.length with hi | hi
  · rw [List.getElem?_append_left hi] at hy
    obtain ⟨u', hu', ha⟩ := h2 i y hy
    exact ⟨u', by rw [List.getElem?_append_left (by omega)]; exact hu', keep ha⟩
  · rw [List.getElem?_append_right hi] at hy
    have hi0 : i - l.length = 0 := by
      have := (List.getElem?_eq_some_iff.1 hy).1
      simp at this; omega
    rw [hi0] at hy
    simp at hy
    subst hy
    exact ⟨u, by rw [List.getElem?_append_right (by omega), hul, hi0]; rfl, keep hu⟩
theorem AAt.one {w : World} {S : Nat → Prop} {v : Value} {a : A} (h : AAt w S v a) : v.oneCell' = true := by cases h <;> rfl
theorem one_new (w : World) (a : Value) (t : TypeId) : ∀ (j : Nat) u, [a][j]? = some u → (w.alloc (.cells #[a] t)).cell? ((⟨w.heap.size, 0, none⟩ : Addr).add j) = some u := fun j u h => by
  rw [hadd, cell_new]
  simpa using h
theorem one_one {a : Value} (h : a.oneCell' = true) : ∀ u ∈ [a], u.oneCell' = true := fun u hu => by
  simp at hu; subst hu; exact h
theorem AAt.form {w : World} {S : Nat → Prop} {v : Value} {a : A} (h : AAt w S v a) : (∃ t u, v = .iface t u) ∨ v = .nilIface := by
  cases h
  all_goals first | exact Or.inl ⟨_, _, rfl⟩ | exact Or.inr rfl
theorem bs_one {v : Value} (h : (∃ t u, v = .iface t u) ∨ v = .nilIface) (W : World) : (Instr.buildSlice 48 1 #[(0, v)]).run Try.prog W = .ok (.slice (some ⟨W.heap.size, 0, none⟩) 1 1) (W.alloc (.cells #[v] 20)) := by
  rcases h with ⟨t, u, rfl⟩ | rfl
  · kernel_rfl
  · kernel_rfl
/-- An append of one value. -/
theorem wpList_push {ops : Array Oper} {rest : List Oper} {o : Oper} {a : Act} {Q : Exit → Act → World → Prop} {W : World} (hgd : o.guard = none) (s x : Operand)
    (ho : o.op = .call { callee := .builtin .append, args := #[s, x], argTypes := #[48, 48] }) (w : World) (B : Nat) (v : Value) (l : List A) (y : A) (r : Value) (hW : W = w.alloc (.cells #[r] 20)) (hs : a.eval s = v) (hrow : RowA w B v l)
    (hr : AAt w (fun b => B ≤ b ∧ v.ownBlock ≠ some b) r y) (hx : a.eval x = .slice (some ⟨w.heap.size, 0, none⟩) 1 1) (hlen : l.length ≤ 1000000) (hB : B ≤ w.heap.size)
    (h : ∀ v' w', RowA w' B v' (l ++ [y]) → Below B w w' → wpList Try.prog ops Q rest (a.put o.dst v') w') : wpList Try.prog ops Q (o :: rest) a W := by
  subst hW
  obtain ⟨i0, hi, hz0, hz1, hz2⟩ := info_parts info20
  obtain ⟨us, hown, hall⟩ := hrow
  refine wpList_append_lies _ hgd s x 48 ho B 20 i0 .nilIface 1 16 Try.underlying48 hi hz0 hz1 hz2 rfl (by decide) v l.length us hs (hown.alloc _) ⟨w.heap.size, 0, none⟩ 1 1 [r] hx rfl (one_new _ _ _) (one_one hr.one) (by decide) (by unfold maxLen; omega) (by omega) (by simp; omega) (w.heap.size + 1) (by simp) ?_
  intro g cap w1 hown1 hgr hat _
  refine h _ w1 (RowA.snoc hall hr (by have := hown.1; omega) hown1 hgr hat) ?_
  exact ((Below.refl B w).alloc hB _).grown hgr (by simp; omega) (fun k hk => (hown.lt k hk).1)
end Go.Proofs.Ytncbgonanoihfaa
