/- A row of the document's values of the call's own. No condition. -/
import Derived.Test.YtncbgonanoihfaaE1
namespace Go.Own
theorem flat5 {α : Type} : ∀ (us : List (List α)) (_ : ∀ u ∈ us, u.length = 5) (j i : Nat) (_ : i < 5) (u : List α), us[j]? = some u → us.flatten[j * 5 + i]? = u[i]?
  | [], _, j, i, _, u, h => by simp at h
  | x :: us, hl, 0, i, hi, u, h => by
    simp only [List.getElem?_cons_zero, Option.some.injEq] at h
    subst h
    have hx := hl x (by simp)
    rw [List.flatten_cons, Nat.zero_mul, Nat.zero_add, List.getElem?_append_left (by omega)]
  | x :: us, hl, j + 1, i, hi, u, h => by
    have hx := hl x (by simp)
    rw [List.flatten_cons, List.getElem?_append_right (by omega)]
    rw [show (j + 1) * 5 + i - x.length = j * 5 + i by omega]
    exact flat5 us (fun v hv => hl v (by simp [hv])) j i hi u (by simpa using h)
theorem flat5_length {α : Type} : ∀ (us : List (List α)) (_ : ∀ u ∈ us, u.length = 5), us.flatten.length = us.length * 5
  | [], _ => rfl
  | x :: us, hl => by
    rw [List.flatten_cons, List.length_append, hl x (by simp), flat5_length us (fun v hv => hl v (by simp [hv])), List.length_cons]
    omega
end Go.Own
namespace Go.Proofs.Ytncbgonanoihfaa
open Go.RowKit Go.Own
theorem info24b : (Try.prog.info? 24).map (fun i => (i.zero, i.size, i.bytes)) = some (some (.agg #[.int .i64 0, .int .i64 0, .string { data := #[] }, .bool false, .slice none 0 0]), 5, 64) := by kernel_rfl
/-- The slice v holds the document's values l, in a row of the call's own; their lists lie in other blocks, from B on. -/
def RowV (w : World) (B : Nat) (v : Value) (l : List V) : Prop :=
  ∃ us : List (List Value), us.length = l.length ∧ (∀ u ∈ us, u.length = 5) ∧ w.ownsRow B 24 5 v l.length us.flatten ∧ ∀ (i : Nat) (x : V), l[i]? = some x → ∃ u, us[i]? = some u ∧ VAt w (fun b => B ≤ b ∧ v.ownBlock ≠ some b) (.agg u.toArray) x
theorem VAt.fresh {w w' : World} {S : Nat → Prop} {v : Value} {a : V} (h : VAt w S v a) (hb : Below w.heap.size w w') : VAt w' S v a :=
  h.keep (fun _ h _ => h) hb.size (fun b _ hlt => hb.block b hlt)
theorem RowV.nil (w : World) (B : Nat) : RowV w B (.slice none 0 0) [] := ⟨[], rfl, fun u hu => by simp at hu, World.ownsRow_nil w B 24 5, fun i x hx => by simp at hx⟩
theorem RowV.lt {w : World} {B : Nat} {v : Value} {l : List V} (h : RowV w B v l) : ∀ g, v.ownBlock = some g → B ≤ g ∧ g < w.heap.size := by
  obtain ⟨us, _, _, h1, _⟩ := h
  exact h1.lt
theorem RowV.shape {w : World} {B : Nat} {v : Value} {l : List V} (h : RowV w B v l) : ∃ p c, v = .slice p l.length c := by
  obtain ⟨us, _, _, h1, h2⟩ := h
  rcases h1.2 with ⟨rfl, h0⟩ | ⟨g, cap, cur, rfl, _⟩
  · rw [h0]; exact ⟨_, _, rfl⟩
  · exact ⟨_, _, rfl⟩
theorem RowV.below {w w' : World} {B : Nat} {v : Value} {l : List V} (h : RowV w B v l) (hb : Below w.heap.size w w') : RowV w' B v l := by
  obtain ⟨us, h0, h5, h1, h2⟩ := h
  refine ⟨us, h0, h5, own_kept h1 hb, fun i x hx => ?_⟩
  obtain ⟨u, hu, ha⟩ := h2 i x hx
  exact ⟨u, hu, ha.fresh hb⟩
theorem RowV.past {w w' : World} {B g : Nat} {v : Value} {l : List V} (h : RowV w B v l) (hg : w.grownBy w' (some g)) (hB : g < B) : RowV w' B v l := by
  have hlt := h.lt
  obtain ⟨us, h0, h5, h1, h2⟩ := h
  refine ⟨us, h0, h5, h1.kept hg (by
    cases hv : v.ownBlock with
    | none => exact Or.inl rfl
    | some k => exact Or.inr (by simp; have := (hlt k hv).1; omega)), fun i x hx => ?_⟩
  obtain ⟨u, hu, ha⟩ := h2 i x hx
  exact ⟨u, hu, ha.keep (fun _ h _ => h) hg.size (fun b hb _ => hg.block b (by omega) (by simp; omega))⟩
/-- The row as a value's list. -/
theorem RowV.val {w : World} {B : Nat} {v : Value} {l : List V} (h : RowV w B v l) (hl : l.length ≤ 1000000) : VAt w (fun b => B ≤ b) (.agg #[.int .i64 4, .int .i64 0, .string { data := #[] }, .bool false, v]) (.mk 4 0 { data := #[] } false l) := by
  obtain ⟨us, h0, h5, h1, h2⟩ := h
  have i4 := in_small 4 (by omega) (by omega)
  have i0 := in_small 0 (by omega) (by omega)
  rcases h1.2 with ⟨rfl, hz⟩ | ⟨g, cap, cur, rfl, hb, hg, hle, hm, hs, ht⟩
  · have : l = [] := List.eq_nil_of_length_eq_zero hz
    subst this
    exact .nil 4 0 _ false i4 i0 (by decide)
  · refine .list 4 0 _ false i4 i0 (by decide) g 0 l.length cap l (fun j => (us.getD j []).toArray) rfl hb (Array.getElem?_eq_some_iff.1 hg).1 hle (by unfold maxLen at hm; exact hm) (fun j x hx i u hu => ?_) (fun j x hx => ?_)
    · obtain ⟨t, ht2, _⟩ := h2 j x hx
      have e : us.getD j [] = t := by simp [List.getD, ht2]
      rw [e] at hu
      have h5t := h5 t (List.mem_of_getElem? ht2)
      have hi : i < 5 := by
        have := (Array.getElem?_eq_some_iff.1 hu).1
        simp at this; omega
      have hf := flat5 us h5 j i hi t ht2
      have hc := h1.cells (g := g) rfl (j * 5 + i) u (by rw [hf]; simpa using hu)
      rw [hadd] at hc
      simpa using hc
    · obtain ⟨t, ht2, ha⟩ := h2 j x hx
      have e : us.getD j [] = t := by simp [List.getD, ht2]
      simp only [e]
      exact ha.keep (fun b hb _ => hb.1) (Nat.le_refl _) (fun _ _ _ => rfl)
theorem five_new (w : World) (c0 c1 c2 c3 c4 : Value) (t : TypeId) : ∀ (j : Nat) u, [c0, c1, c2, c3, c4][j]? = some u → (w.alloc (.cells #[c0, c1, c2, c3, c4] t)).cell? ((⟨w.heap.size, 0, none⟩ : Addr).add j) = some u := fun j u h => by
  rw [hadd, cell_new]
  simpa using h
/-- An append of one of the document's values. -/
theorem wpList_pushV {ops : Array Oper} {rest : List Oper} {o : Oper} {a : Act} {Q : Exit → Act → World → Prop} {W : World} (hgd : o.guard = none) (s x : Operand)
    (ho : o.op = .call { callee := .builtin .append, args := #[s, x], argTypes := #[22, 22] }) (w : World) (B : Nat) (v : Value) (l : List V) (y : V) (c0 c1 c2 c3 c4 : Value) (hW : W = w.alloc (.cells #[c0, c1, c2, c3, c4] 24)) (hs : a.eval s = v) (hrow : RowV w B v l)
    (hr : VAt w (fun b => B ≤ b ∧ v.ownBlock ≠ some b) (.agg #[c0, c1, c2, c3, c4]) y) (hx : a.eval x = .slice (some ⟨w.heap.size, 0, none⟩) 1 1) (hlen : l.length ≤ 1000000) (hB : B ≤ w.heap.size)
    (h : ∀ v' w', RowV w' B v' (l ++ [y]) → Below B w w' → wpList Try.prog ops Q rest (a.put o.dst v') w') : wpList Try.prog ops Q (o :: rest) a W := by
  subst hW
  obtain ⟨i0, hi, hz0, hz1, hz2⟩ := info_parts info24b
  obtain ⟨us, h0, h5, hown, hall⟩ := hrow
  have hone := VAt.ones hr
  refine wpList_append_lies _ hgd s x 22 ho B 24 i0 _ 5 64 Try.underlying22 hi hz0 hz1 hz2 rfl (by decide) v l.length us.flatten hs (hown.alloc _) ⟨w.heap.size, 0, none⟩ 1 1 [c0, c1, c2, c3, c4] hx rfl (five_new _ _ _ _ _ _ _)
    (fun u hu => (Array.all_eq_true_iff_forall_mem.1 hone) u (by simpa using hu)) (by decide) (by unfold maxLen; omega) (by omega) (by simp; omega) (w.heap.size + 1) (by simp) ?_
  intro g cap w1 hown1 hgr hat _
  have hsz : w.heap.size ≤ w1.heap.size := by have := hgr.size; simp at this; omega
  have keep : ∀ {u x}, VAt w (fun b => B ≤ b ∧ v.ownBlock ≠ some b) u x → VAt w1 (fun b => B ≤ b ∧ (Value.slice (some ⟨g, 0, none⟩) (l.length + 1) cap).ownBlock ≠ some b) u x := fun {u x} h => by
    refine h.keep (fun b hb hlt => ⟨hb.1, fun e => ?_⟩) hsz (fun b hb hlt => ?_)
    · simp only [Value.ownBlock, Option.some.injEq] at e
      subst e
      rcases hat with h | h
      · exact hb.2 h
      · omega
    · rw [hgr.block b (by simp; omega) (fun e => hb.2 e.symm)]
      exact heap_alloc_old w _ hlt
  refine h _ w1 ⟨us ++ [[c0, c1, c2, c3, c4]], by simp [h0], fun u hu => ?_, by simpa using hown1, fun i z hz => ?_⟩ (((Below.refl B w).alloc hB _).grown hgr (by simp; omega) (fun k hk => (hown.lt k hk).1))
  · rcases List.mem_append.1 hu with hu | hu
    · exact h5 u hu
    · simp at hu; rw [hu]; rfl
  · rcases Nat.lt_or_ge i l.length with hil | hil
    · rw [List.getElem?_append_left hil] at hz
      obtain ⟨u', hu', ha⟩ := hall i z hz
      exact ⟨u', by rw [List.getElem?_append_left (by omega)]; exact hu', keep ha⟩
    · rw [List.getElem?_append_right hil] at hz
      have hi0 : i - l.length = 0 := by
        have := (List.getElem?_eq_some_iff.1 hz).1
        simp at this; omega
      rw [hi0] at hz
      simp at hz
      subst hz
      exact ⟨[c0, c1, c2, c3, c4], by rw [List.getElem?_append_right (by omega), h0, hi0]; rfl, keep hr⟩
theorem Blk.set4 {w : World} {B : Nat} {a b c d e : Value} (h : Blk w B #[a, b, c, d, e]) (v : Value) : Blk (w.setCell ⟨B, 4, none⟩ v) B #[a, b, c, d, v] := by
  unfold Blk at h ⊢
  simp [World.setCell, Array.getElem?_modify, h]
end Go.Proofs.Ytncbgonanoihfaa
