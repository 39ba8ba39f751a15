/- append to rows of pairs; a context with a pair more, and one with a value changed, plainly. No condition but that rows are small. -/
import Derived.Test.YtbfcbffmgdijfaaP2
import Derived.Deep.AppendSrc
namespace Go.Proofs.Ytbfcbffmgdijfaa
open Go.RowKit Go.Own
/-- What comes behind: pairs out of a slice that may be nil. -/
theorem src_pairs {W : World} {p : Option Addr} {n cap : Nat} {L : List P2} (hP : PsC W (.slice p n cap) L) (i : TypeInfo) (hi : i.size = 2) : Src Try.prog i.size 22 (.slice p n cap) n (cellsP L) W := by
  have hn := hP.cap_le.1
  cases p with
  | none =>
    have hL : L = [] := by
      cases L with
      | nil => rfl
      | cons x L =>
        obtain ⟨b, o, e, _⟩ := hP.at (k := 0) (x := x) rfl
        cases e
    subst hL
    subst hn
    exact Src.ofNil W Try.underlying22 cap
  | some a =>
    refine Src.ofSlice W Try.underlying22 a n cap (cellsP L) (by rw [cellsP_length, hn, hi]) (fun j u hu => ?_) (cellsP_one L)
    obtain ⟨p', cap', e, _, hc⟩ := hP
    simp only [Value.slice.injEq] at e
    obtain ⟨e1, _, _⟩ := e
    obtain ⟨b, o, e2, h⟩ := hc j u hu
    rw [← e1] at e2
    obtain rfl := Option.some.inj e2
    have hadd : (⟨b, o, none⟩ : Addr).add j = ⟨b, o + j, none⟩ := by unfold Addr.add; split <;> simp_all
    rw [hadd]; exact h
theorem info39b : ∃ i, Try.prog.info? 39 = some i ∧ i.zero = some (.agg #[.string { data := #[] }, .string { data := #[] }]) ∧ i.size = 2 ∧ i.bytes = 32 := by
  obtain ⟨i, h1, h2, h3, h4⟩ := info_parts info39
  exact ⟨i, h1, h2, h3, h4⟩
theorem first0 (W : World) (g k : Nat) : (Builtin.firstCells k 0 (.slice (some ⟨g, 0, none⟩) 0 0)).run Try.prog W = .ok (([] : List Value).toArray) W := by
  simp [Builtin.firstCells, loadCells, loadCellsFrom]
/-- Behind a row without room. -/
theorem app_fresh {W : World} {B g : Nat} (hg : B ≤ g) (hb : W.heap[g]? = some (.cells #[] 39 (0, 0))) {p : Option Addr} {n cap : Nat} {L : List P2} (hP : PsC W (.slice p n cap) L) (hn : n ≤ 100000) (hB : B ≤ W.heap.size) (ty : TypeId) :
    ∃ v' W', (Builtin.append_ #[22, 22] ty #[.slice (some ⟨g, 0, none⟩) 0 0, .slice p n cap]).run Try.prog W = .ok v' W' ∧ OwnP W' B v' L ∧ Below W.heap.size W W' := by
  obtain ⟨i, hi, hz, h2, h32⟩ := info39b
  have hs := src_pairs hP i h2
  have hnl := hP.cap_le.1
  by_cases h0 : n = 0
  · subst h0
    have hL : L = [] := List.eq_nil_of_length_eq_zero hnl.symm
    subst hL
    refine ⟨.slice (some ⟨g, 0, none⟩) 0 0, W, ?_, ⟨rfl, Or.inr ⟨g, 0, #[], rfl, hg, hb, Nat.le_refl _, Nat.zero_le _, rfl, rfl⟩⟩, Below.refl _ _⟩
    have := run_append_room_src (P := Try.prog) W 22 22 ty 39 i Try.underlying22 hi g 0 0 0 (.slice p 0 cap) 0 (cellsP []) hs (by omega) (fun j hj => by simp [cellsP] at hj) (fun j hj => by simp [cellsP] at hj)
    simpa [cellsP, World.setCells] using this
  · have hr := run_append_grow_src (P := Try.prog) W 22 22 ty 39 i _ Try.underlying22 hi hz (some ⟨g, 0, none⟩) 0 0 [] (first0 _ _ _) (.slice p n cap) n (cellsP L) hs (by omega) (by omega) (growslice_fits (by omega) (by rw [h32]; omega))
    have hge := grownCap_ge W (0 + n) 0 39
    have hle := grownCap_le_maxLen W (0 + n) 0 39 (by unfold maxLen; omega)
    rw [Nat.zero_add] at hr hge hle
    refine ⟨_, _, hr, ⟨cellsP_length L, Or.inr ⟨W.heap.size, grownCap W n 0 39, _, ?_, hB, heap_alloc_new W.drew _, ?_, hle, ?_, ?_⟩⟩, ?_⟩
    · rw [hnl]
    · omega
    · simp [size_zeroCells, cellsP_length, Value.cells]; omega
    · simp only [List.nil_append, Array.toList_append]
      rw [← cellsP_length L]
      exact List.take_left
    · exact (Below.refl W.heap.size W).drew.alloc (by simp) _
/-- Behind a row of the call's own. -/
theorem app_own {W : World} {B : Nat} {v : Value} {M : List P2} (hown : OwnP W B v M) {p : Option Addr} {n cap : Nat} {L : List P2} (hP : PsC W (.slice p n cap) L) (hn : M.length + n ≤ 100000) (hB : B ≤ W.heap.size) (ty : TypeId) :
    ∃ v' W', (Builtin.append_ #[22, 22] ty #[v, .slice p n cap]).run Try.prog W = .ok v' W' ∧ OwnP W' B v' (M ++ L) ∧ W.grownBy W' v.ownBlock := by
  obtain ⟨i, hi, hz, h2, h32⟩ := info39b
  have hnl := hP.cap_le.1
  by_cases h0 : n = 0
  · subst h0
    have hL : L = [] := List.eq_nil_of_length_eq_zero hnl.symm
    subst hL
    have hs := src_pairs hP i h2
    rw [List.append_nil]
    refine ⟨v, W, ?_, hown, ⟨rfl, rfl, rfl, Nat.le_refl _, fun _ _ _ => rfl⟩⟩
    rcases hown.2 with ⟨rfl, hM⟩ | ⟨g, c, cur, rfl, _, hg, hc, _⟩
    · cases p with
      | none => simp [Builtin.append_, run_underlying Try.underlying22, sizeOf, typeInfo, hi, Builtin.lenOf, Builtin.firstCells]
      | some a => simp [Builtin.append_, run_underlying Try.underlying22, sizeOf, typeInfo, hi, Builtin.lenOf, Builtin.firstCells, loadCells, loadCellsFrom]
    · have := run_append_room_src (P := Try.prog) W 22 22 ty 39 i Try.underlying22 hi g 0 M.length c (.slice p 0 cap) 0 (cellsP []) hs (by omega) (fun j hj => by simp [cellsP] at hj) (fun j hj => by simp [cellsP] at hj)
      simpa [cellsP, World.setCells] using this
  · cases p with
    | none =>
      obtain ⟨x, hx⟩ : ∃ x, L[0]? = some x := ⟨_, List.getElem?_eq_getElem (by omega)⟩
      obtain ⟨b, o, e, _⟩ := hP.at hx
      cases e
    | some a =>
      have hs := src_pairs hP i h2
      obtain ⟨v', W', hr, hown', hg, _⟩ := run_append_own (P := Try.prog) W B 22 ty 39 i _ 2 32 Try.underlying22 hi hz h2 h32 rfl (by decide) v M.length (cellsP M) hown a n cap (cellsP L) (by rw [cellsP_length, hnl]) (fun j u hu => by
          obtain ⟨p', cap', e, _, hc⟩ := hP
          simp only [Value.slice.injEq] at e
          obtain ⟨e1, _, _⟩ := e
          obtain ⟨b, o, e2, h⟩ := hc j u hu
          rw [← e1] at e2
          obtain rfl := Option.some.inj e2
          have hadd : (⟨b, o, none⟩ : Addr).add j = ⟨b, o + j, none⟩ := by unfold Addr.add; split <;> simp_all
          rw [hadd]; exact h) (cellsP_one L) (by unfold maxLen; omega) (by omega) hB
      refine ⟨v', W', hr, ?_, hg⟩
      unfold OwnP
      rw [List.length_append, cellsP_append, ← hnl]
      exact hown'
/-! ### plainly -/
theorem more_right {L : List P2} {x : P2} (h : rightP (L ++ [x]) = true) : rightP L = true ∧ x ∉ L := by
  obtain ⟨h1, h2, h3⟩ := (rightP_iff _).1 h
  rw [List.map_append, List.nodup_append] at h3
  simp at h1
  refine ⟨(rightP_iff L).2 ⟨by omega, fun y hy => h2 y (by simp [hy]), h3.1⟩, fun hx => ?_⟩
  exact h3.2.2 (kl x) (List.mem_map_of_mem hx) (kl x) (by simp) rfl
theorem more_facts (L : List P2) (x : P2) : eqB (L ++ [x]) (L ++ [x]) = rightP (L ++ [x]) ∧ (rightP (L ++ [x]) = true → subB L (L ++ [x]) = true ∧ subB (L ++ [x]) L = false ∧ eqB L (L ++ [x]) = false) := by
  refine ⟨?_, fun h => ?_⟩
  · rw [Bool.eq_iff_iff, eqB_iff]
    exact ⟨fun h => h.1, fun h => ⟨h, h, List.Perm.refl _⟩⟩
  · obtain ⟨h1, h2⟩ := more_right h
    refine ⟨(subB_iff _ _).2 ⟨h1, h, fun y hy => by simp [hy]⟩, ?_, ?_⟩
    · cases hs : subB (L ++ [x]) L with
      | false => rfl
      | true => exact absurd (((subB_iff _ _).1 hs).2.2 x (by simp)) h2
    · simp [eqB]
theorem eqB_self (L : List P2) : eqB L L = rightP L := by
  rw [Bool.eq_iff_iff, eqB_iff]
  exact ⟨fun h => h.1, fun h => ⟨h, h, List.Perm.refl _⟩⟩
theorem set_facts {L : List P2} {i : Nat} {y : P2} {v : ByteArray} (hy : L[i]? = some y) (hv : y.2 ≠ v) (hr : rightP L = true) : subB L (L.set i (y.1, v)) = false ∧ subB (L.set i (y.1, v)) L = false ∧ eqB L (L.set i (y.1, v)) = false := by
  have hi := (List.getElem?_eq_some_iff.1 hy).1
  have hmem : (y.1, v) ∈ L.set i (y.1, v) := List.mem_iff_getElem?.2 ⟨i, by simp [hi]⟩
  have hyL : y ∈ L := List.mem_of_getElem? hy
  have hnL : (y.1, v) ∉ L := fun h => by
    have := nodup_inj ((rightP_iff L).1 hr).2.2 h hyL rfl
    exact hv (by rw [← this])
  have h1 : subB L (L.set i (y.1, v)) = false := by
    cases hs : subB L (L.set i (y.1, v)) with
    | false => rfl
    | true =>
      obtain ⟨_, hr2, hin⟩ := (subB_iff _ _).1 hs
      have := nodup_inj ((rightP_iff _).1 hr2).2.2 (hin y hyL) hmem rfl
      exact absurd (by rw [this]) hv
  have h2 : subB (L.set i (y.1, v)) L = false := by
    cases hs : subB (L.set i (y.1, v)) L with
    | false => rfl
    | true => exact absurd (((subB_iff _ _).1 hs).2.2 _ hmem) hnL
  exact ⟨h1, h2, by unfold eqB; rw [h1]; simp⟩
end Go.Proofs.Ytbfcbffmgdijfaa
