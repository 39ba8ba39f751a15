/- A row of pairs that came in, opened. No condition. -/
import Derived.Test.YtfihbfkgkljjdaaC1
import Derived.ProofKit
import Derived.OpenShut
import Derived.Deep.SlicePairs
import Derived.ChangeArms
namespace Go.Proofs.Ytfihbfkgkljjdaa
open Go.RowKit Go.Own Go.ChangeShapes Go.WideShapes
theorem laidOut : laidOutB Try.prog = true := by kernel_rfl
theorem cells9 : Try.prog.cellsOf 9 = 1 := by kernel_rfl
theorem cells42 : Try.prog.cellsOf 42 = 2 := by kernel_rfl
theorem cellsP_inv : ∀ (L : List P2) (j : Nat) u, (cellsP L)[j]? = some u → ∃ i x, L[i]? = some x ∧ ((j = i * 2 ∧ u = .string x.1) ∨ (j = i * 2 + 1 ∧ u = .string x.2))
  | [], j, u, h => by simp [cellsP] at h
  | y :: L, j, u, h => by
    have e : cellsP (y :: L) = .string y.1 :: .string y.2 :: cellsP L := by simp [cellsP]
    rw [e] at h
    match j, h with
    | 0, h => exact ⟨0, y, rfl, Or.inl ⟨rfl, by simpa using h.symm⟩⟩
    | 1, h => exact ⟨0, y, rfl, Or.inr ⟨rfl, by simpa using h.symm⟩⟩
    | j + 2, h =>
      obtain ⟨i, x, h1, h2⟩ := cellsP_inv L j u (by simpa using h)
      refine ⟨i + 1, x, by simpa using h1, ?_⟩
      rcases h2 with ⟨h2, h3⟩ | ⟨h2, h3⟩
      · exact Or.inl ⟨by omega, h3⟩
      · exact Or.inr ⟨by omega, h3⟩
def strV : Value → ByteArray
  | .string s => s
  | _ => { data := #[] }
theorem fieldsPair : ∃ f0 f1, Try.prog.underlying 42 = some (.struct #[f0, f1]) ∧ f0.offset = 0 ∧ f1.offset = 1 ∧ f0.type = 9 ∧ f1.type = 9 := ⟨_, _, Try.underlying42, rfl, rfl, rfl, rfl⟩
theorem open_pairs {H : Type} {enc : TypeId × Value → H} {W : World} {base : Nat} {spare : Nat → Bool} {held : Bool} {fuel : Nat} {a : Option Addr} {len cap : Nat} {x : DataW H × List MemPlace}
    (h : DataW.trod enc Try.prog W base spare held fuel 23 [.slice a len cap] = some x) :
    ∃ L : List P2, L.length = len ∧ len ≤ 9223372036854775807 ∧ PsC W (.slice a len cap) L ∧ ∀ y ∈ L, y.1.size ≤ 9223372036854775807 ∧ y.2.size ≤ 9223372036854775807 := by
  obtain ⟨f0, f1, hu, o0, o1, t0, t1⟩ := fieldsPair
  rcases Go.Deep.open_slice_pairs Try.underlying23 hu cells42 o0 o1 (by rw [t0]; exact cells9) (by rw [t1]; exact cells9) h with ⟨hcs, _⟩ | ⟨a', len', cap', m, n, V0, V1, D0, D1, P0, P1, hcs, _, hl, hm, hmm, _, hx⟩
  · simp at hcs
    obtain ⟨rfl, rfl, rfl⟩ := hcs
    exact ⟨[], rfl, by omega, ⟨none, 0, rfl, Nat.le_refl _, fun j u hu => by simp [cellsP] at hu⟩, fun y hy => by simp at hy⟩
  · simp at hcs
    obtain ⟨rfl, rfl, rfl⟩ := hcs
    have hlm : len ≤ m := by rw [hmm]; split <;> omega
    have each : ∀ i, i < len → ∃ s0 s1 : ByteArray, W.cell? (a'.add (i * 2)) = some (.string s0) ∧ W.cell? (a'.add (i * 2 + 1)) = some (.string s1) ∧ s0.size ≤ maxLen ∧ s1.size ≤ maxLen ∧ V0 i = .string s0 ∧ V1 i = .string s1 := fun i hi => by
      obtain ⟨h1, h2, h3, h4⟩ := hx i (by omega)
      rw [t0] at h3
      rw [t1] at h4
      obtain ⟨s0, e0, _, l0⟩ := DataW.trod_string Try.underlying9 h3
      obtain ⟨s1, e1, _, l1⟩ := DataW.trod_string Try.underlying9 h4
      simp at e0 e1
      exact ⟨s0, s1, by rw [h1, e0], by rw [h2, e1], l0, l1, e0, e1⟩
    have hat : ∀ i, i < len → ((List.range len).map fun i => (strV (V0 i), strV (V1 i)))[i]? = some (strV (V0 i), strV (V1 i)) := fun i hi => by simp [hi]
    refine ⟨(List.range len).map fun i => (strV (V0 i), strV (V1 i)), by simp, by unfold maxLen at hm; omega, ⟨some a', cap, by simp, by simpa using hl, fun j u hu => ?_⟩, fun y hy => ?_⟩
    · obtain ⟨i, y, hy, hj⟩ := cellsP_inv _ j u hu
      have hi : i < len := by simpa using (List.getElem?_eq_some_iff.1 hy).1
      rw [hat i hi] at hy
      obtain ⟨s0, s1, g0, g1, _, _, e0, e1⟩ := each i hi
      obtain ⟨_, _, g00, _⟩ := each 0 (by omega)
      obtain ⟨b, o, spot⟩ := a'
      have hsp : spot = none := by simpa [Addr.add] using World.cell?_spot g00
      subst hsp
      have hadd : ∀ k, (⟨b, o, none⟩ : Addr).add k = ⟨b, o + k, none⟩ := fun k => by unfold Addr.add; split <;> simp_all
      rw [hadd] at g0 g1
      refine ⟨b, o, rfl, ?_⟩
      rw [← Option.some.inj hy, e0, e1] at hj
      rcases hj with ⟨rfl, rfl⟩ | ⟨rfl, rfl⟩
      · exact g0
      · exact g1
    · obtain ⟨i, hi, rfl⟩ := List.mem_map.1 hy
      obtain ⟨s0, s1, _, _, l0, l1, e0, e1⟩ := each i (List.mem_range.1 hi)
      rw [e0, e1]
      unfold maxLen at l0 l1
      exact ⟨l0, l1⟩
end Go.Proofs.Ytfihbfkgkljjdaa
