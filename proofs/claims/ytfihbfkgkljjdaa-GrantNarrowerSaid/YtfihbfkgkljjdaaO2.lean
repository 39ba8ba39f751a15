/- Grants that came in, opened: one, and a row of them. No condition. -/
import Derived.Test.YtfihbfkgkljjdaaGG
import Derived.Test.YtfihbfkgkljjdaaGH
import Derived.Test.YtfihbfkgkljjdaaO1
import Derived.Deep.Slices
import Derived.Deep.Fields
import Derived.ChangeSame
namespace Go.Proofs.Ytfihbfkgkljjdaa
open Go.RowKit Go.Own Go.ChangeShapes Go.WideShapes Go.Deep
instance grInhabited : Inhabited Gr := ⟨⟨0, { data := #[] }, { data := #[] }, 0, [], false⟩⟩
theorem cells29 : Try.prog.cellsOf 29 = 6 := by kernel_rfl
theorem fieldsG : ∃ f0 f1 f2 f3 f4 f5, Try.prog.underlying 29 = some (.struct #[f0, f1, f2, f3, f4, f5]) ∧ oneCellFields Try.prog #[f0, f1, f2, f3, f4, f5] = true ∧ f0.type = 3 ∧ f1.type = 9 ∧ f2.type = 9 ∧ f3.type = 3 ∧ f4.type = 23 ∧ f5.type = 4 :=
  ⟨_, _, _, _, _, _, Try.underlying29, by kernel_rfl, rfl, rfl, rfl, rfl, rfl, rfl⟩
set_option maxRecDepth 100000 in
theorem open_grant {H : Type} {enc : TypeId × Value → H} {W : World} {base : Nat} {spare : Nat → Bool} {held : Bool} (fuel : Nat) (cs : List Value) (x : DataW H × List MemPlace)
    (h : DataW.trod enc Try.prog W base spare held fuel 29 cs = some x) : ∃ g : Gr, GrAt W (.agg cs.toArray) g ∧ sane g := by
  obtain ⟨f0, f1, f2, f3, f4, f5, hu, hone, t0, t1, t2, t3, t4, t5⟩ := fieldsG
  obtain ⟨xs, n, hfn, hx, hlen, hxl, hg⟩ := DataW.trod_struct hu h
  rw [cells29] at hlen
  match cs, hlen with
  | [c0, c1, c2, c3, c4, c5], _ =>
    obtain ⟨o0, k0⟩ := hone_of hone 0 f0 rfl
    obtain ⟨o1, k1⟩ := hone_of hone 1 f1 rfl
    obtain ⟨o2, k2⟩ := hone_of hone 2 f2 rfl
    obtain ⟨o3, k3⟩ := hone_of hone 3 f3 rfl
    obtain ⟨o4, k4⟩ := hone_of hone 4 f4 rfl
    obtain ⟨o5, k5⟩ := hone_of hone 5 f5 rfl
    match xs, hxl with
    | [y0, y1, y2, y3, y4, y5], _ =>
      have g0 : DataW.trod enc Try.prog W base spare held n f0.type [c0] = some y0 := by simpa [o0, k0] using hg 0 f0 rfl
      have g1 : DataW.trod enc Try.prog W base spare held n f1.type [c1] = some y1 := by simpa [o1, k1] using hg 1 f1 rfl
      have g2 : DataW.trod enc Try.prog W base spare held n f2.type [c2] = some y2 := by simpa [o2, k2] using hg 2 f2 rfl
      have g3 : DataW.trod enc Try.prog W base spare held n f3.type [c3] = some y3 := by simpa [o3, k3] using hg 3 f3 rfl
      have g4 : DataW.trod enc Try.prog W base spare held n f4.type [c4] = some y4 := by simpa [o4, k4] using hg 4 f4 rfl
      have g5 : DataW.trod enc Try.prog W base spare held n f5.type [c5] = some y5 := by simpa [o5, k5] using hg 5 f5 rfl
      rw [t0] at g0
      rw [t1] at g1
      rw [t2] at g2
      rw [t3] at g3
      rw [t4] at g4
      rw [t5] at g5
      obtain ⟨id, e0, _, _⟩ := DataW.trod_int Try.underlying3 g0
      obtain ⟨who, e1, _, l1⟩ := DataW.trod_string Try.underlying9 g1
      obtain ⟨ret, e2, _, l2⟩ := DataW.trod_string Try.underlying9 g2
      obtain ⟨ops, e3, _, _⟩ := DataW.trod_int Try.underlying3 g3
      obtain ⟨b, e5, _⟩ := DataW.trod_bool Try.underlying4 g5
      simp only [List.cons.injEq, and_true] at e0 e1 e2 e3 e5
      subst e0 e1 e2 e3 e5
      unfold maxLen at l1 l2
      have hsl : ∃ a len cap, c4 = .slice a len cap := by
        rcases DataW.trod_slice Try.underlying23 g4 with ⟨e4, _⟩ | ⟨a, len, cap, elems, rest, n', hn', e4, _⟩
        · simp only [List.cons.injEq, and_true] at e4
          exact ⟨_, _, _, e4⟩
        · simp only [List.cons.injEq, and_true] at e4
          exact ⟨_, _, _, e4⟩
      obtain ⟨a, len, cap, rfl⟩ := hsl
      obtain ⟨L, hL, hlm, hP, hy⟩ := open_pairs g4
      subst hL
      exact ⟨⟨id, who, ret, ops, L, b⟩, ⟨a, cap, rfl, hP⟩, l1, l2, hlm, hy⟩
theorem hadd (b o k : Nat) : (⟨b, o, none⟩ : Addr).add k = ⟨b, o + k, none⟩ := by unfold Addr.add; split <;> simp_all
theorem open_grants {H : Type} {enc : TypeId × Value → H} {W : World} {base : Nat} {spare : Nat → Bool} {held : Bool} {fuel : Nat} {a : Option Addr} {len cap : Nat} {x : DataW H × List MemPlace}
    (h : DataW.trod enc Try.prog W base spare held fuel 22 [.slice a len cap] = some x) :
    ∃ l : List Gr, l.length = len ∧ len ≤ 9223372036854775807 ∧ RowG W (.slice a len cap) l ∧ ∀ g ∈ l, sane g := by
  rcases DataW.trod_slice Try.underlying22 h with ⟨e4, _⟩ | ⟨a', len', cap', elems, rest, n', hn', e4, _, hb, hl, hm, hel, hi, _, _⟩
  · simp only [List.cons.injEq, and_true, Value.slice.injEq] at e4
    obtain ⟨rfl, rfl, rfl⟩ := e4
    exact ⟨[], rfl, by omega, RowG.nil W, fun g hg => by simp at hg⟩
  · simp only [List.cons.injEq, and_true, Value.slice.injEq] at e4
    obtain ⟨rfl, rfl, rfl⟩ := e4
    unfold maxLen at hm
    have each : ∀ i, i < len → ∃ q : List Value × Gr, q.1.length = 6 ∧ (GrAt W (.agg q.1.toArray) q.2 ∧ sane q.2) ∧ (∀ j, j < 6 → W.cell? (a'.add (i * 6 + j)) = q.1[j]?) := fun i hil => by
      have h1 := hi i hil
      rw [List.getElem?_eq_getElem (by omega), cells29] at h1
      obtain ⟨cs', hc, ht⟩ := Option.bind_eq_some_iff.1 h1
      obtain ⟨_, hcl, hat⟩ := World.cells?_some hc
      obtain ⟨g, hv⟩ := open_grant n' cs' _ ht
      exact ⟨(cs', g), hcl, hv, fun j hj => by rw [← Go.Deep.add_add]; exact hat j hj⟩
    obtain ⟨q, hq⟩ := choose_lt each
    refine ⟨(List.range len).map fun i => (q i).2, by simp, by omega, ⟨some a', cap, by simp, by simpa using hl, fun j g hg => ?_⟩, fun g hg => ?_⟩
    · have hj : j < len := by simpa using (List.getElem?_eq_some_iff.1 hg).1
      obtain ⟨h1, ⟨⟨p2, c2, e, hP⟩, _⟩, h3⟩ := hq j hj
      have eg : g = (q j).2 := by simp [hj] at hg; exact hg.symm
      subst eg
      simp only [grV, Value.agg.injEq, List.toArray_eq_iff] at e
      rw [e] at h3
      have k0 := h3 0 (by omega)
      have hsp : a'.spot = none := by
        obtain ⟨_, ⟨⟨p3, c3, e3, _⟩, _⟩, h33⟩ := hq 0 (by omega)
        simp only [grV, Value.agg.injEq, List.toArray_eq_iff] at e3
        rw [e3] at h33
        have k00 := h33 0 (by omega)
        simpa [Addr.add] using World.cell?_spot k00
      obtain ⟨b, o, spot⟩ := a'
      simp only at hsp
      subst hsp
      have k1 := h3 1 (by omega)
      have k2 := h3 2 (by omega)
      have k3 := h3 3 (by omega)
      have k4 := h3 4 (by omega)
      have k5 := h3 5 (by omega)
      simp only [hadd, Nat.add_zero] at k0 k1 k2 k3 k4 k5
      exact ⟨b, o, p2, c2, rfl, k0, by rw [Nat.add_assoc]; exact k1, by rw [Nat.add_assoc]; exact k2, by rw [Nat.add_assoc]; exact k3, by rw [Nat.add_assoc]; exact k4, by rw [Nat.add_assoc]; exact k5, hP⟩
    · obtain ⟨i, hi2, rfl⟩ := List.mem_map.1 hg
      exact (hq i (List.mem_range.1 hi2)).2.1.2
end Go.Proofs.Ytfihbfkgkljjdaa
