/- A row of numbers that came in, opened. No condition. -/
import Derived.Test.YtncbgonanoihfaaO1
import Derived.Test.YtncbgonanoihfaaQ1
namespace Go.Proofs.Ytncbgonanoihfaa
open Go.RowKit Go.Own Go.ChangeShapes Go.WideShapes Go.Deep
theorem cells3 : Try.prog.cellsOf 3 = 1 := by kernel_rfl
theorem open_nums {H : Type} {enc : TypeId × Value → H} {W : World} {base : Nat} {spare : Nat → Bool} {held : Bool} {fuel : Nat} {sv : Value} {x : DataW H × List MemPlace}
    (h : DataW.trod enc Try.prog W base spare held fuel 40 [sv] = some x) : ∃ zs : List Int, Ints W sv zs := by
  rcases DataW.trod_slice Try.underlying40 h with ⟨e4, _⟩ | ⟨a, len, cap, elems, rest, n', hn', e4, _, hb, hl, hm, hel, hi, _, _⟩
  · simp only [List.cons.injEq, and_true] at e4
    subst e4
    exact ⟨[], none, 0, rfl, by simp, fun j z hz => by simp at hz⟩
  · simp only [List.cons.injEq, and_true] at e4
    subst e4
    unfold maxLen at hm
    have each : ∀ i, i < len → ∃ z : Int, In64 z ∧ W.cell? (a.add i) = some (.int .i64 z) := fun i hil => by
      have h1 := hi i hil
      rw [List.getElem?_eq_getElem (by omega), cells3, Nat.mul_one] at h1
      obtain ⟨cs', hc, ht⟩ := Option.bind_eq_some_iff.1 h1
      obtain ⟨_, hcl, hat⟩ := World.cells?_some hc
      obtain ⟨z, rfl, _, wz⟩ := DataW.trod_int Try.underlying3 ht
      refine ⟨z, in64_of wz, ?_⟩
      have h0 := hat 0 (by omega)
      rw [Go.Deep.add_add] at h0
      simpa using h0
    obtain ⟨q, hq⟩ := choose_lt each
    refine ⟨(List.range len).map q, some a, cap, by simp, by simp; omega, fun j z hz => ?_⟩
    have hj : j < len := by simpa using (List.getElem?_eq_some_iff.1 hz).1
    obtain ⟨h1, h2⟩ := hq j hj
    have e : z = q j := by simp [hj] at hz; exact hz.symm
    obtain ⟨g, o, spot⟩ := a
    have hsp : spot = none := by
      obtain ⟨_, h3⟩ := hq 0 (by omega)
      simpa [Addr.add] using World.cell?_spot h3
    subst hsp
    rw [hadd] at h2
    rw [e]
    exact ⟨h1, g, o, rfl, World.block_lt_of_cell? W _ h2, h2⟩
end Go.Proofs.Ytncbgonanoihfaa
