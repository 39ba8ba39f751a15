/- A row of calls that came in, opened. No condition. -/
import Derived.Test.YtafbphgfdnmilaaO1
import Derived.Test.YtafbphgfdnmilaaW2
namespace Go.Proofs.Ytafbphgfdnmilaa
open Go.RowKit Go.Own Go.ChangeShapes Go.WideShapes Go.Deep
instance acInhabited : Inhabited Ac := ⟨⟨0, 0, { data := #[] }, 0, 0, 0⟩⟩
theorem fieldsA : ∃ f0 f1 f2 f3, Try.prog.underlying 38 = some (.struct #[f0, f1, f2, f3]) ∧ (f0.type = 3 ∧ f0.offset = 0) ∧ (f1.type = 3 ∧ f1.offset = 1) ∧ (f2.type = 9 ∧ f2.offset = 2) ∧ (f3.type = 33 ∧ f3.offset = 3) :=
  ⟨_, _, _, _, Try.underlying38, ⟨rfl, rfl⟩, ⟨rfl, rfl⟩, ⟨rfl, rfl⟩, ⟨rfl, rfl⟩⟩
def AcOk (x : Ac) : Prop := x.ca ≤ 9223372036854775807 ∧ x.data.size ≤ 9223372036854775807 ∧ -9223372036854775808 ≤ x.ct ∧ x.ct ≤ 9223372036854775807
theorem open_ac {H : Type} {enc : TypeId × Value → H} {W : World} {base : Nat} {spare : Nat → Bool} {held : Bool} {fuel : Nat} {cs : List Value} {y : DataW H × List MemPlace}
    (h : DataW.trod enc Try.prog W base spare held fuel 38 cs = some y) : ∃ x : Ac, cs.toArray = ac x ∧ AcOk x := by
  obtain ⟨f0, f1, f2, f3, hu, ⟨t0, o0⟩, ⟨t1, o1⟩, ⟨t2, o2⟩, ⟨t3, o3⟩⟩ := fieldsA
  obtain ⟨xs, n, hfn, hx, hlen, hxl, hg⟩ := DataW.trod_struct hu h
  rw [cs38] at hlen
  match cs, hlen with
  | [c0, c1, c2, c3, c4, c5], _ =>
    match xs, hxl with
    | [y0, y1, y2, y3], _ =>
      have g0 : DataW.trod enc Try.prog W base spare held n 3 [c0] = some y0 := by simpa [t0, o0, cs3] using hg 0 f0 rfl
      have g1 : DataW.trod enc Try.prog W base spare held n 3 [c1] = some y1 := by simpa [t1, o1, cs3] using hg 1 f1 rfl
      have g2 : DataW.trod enc Try.prog W base spare held n 9 [c2] = some y2 := by simpa [t2, o2, cs9] using hg 2 f2 rfl
      have g3 : DataW.trod enc Try.prog W base spare held n 33 [c3, c4, c5] = some y3 := by simpa [t3, o3, cs33] using hg 3 f3 rfl
      obtain ⟨k, e0, _, w0⟩ := DataW.trod_int Try.underlying3 g0
      obtain ⟨m, e1, _, w1⟩ := DataW.trod_int Try.underlying3 g1
      obtain ⟨s, e2, _, ls⟩ := DataW.trod_string Try.underlying9 g2
      obtain ⟨a, kk, t, e3, ha, ht1, ht2, _⟩ := open_cut g3
      simp only [List.cons.injEq, and_true] at e0 e1 e2
      subst e0 e1 e2
      unfold maxLen at ls
      unfold kc at e3
      simp only [Array.mk.injEq, List.cons.injEq, and_true] at e3
      obtain ⟨rfl, rfl, rfl⟩ := e3
      exact ⟨⟨k, m, s, a, kk, t⟩, rfl, ha, ls, ht1, ht2⟩
theorem open_acts {H : Type} {enc : TypeId × Value → H} {W : World} {base : Nat} {spare : Nat → Bool} {held : Bool} {fuel : Nat} {sv : Value} {x : DataW H × List MemPlace}
    (h : DataW.trod enc Try.prog W base spare held fuel 22 [sv] = some x) : ∃ L : List Ac, Acts W sv L ∧ ∀ x ∈ L, AcOk x := by
  rcases DataW.trod_slice Try.underlying22 h with ⟨e4, _⟩ | ⟨a, len, cap, elems, rest, n', hn', e4, _, hb, hl, hm, hel, hi, _, _⟩
  · simp only [List.cons.injEq, and_true] at e4
    subst e4
    exact ⟨[], ⟨none, 0, rfl, fun k b hk => by simp at hk⟩, fun x hx => by simp at hx⟩
  · simp only [List.cons.injEq, and_true] at e4
    subst e4
    have each : ∀ i, i < len → ∃ z : Ac, AcOk z ∧ ∀ j, j < 6 → W.cell? (a.add (i * 6 + j)) = (ac z)[j]? := fun i hil => by
      have h1 := hi i hil
      rw [List.getElem?_eq_getElem (by omega), cs38] at h1
      obtain ⟨cs', hc, ht⟩ := Option.bind_eq_some_iff.1 h1
      obtain ⟨_, hcl, hat⟩ := World.cells?_some hc
      obtain ⟨z, hz, hok⟩ := open_ac ht
      refine ⟨z, hok, fun j hj => ?_⟩
      rw [← Go.Deep.add_add, hat j hj, ← hz]
      simp
    obtain ⟨q, hq⟩ := choose_lt each
    refine ⟨(List.range len).map q, ⟨some a, cap, by simp, fun j z hz => ?_⟩, fun x hx => ?_⟩
    · have hj : j < len := by simpa using (List.getElem?_eq_some_iff.1 hz).1
      obtain ⟨hok, h2⟩ := hq j hj
      have e : z = q j := by simp [hj] at hz; exact hz.symm
      rw [← e] at hok h2
      obtain ⟨g, o, spot⟩ := a
      have hsp : spot = none := by
        have h3 := (hq 0 (by omega)).2 0 (by omega)
        have h4 : W.cell? ((⟨g, o, spot⟩ : Addr).add (0 * 6 + 0)) = some (.int .i64 (q 0).kind) := h3
        simpa [Addr.add] using World.cell?_spot h4
      subst hsp
      have h20 := h2 0 (by omega)
      rw [add_none] at h20
      obtain ⟨C, t, f, h3, h4⟩ := cell_blk (show W.cell? ⟨g, o + (j * 6 + 0), none⟩ = some (.int .i64 z.kind) from h20)
      have hget : ∀ i, i < 6 → C[o + j * 6 + i]? = (ac z)[i]? := fun i hi6 => by
        have h5 := h2 i hi6
        rw [add_none] at h5
        unfold World.cell? at h5
        rw [show W.heap[g]? = _ from h3] at h5
        simp only [Option.isSome_none, Bool.false_eq_true, if_false] at h5
        rw [← h5, Nat.add_assoc]
      have hsz : o + j * 6 + 6 ≤ C.size := by
        have h6 := hget 5 (by omega)
        have h7 : C[o + j * 6 + 5]? = some (.int .i64 z.ct) := h6
        have := (Array.getElem?_eq_some_iff.1 h7).1
        omega
      refine ⟨hok.1, hok.2.1, g, o, C, t, f, rfl, h3, hsz, ?_⟩
      apply Array.ext_getElem?
      intro i
      rw [Array.getElem?_extract]
      by_cases hi6 : i < 6
      · rw [if_pos (by omega), hget i hi6]
      · rw [if_neg (by omega), Array.getElem?_eq_none (by rw [ac_size]; omega)]
    · obtain ⟨j, hj, rfl⟩ := List.mem_map.1 hx
      exact (hq j (List.mem_range.1 hj)).1
end Go.Proofs.Ytafbphgfdnmilaa
