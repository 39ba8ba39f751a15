/- What came in, opened: a cut, a row of bools. No condition. -/
import Derived.Test.YtafbphgfdnmilaaN1
import Derived.ProofKit
import Derived.OpenShut
import Derived.Deep.Slices
import Derived.Deep.Fields
import Derived.ChangeSame
import Derived.ChangeArms
namespace Go.Proofs.Ytafbphgfdnmilaa
open Go.RowKit Go.Own Go.ChangeShapes Go.WideShapes Go.Deep
theorem laidOut : laidOutB Try.prog = true := by kernel_rfl
theorem fieldsC : ∃ f0 f1 f2, Try.prog.underlying 33 = some (.struct #[f0, f1, f2]) ∧ oneCellFields Try.prog #[f0, f1, f2] = true ∧ f0.type = 3 ∧ f1.type = 31 ∧ f2.type = 3 :=
  ⟨_, _, _, Try.underlying33, by kernel_rfl, rfl, rfl, rfl⟩
theorem i64_of {n : Int} (h : (Lit.int .i64 n).wf = true) : -9223372036854775808 ≤ n ∧ n ≤ 9223372036854775807 := by
  have h2 : (decide (-9223372036854775808 ≤ n) && decide (n ≤ 9223372036854775807)) = true := h
  rwa [Bool.and_eq_true, decide_eq_true_eq, decide_eq_true_eq] at h2
theorem u64_of {n : Int} (h : (Lit.int .u64 n).wf = true) : 0 ≤ n ∧ n ≤ 18446744073709551615 := by
  have h2 : (decide (0 ≤ n) && decide (n ≤ 18446744073709551615)) = true := h
  rwa [Bool.and_eq_true, decide_eq_true_eq, decide_eq_true_eq] at h2
theorem open_cut {H : Type} {enc : TypeId × Value → H} {W : World} {base : Nat} {spare : Nat → Bool} {held : Bool} {fuel : Nat} {cs : List Value} {x : DataW H × List MemPlace}
    (h : DataW.trod enc Try.prog W base spare held fuel 33 cs = some x) : ∃ (a : Int) (k : Nat) (t : Int), cs.toArray = kc a k t ∧ a ≤ 9223372036854775807 ∧ -9223372036854775808 ≤ t ∧ t ≤ 9223372036854775807 ∧ k < 18446744073709551616 := by
  obtain ⟨f0, f1, f2, hu, hone, t0, t1, t2⟩ := fieldsC
  obtain ⟨xs, n, hfn, hx, hlen, hxl, hg⟩ := DataW.trod_struct hu h
  rw [cs33] at hlen
  match cs, hlen with
  | [c0, c1, c2], _ =>
    obtain ⟨o0, k0⟩ := hone_of hone 0 f0 rfl
    obtain ⟨o1, k1⟩ := hone_of hone 1 f1 rfl
    obtain ⟨o2, k2⟩ := hone_of hone 2 f2 rfl
    match xs, hxl with
    | [y0, y1, y2], _ =>
      have g0 : DataW.trod enc Try.prog W base spare held n f0.type [c0] = some y0 := by simpa [o0, k0] using hg 0 f0 rfl
      have g1 : DataW.trod enc Try.prog W base spare held n f1.type [c1] = some y1 := by simpa [o1, k1] using hg 1 f1 rfl
      have g2 : DataW.trod enc Try.prog W base spare held n f2.type [c2] = some y2 := by simpa [o2, k2] using hg 2 f2 rfl
      rw [t0] at g0
      rw [t1] at g1
      rw [t2] at g2
      obtain ⟨a, e0, _, w0⟩ := DataW.trod_int Try.underlying3 g0
      obtain ⟨k, e1, _, w1⟩ := DataW.trod_int Try.underlying31 g1
      obtain ⟨t, e2, _, w2⟩ := DataW.trod_int Try.underlying3 g2
      simp only [List.cons.injEq, and_true] at e0 e1 e2
      subst e0 e1 e2
      have hk := u64_of w1
      refine ⟨a, k.toNat, t, ?_, (i64_of w0).2, (i64_of w2).1, (i64_of w2).2, by omega⟩
      have e : ((k.toNat : Nat) : Int) = k := by omega
      unfold kc
      rw [e]
theorem cell_blk {W : World} {g o : Nat} {v : Value} (h : W.cell? ⟨g, o, none⟩ = some v) : ∃ C t f, blk W g = some (.cells C t f) ∧ C[o]? = some v := by
  unfold World.cell? at h
  cases hb : W.heap[g]? with
  | none => simp [hb] at h
  | some ob =>
    cases ob with
    | cells c t f =>
      simp only [hb, Option.isSome_none, Bool.false_eq_true, if_false] at h
      exact ⟨c, t, f, hb, h⟩
    | _ => simp [hb] at h
theorem add_none (g o i : Nat) : (⟨g, o, none⟩ : Addr).add i = ⟨g, o + i, none⟩ := by unfold Addr.add; split <;> simp_all
theorem open_bools {H : Type} {enc : TypeId × Value → H} {W : World} {base : Nat} {spare : Nat → Bool} {held : Bool} {fuel : Nat} {sv : Value} {x : DataW H × List MemPlace}
    (h : DataW.trod enc Try.prog W base spare held fuel 58 [sv] = some x) : ∃ L : List Bool, Bools W sv L := by
  rcases DataW.trod_slice Try.underlying58 h with ⟨e4, _⟩ | ⟨a, len, cap, elems, rest, n', hn', e4, _, hb, hl, hm, hel, hi, _, _⟩
  · simp only [List.cons.injEq, and_true] at e4
    subst e4
    exact ⟨[], none, 0, rfl, fun k b hk => by simp at hk⟩
  · simp only [List.cons.injEq, and_true] at e4
    subst e4
    have each : ∀ i, i < len → ∃ z : Bool, W.cell? (a.add i) = some (.bool z) := fun i hil => by
      have h1 := hi i hil
      rw [List.getElem?_eq_getElem (by omega), cs4, Nat.mul_one] at h1
      obtain ⟨cs', hc, ht⟩ := Option.bind_eq_some_iff.1 h1
      obtain ⟨_, hcl, hat⟩ := World.cells?_some hc
      obtain ⟨z, rfl, _⟩ := DataW.trod_bool Try.underlying4 ht
      refine ⟨z, ?_⟩
      have h0 := hat 0 (by omega)
      rw [Go.Deep.add_add] at h0
      simpa using h0
    obtain ⟨q, hq⟩ := choose_lt each
    refine ⟨(List.range len).map q, some a, cap, by simp, fun j z hz => ?_⟩
    have hj : j < len := by simpa using (List.getElem?_eq_some_iff.1 hz).1
    have h2 := hq j hj
    have e : z = q j := by simp [hj] at hz; exact hz.symm
    obtain ⟨g, o, spot⟩ := a
    have hsp : spot = none := by
      have h3 := hq 0 (by omega)
      simpa [Addr.add] using World.cell?_spot h3
    subst hsp
    rw [add_none] at h2
    obtain ⟨C, t, f, h3, h4⟩ := cell_blk h2
    exact ⟨g, o, C, t, f, rfl, h3, by rw [e]; exact h4⟩
end Go.Proofs.Ytafbphgfdnmilaa
