/- For any row of grants, any two texts, any number and any row of pairs GrantTells of layer 13 returns true: each grant is right or isn't, allows or doesn't, is narrower than another one or isn't, just as the document says; so who may. No condition. -/
import Derived.Test.YtfihbfkgkljjdaaRows
import Derived.WalkKit
import Derived.ProofKit
import Derived.OpenShut
import Derived.Test.YtfihbfkgkljjdaaGL
import Derived.Test.YtfihbfkgkljjdaaO2
import Derived.Carry
import Derived.ShutString
namespace Go.Proofs.Ytfihbfkgkljjdaa.grantTells
open Go.ChangeShapes Go.WideShapes Go.ChangeAt Go.RowKit
open Go.ChangeMaps (open_string shut_string)
open Go.Own
set_option linter.unusedVariables false

theorem own : ownKnob Try.prog.godebug = none := by kernel_rfl

set_option maxRecDepth 100000 in
theorem lifted (os : Os) (started : os.Started) (H : Type) (enc : TypeId × Value → H) :
    ReturnsInHanded {} Try.checked os 3 .any (Rows.grantTellsSpec.pre6 enc Try.prog Try.f3 Rows.grantTellsRow.domain false) (Rows.grantTellsSpec.post enc Try.prog Try.f3 false true false false) := by
  refine returnsInHanded_of_change (C := Try.checked) own started (by kernel_rfl) Try.func3
    (ChangeSpec.witness6 (enc := enc) (C := Try.checked) false ⟨#[], #[.slice none 0 0, .string ByteArray.empty, .string ByteArray.empty, .int .i64 0, .slice none 0 0], []⟩ 8 (by kernel_rfl) (by kernel_rfl) (by kernel_rfl) (by kernel_rfl)) ?_
  intro W base args ds gs before hval0 hW hcnd _
  have hval : ∀ (j : Nat) t v, Try.f3.params[j]? = some t → args[j]? = some v → Value.okWide Try.prog W .any base t v := hval0
  have hW' := hW
  obtain ⟨p, q, hA0, hV, rfl, hfz, hnd⟩ := hW
  have hA : DataW.TrodAll enc Try.prog W 0 (fun _ => true) true Try.f3.params.toList args.toList ds p := hA0
  rw [Try.params3] at hA hval
  obtain ⟨v0, vs0, d0, ds0, p0, q0, hargs, rfl, rfl, h0, r0⟩ := trodAll_cons hA
  obtain ⟨v1, vs1, d1, ds1, p1, q1, rfl, rfl, rfl, h1, r1⟩ := trodAll_cons r0
  obtain ⟨v2, vs2, d2, ds2, p2, q2, rfl, rfl, rfl, h2, r2⟩ := trodAll_cons r1
  obtain ⟨v3, vs3, d3, ds3, p3, q3, rfl, rfl, rfl, h3, r3⟩ := trodAll_cons r2
  obtain ⟨v4, vs4, d4, ds4, p4, q4, rfl, rfl, rfl, h4, r4⟩ := trodAll_cons r3
  obtain ⟨rfl, rfl, rfl⟩ := trodAll_nil r4
  obtain rfl : args = #[v0, v1, v2, v3, v4] := by cases args; simp_all
  obtain ⟨rfl, rfl⟩ := trodVars_none hV
  obtain ⟨f0, f1, f2, f3, f4, f5, hu, _, _, _, _, _, _, _⟩ := fieldsG
  have h0k := h0
  have h4k := h4
  obtain ⟨a0, len0, cap0, rfl⟩ := okWide_slice Try.underlying22 (hval 0 22 v0 rfl rfl)
  obtain ⟨fuel0, hf0⟩ := h0
  obtain ⟨L0, hL0, hn0, hP0, hs0⟩ := open_grants hf0
  subst hL0
  obtain ⟨s1, rfl, rfl, rfl, w1⟩ := open_string Try.underlying9 (hval 1 9 v1 rfl rfl) h1
  obtain ⟨s2, rfl, rfl, rfl, w2⟩ := open_string Try.underlying9 (hval 2 9 v2 rfl rfl) h2
  obtain ⟨z3, rfl, rfl, rfl, w3⟩ := open_int Try.underlying3 (hval 3 3 v3 rfl rfl) h3
  obtain ⟨a4, len4, cap4, rfl⟩ := okWide_slice Try.underlying23 (hval 4 23 v4 rfl rfl)
  obtain ⟨fuel4, hf4⟩ := h4
  obtain ⟨L4, hL4, hn4, hP4, hs4⟩ := open_pairs hf4
  subst hL4
  clear hA0 hval0
  simp only [List.append_nil, List.nil_append] at hW'
  have hlt0 : ∀ x ∈ p0, x.block < W.heap.size := fun x hx => by simpa using hW'.lt x (by simp [hx])
  have hlt4 : ∀ x ∈ p4, x.block < W.heap.size := fun x hx => by simpa using hW'.lt x (by simp [hx])
  have walk : Calls Try.prog 3 #[.slice a0 L0.length cap0, .string s1, .string s2, .int .i64 z3, .slice a4 L4.length cap4] W fun e w' => e = .returned (.bool true) ∧ Below W.heap.size W w' := by
    have hz : -9223372036854775808 ≤ z3 ∧ z3 < 9223372036854775808 := by
      have h2 : (decide (-9223372036854775808 ≤ z3) && decide (z3 ≤ 9223372036854775807)) = true := w3
      rw [Bool.and_eq_true, decide_eq_true_eq, decide_eq_true_eq] at h2
      omega
    have hb1 : s1.size ≤ 9223372036854775807 := w1
    have hb2 : s2.size ≤ 9223372036854775807 := w2
    by_cases hf : L0.length ≤ 10 ∧ s1.size ≤ 300 ∧ s2.size ≤ 300 ∧ fewB L4 = true
    · exact tells_main L0 hn0 hs0 a0 cap0 s1 s2 hb1 hb2 z3 hz L4 hn4 hs4 a4 cap4 W hP0 hP4 hf.1 hf.2.1 hf.2.2.1 hf.2.2.2
    · refine tells_skip L0 hn0 hs0 a0 cap0 s1 s2 hb1 hb2 z3 hz L4 hn4 hs4 a4 cap4 W hP0 hP4 ?_
      by_cases h1 : 10 < L0.length
      · exact .inl h1
      by_cases h2 : 300 < s1.size
      · exact .inr (.inl h2)
      by_cases h3 : 300 < s2.size
      · exact .inr (.inr (.inl h3))
      exact .inr (.inr (.inr (by
        cases h4 : fewB L4 with
        | false => rfl
        | true => exact absurd ⟨by omega, by omega, by omega, h4⟩ hf)))
  refine walk.mono fun e W' ⟨he, hg⟩ => ?_
  subst he
  exact ⟨_, rfl, _, _, _, [], p0 ++ p4, [], hW', (trodAll_cons_mk (shut_bool Try.underlying4 _) trodAll_mk0), by
    have hall := trodAll_cons_mk (Below.trod laidOut (by kernel_rfl) (of_decide_eq_true (by kernel_rfl)) h0k hg hlt0) (trodAll_cons_mk (shut_string Try.underlying9 w1) (trodAll_cons_mk (shut_string Try.underlying9 w2) (trodAll_cons_mk (shut_int Try.underlying3 w3) (trodAll_cons_mk (Below.trod laidOut (by kernel_rfl) (of_decide_eq_true (by kernel_rfl)) h4k hg hlt4) trodAll_mk0))))
    simp only [List.append_nil, List.nil_append] at hall
    exact hall, rfl, hg.frame _, fun h => by cases h⟩

theorem over : Rows.grantTellsRow.holds Try.pinned (OpenSpec.ofChange Rows.grantTellsSpec) :=
  OpenClaim.holds_of_wide 3 Try.f3 rfl rfl rfl rfl rfl rfl rfl ⟨rfl, rfl, rfl, rfl, rfl⟩ rfl rfl rfl rfl rfl (by kernel_rfl) Try.func3 (by kernel_rfl)
    (of_decide_eq_true (by kernel_rfl)) (by unfold Func.isWrapper; first | (rw [if_pos (by decide +kernel)]; kernel_rfl) | (rw [if_neg (by decide +kernel)]; exact ⟨rfl, rfl⟩))
    (fun os started H enc _ => lifted os started H enc)

theorem proved : Rows.GrantTellsSaid :=
  over
#print axioms proved
end Go.Proofs.Ytfihbfkgkljjdaa.grantTells
