/- For any grant, any row of pairs, any number and any text GrantSets of layer 13 returns true: a grant allows just the operations of its set, with one more it allows that, too, and no other one, an owner may all eight, and nobody else without a grant. No condition. -/
import Derived.Test.YtfihbfkgkljjdaaRows
import Derived.WalkKit
import Derived.ProofKit
import Derived.OpenShut
import Derived.Test.YtfihbfkgkljjdaaGK
import Derived.Test.YtfihbfkgkljjdaaO2
import Derived.Carry
import Derived.ShutString
namespace Go.Proofs.Ytfihbfkgkljjdaa.grantSets
open Go.ChangeShapes Go.WideShapes Go.ChangeAt Go.RowKit
open Go.ChangeMaps (open_string shut_string)
open Go.Own
set_option linter.unusedVariables false

theorem own : ownKnob Try.prog.godebug = none := by kernel_rfl

set_option maxRecDepth 100000 in
theorem lifted (os : Os) (started : os.Started) (H : Type) (enc : TypeId × Value → H) :
    ReturnsInHanded {} Try.checked os 5 .any (Rows.grantSetsSpec.pre6 enc Try.prog Try.f5 Rows.grantSetsRow.domain false) (Rows.grantSetsSpec.post enc Try.prog Try.f5 false true false false) := by
  refine returnsInHanded_of_change (C := Try.checked) own started (by kernel_rfl) Try.func5
    (ChangeSpec.witness6 (enc := enc) (C := Try.checked) false ⟨#[], #[.agg #[.int .i64 0, .string ByteArray.empty, .string ByteArray.empty, .int .i64 0, .slice none 0 0, .bool false], .slice none 0 0, .int .i64 0, .string ByteArray.empty], []⟩ 8 (by kernel_rfl) (by kernel_rfl) (by kernel_rfl) (by kernel_rfl)) ?_
  intro W base args ds gs before hval0 hW hcnd _
  have hval : ∀ (j : Nat) t v, Try.f5.params[j]? = some t → args[j]? = some v → Value.okWide Try.prog W .any base t v := hval0
  have hW' := hW
  obtain ⟨p, q, hA0, hV, rfl, hfz, hnd⟩ := hW
  have hA : DataW.TrodAll enc Try.prog W 0 (fun _ => true) true Try.f5.params.toList args.toList ds p := hA0
  rw [Try.params5] at hA hval
  obtain ⟨v0, vs0, d0, ds0, p0, q0, hargs, rfl, rfl, h0, r0⟩ := trodAll_cons hA
  obtain ⟨v1, vs1, d1, ds1, p1, q1, rfl, rfl, rfl, h1, r1⟩ := trodAll_cons r0
  obtain ⟨v2, vs2, d2, ds2, p2, q2, rfl, rfl, rfl, h2, r2⟩ := trodAll_cons r1
  obtain ⟨v3, vs3, d3, ds3, p3, q3, rfl, rfl, rfl, h3, r3⟩ := trodAll_cons r2
  obtain ⟨rfl, rfl, rfl⟩ := trodAll_nil r3
  obtain rfl : args = #[v0, v1, v2, v3] := by cases args; simp_all
  obtain ⟨rfl, rfl⟩ := trodVars_none hV
  obtain ⟨f0, f1, f2, f3, f4, f5, hu, _, _, _, _, _, _, _⟩ := fieldsG
  have h0k := h0
  have h1k := h1
  obtain ⟨cs0, rfl, hsz0⟩ := okWide_struct hu (hval 0 29 v0 rfl rfl)
  obtain ⟨fuel0, hf0⟩ := h0
  obtain ⟨g0, hg0, hs0⟩ := open_grant fuel0 _ _ hf0
  have hg0' : GrAt W (.agg cs0) g0 := by simpa [Value.cells] using hg0
  obtain ⟨a1, len1, cap1, rfl⟩ := okWide_slice Try.underlying23 (hval 1 23 v1 rfl rfl)
  obtain ⟨fuel1, hf1⟩ := h1
  obtain ⟨L1, hL1, hn1, hP1, hs1⟩ := open_pairs hf1
  subst hL1
  obtain ⟨z2, rfl, rfl, rfl, w2⟩ := open_int Try.underlying3 (hval 2 3 v2 rfl rfl) h2
  obtain ⟨s3, rfl, rfl, rfl, w3⟩ := open_string Try.underlying9 (hval 3 9 v3 rfl rfl) h3
  clear hA0 hval0
  simp only [List.append_nil] at hW'
  have hlt0 : ∀ x ∈ p0, x.block < W.heap.size := fun x hx => by simpa using hW'.lt x (by simp [hx])
  have hlt1 : ∀ x ∈ p1, x.block < W.heap.size := fun x hx => by simpa using hW'.lt x (by simp [hx])
  have walk : Calls Try.prog 5 #[.agg cs0, .slice a1 L1.length cap1, .int .i64 z2, .string s3] W fun e w' => e = .returned (.bool true) ∧ Below W.heap.size W w' := by
    have hz : -9223372036854775808 ≤ z2 ∧ z2 < 9223372036854775808 := by
      have h2 : (decide (-9223372036854775808 ≤ z2) && decide (z2 ≤ 9223372036854775807)) = true := w2
      rw [Bool.and_eq_true, decide_eq_true_eq, decide_eq_true_eq] at h2
      omega
    have hs : s3.size ≤ 9223372036854775807 := w3
    by_cases hf : fewG g0 = true ∧ fewB L1 = true
    · by_cases hc : (0 ≤ z2 ∧ z2 ≤ 7) ∧ g0.right = true ∧ s3.size ≤ 200
      · exact sets_main g0 hs0 L1 hn1 hs1 a1 cap1 z2 s3 _ W hg0' hP1 hf.1 hf.2 hc.2.1 hc.1 hc.2.2
      · refine sets_skip g0 hs0 L1 hn1 hs1 a1 cap1 z2 s3 _ W hg0' hP1 hf.1 hf.2 hz hs ?_
        by_cases h1 : z2 < 0
        · exact .inl h1
        by_cases h2 : 7 < z2
        · exact .inr (.inl h2)
        by_cases h3 : g0.right = true
        · exact .inr (.inr (.inr (by
            by_cases h4 : s3.size ≤ 200
            · exact absurd ⟨⟨by omega, by omega⟩, h3, h4⟩ hc
            · omega)))
        · exact .inr (.inr (.inl (by simpa using h3)))
    · refine sets_few g0 hs0 L1 hn1 hs1 a1 cap1 z2 s3 _ W hg0' hP1 ?_
      cases h0 : fewG g0 <;> cases h1 : fewB L1 <;> simp_all
  refine walk.mono fun e W' ⟨he, hg⟩ => ?_
  subst he
  exact ⟨_, rfl, _, _, _, [], p0 ++ p1, [], hW', (trodAll_cons_mk (shut_bool Try.underlying4 _) trodAll_mk0), by
    have hall := trodAll_cons_mk (Below.trod laidOut (by kernel_rfl) (of_decide_eq_true (by kernel_rfl)) h0k hg hlt0) (trodAll_cons_mk (Below.trod laidOut (by kernel_rfl) (of_decide_eq_true (by kernel_rfl)) h1k hg hlt1) (trodAll_cons_mk (shut_int Try.underlying3 w2) (trodAll_cons_mk (shut_string Try.underlying9 w3) trodAll_mk0)))
    simp only [List.append_nil] at hall
    exact hall, rfl, hg.frame _, fun h => by cases h⟩

theorem over : Rows.grantSetsRow.holds Try.pinned (OpenSpec.ofChange Rows.grantSetsSpec) :=
  OpenClaim.holds_of_wide 5 Try.f5 rfl rfl rfl rfl rfl rfl rfl ⟨rfl, rfl, rfl, rfl, rfl⟩ rfl rfl rfl rfl rfl (by kernel_rfl) Try.func5 (by kernel_rfl)
    (of_decide_eq_true (by kernel_rfl)) (by unfold Func.isWrapper; first | (rw [if_pos (by decide +kernel)]; kernel_rfl) | (rw [if_neg (by decide +kernel)]; exact ⟨rfl, rfl⟩))
    (fun os started H enc _ => lifted os started H enc)

theorem proved : Rows.GrantSetsSaid :=
  over
#print axioms proved
end Go.Proofs.Ytfihbfkgkljjdaa.grantSets
