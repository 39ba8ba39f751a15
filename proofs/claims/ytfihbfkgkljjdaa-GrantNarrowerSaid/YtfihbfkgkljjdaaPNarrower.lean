/- For any three grants, any number and any row of pairs GrantNarrower of layer 13 returns true: each grant is narrower than itself just if it is right, one narrower than a narrower one is narrower, and what a narrower grant allows the wider one of the same Who allows. No condition. -/
import Derived.Test.YtfihbfkgkljjdaaRows
import Derived.WalkKit
import Derived.ProofKit
import Derived.OpenShut
import Derived.Test.YtfihbfkgkljjdaaGJ
import Derived.Test.YtfihbfkgkljjdaaO2
import Derived.Carry
import Derived.ShutString
namespace Go.Proofs.Ytfihbfkgkljjdaa.grantNarrower
open Go.ChangeShapes Go.WideShapes Go.ChangeAt Go.RowKit
open Go.ChangeMaps (open_string shut_string)
open Go.Own
set_option linter.unusedVariables false

theorem own : ownKnob Try.prog.godebug = none := by kernel_rfl

set_option maxRecDepth 100000 in
theorem lifted (os : Os) (started : os.Started) (H : Type) (enc : TypeId × Value → H) :
    ReturnsInHanded {} Try.checked os 4 .any (Rows.grantNarrowerSpec.pre6 enc Try.prog Try.f4 Rows.grantNarrowerRow.domain false) (Rows.grantNarrowerSpec.post enc Try.prog Try.f4 false true false false) := by
  refine returnsInHanded_of_change (C := Try.checked) own started (by kernel_rfl) Try.func4
    (ChangeSpec.witness6 (enc := enc) (C := Try.checked) false ⟨#[], #[.agg #[.int .i64 0, .string ByteArray.empty, .string ByteArray.empty, .int .i64 0, .slice none 0 0, .bool false], .agg #[.int .i64 0, .string ByteArray.empty, .string ByteArray.empty, .int .i64 0, .slice none 0 0, .bool false], .agg #[.int .i64 0, .string ByteArray.empty, .string ByteArray.empty, .int .i64 0, .slice none 0 0, .bool false], .int .i64 0, .slice none 0 0], []⟩ 8 (by kernel_rfl) (by kernel_rfl) (by kernel_rfl) (by kernel_rfl)) ?_
  intro W base args ds gs before hval0 hW hcnd _
  have hval : ∀ (j : Nat) t v, Try.f4.params[j]? = some t → args[j]? = some v → Value.okWide Try.prog W .any base t v := hval0
  have hW' := hW
  obtain ⟨p, q, hA0, hV, rfl, hfz, hnd⟩ := hW
  have hA : DataW.TrodAll enc Try.prog W 0 (fun _ => true) true Try.f4.params.toList args.toList ds p := hA0
  rw [Try.params4] at hA hval
  obtain ⟨v0, vs0, d0, ds0, p0, q0, hargs, rfl, rfl, h0, r0⟩ := trodAll_cons hA
  obtain ⟨v1, vs1, d1, ds1, p1, q1, rfl, rfl, rfl, h1, r1⟩ := trodAll_cons r0
  obtain ⟨v2, vs2, d2, ds2, p2, q2, rfl, rfl, rfl, h2, r2⟩ := trodAll_cons r1
  obtain ⟨v3, vs3, d3, ds3, p3, q3, rfl, rfl, rfl, h3, r3⟩ := trodAll_cons r2
  obtain ⟨v4, vs4, d4, ds4, p4, q4, rfl, rfl, rfl, h4, r4⟩ := trodAll_cons r3
  obtain ⟨rfl, rfl, rfl⟩ := trodAll_nil r4
  obtain rfl : args = #[v0, v1, v2, v3, v4] := by cases args; simp_all
  obtain ⟨rfl, rfl⟩ := trodVars_none hV
  obtain ⟨f0, f1, f2, f3, f4, f5, hu, _, _, _, _, _, _, _⟩ := fieldsG
  have h0k := h0
  have h1k := h1
  have h2k := h2
  have h4k := h4
  obtain ⟨cs0, rfl, hsz0⟩ := okWide_struct hu (hval 0 29 v0 rfl rfl)
  obtain ⟨fuel0, hf0⟩ := h0
  obtain ⟨g0, hg0, hs0⟩ := open_grant fuel0 _ _ hf0
  have hg0' : GrAt W (.agg cs0) g0 := by simpa [Value.cells] using hg0
  obtain ⟨cs1, rfl, hsz1⟩ := okWide_struct hu (hval 1 29 v1 rfl rfl)
  obtain ⟨fuel1, hf1⟩ := h1
  obtain ⟨g1, hg1, hs1⟩ := open_grant fuel1 _ _ hf1
  have hg1' : GrAt W (.agg cs1) g1 := by simpa [Value.cells] using hg1
  obtain ⟨cs2, rfl, hsz2⟩ := okWide_struct hu (hval 2 29 v2 rfl rfl)
  obtain ⟨fuel2, hf2⟩ := h2
  obtain ⟨g2, hg2, hs2⟩ := open_grant fuel2 _ _ hf2
  have hg2' : GrAt W (.agg cs2) g2 := by simpa [Value.cells] using hg2
  obtain ⟨z3, rfl, rfl, rfl, w3⟩ := open_int Try.underlying3 (hval 3 3 v3 rfl rfl) h3
  obtain ⟨a4, len4, cap4, rfl⟩ := okWide_slice Try.underlying23 (hval 4 23 v4 rfl rfl)
  obtain ⟨fuel4, hf4⟩ := h4
  obtain ⟨L4, hL4, hn4, hP4, hs4⟩ := open_pairs hf4
  subst hL4
  clear hA0 hval0
  simp only [List.append_nil, List.nil_append] at hW'
  have hlt0 : ∀ x ∈ p0, x.block < W.heap.size := fun x hx => by simpa using hW'.lt x (by simp [hx])
  have hlt1 : ∀ x ∈ p1, x.block < W.heap.size := fun x hx => by simpa using hW'.lt x (by simp [hx])
  have hlt2 : ∀ x ∈ p2, x.block < W.heap.size := fun x hx => by simpa using hW'.lt x (by simp [hx])
  have hlt4 : ∀ x ∈ p4, x.block < W.heap.size := fun x hx => by simpa using hW'.lt x (by simp [hx])
  have walk : Calls Try.prog 4 #[.agg cs0, .agg cs1, .agg cs2, .int .i64 z3, .slice a4 L4.length cap4] W fun e w' => e = .returned (.bool true) ∧ Below W.heap.size W w' := by
    by_cases hf : fewG g0 = true ∧ fewG g1 = true ∧ fewG g2 = true ∧ fewB L4 = true
    · exact narrower_main g0 g1 g2 hs0 hs1 hs2 z3 L4 hn4 hs4 a4 cap4 _ _ _ W hg0' hg1' hg2' hP4 hf.1 hf.2.1 hf.2.2.1 hf.2.2.2
    · refine narrower_skip g0 g1 g2 hs0 hs1 hs2 z3 L4 hn4 hs4 a4 cap4 _ _ _ W hg0' hg1' hg2' hP4 ?_
      cases h0 : fewG g0 <;> cases h1 : fewG g1 <;> cases h2 : fewG g2 <;> cases h3 : fewB L4 <;> simp_all
  refine walk.mono fun e W' ⟨he, hg⟩ => ?_
  subst he
  exact ⟨_, rfl, _, _, _, [], p0 ++ (p1 ++ (p2 ++ p4)), [], hW', (trodAll_cons_mk (shut_bool Try.underlying4 _) trodAll_mk0), by
    have hall := trodAll_cons_mk (Below.trod laidOut (by kernel_rfl) (of_decide_eq_true (by kernel_rfl)) h0k hg hlt0) (trodAll_cons_mk (Below.trod laidOut (by kernel_rfl) (of_decide_eq_true (by kernel_rfl)) h1k hg hlt1) (trodAll_cons_mk (Below.trod laidOut (by kernel_rfl) (of_decide_eq_true (by kernel_rfl)) h2k hg hlt2) (trodAll_cons_mk (shut_int Try.underlying3 w3) (trodAll_cons_mk (Below.trod laidOut (by kernel_rfl) (of_decide_eq_true (by kernel_rfl)) h4k hg hlt4) trodAll_mk0))))
    simp only [List.append_nil, List.nil_append] at hall
    exact hall, rfl, hg.frame _, fun h => by cases h⟩

theorem over : Rows.grantNarrowerRow.holds Try.pinned (OpenSpec.ofChange Rows.grantNarrowerSpec) :=
  OpenClaim.holds_of_wide 4 Try.f4 rfl rfl rfl rfl rfl rfl rfl ⟨rfl, rfl, rfl, rfl, rfl⟩ rfl rfl rfl rfl rfl (by kernel_rfl) Try.func4 (by kernel_rfl)
    (of_decide_eq_true (by kernel_rfl)) (by unfold Func.isWrapper; first | (rw [if_pos (by decide +kernel)]; kernel_rfl) | (rw [if_neg (by decide +kernel)]; exact ⟨rfl, rfl⟩))
    (fun os started H enc _ => lifted os started H enc)

theorem proved : Rows.GrantNarrowerSaid :=
  over
#print axioms proved
end Go.Proofs.Ytfihbfkgkljjdaa.grantNarrower
