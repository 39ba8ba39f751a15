/- For any row of pairs, pair, place and value LabelMore of layer 6 returns true: a context with a pair more has all pairs of the one without it, and is not equal to it; with a value changed neither has all of the other one's. No condition. -/
import Derived.Test.YtbfcbffmgdijfaaRows
import Derived.WalkKit
import Derived.ProofKit
import Derived.OpenShut
import Derived.Test.YtbfcbffmgdijfaaPost
import Derived.Test.YtbfcbffmgdijfaaL3
import Derived.Lib.SmallJoins
import Derived.Test.YtbfcbffmgdijfaaO1
import Derived.Deep.DeepHandedRow
import Derived.Carry
import Derived.ShutString
namespace Go.Proofs.Ytbfcbffmgdijfaa.labelMore
open Go.ChangeShapes Go.WideShapes Go.ChangeAt Go.RowKit
open Go.Own
set_option linter.unusedVariables false      -- a walk need not use every 'w<i>' (that an integer argument fits its kind)

theorem own : ownKnob Try.prog.godebug = none := by kernel_rfl

theorem onePair : ∃ f0 f1, Try.prog.underlying 39 = some (.struct #[f0, f1]) ∧ Go.Deep.oneCellFields Try.prog #[f0, f1] = true ∧ f0.type = 9 ∧ f1.type = 9 := ⟨_, _, Try.underlying39, by kernel_rfl, rfl, rfl⟩
theorem walk (L : List P2) (p : Option Addr) (cap : Nat) (hL : L.length ≤ 9223372036854775807) (hs : ∀ x ∈ L, x.1.size ≤ 9223372036854775807 ∧ x.2.size ≤ 9223372036854775807) (k y v : ByteArray) (hk : k.size ≤ 9223372036854775807) (hy : y.size ≤ 9223372036854775807) (hv : v.size ≤ 9223372036854775807) (z : Int)
    (w : World) (hP : PsC w (.slice p L.length cap) L) :
    Calls Try.prog 5 #[.slice p L.length cap, .agg #[.string k, .string y], .int .i64 z, .string v] w fun e w' => e = .returned (.bool true) ∧ Below w.heap.size w w' := by
  cases h1 : fewB L with
  | false => exact more_skip L p cap hL hs k y v hk hy hv z (Or.inl h1) w hP
  | true =>
    by_cases h2 : k.size ≤ 200
    · by_cases h3 : y.size ≤ 200
      · by_cases h4 : v.size ≤ 200
        · exact more_few L p cap h1 k y v h2 h3 h4 z w hP
        · exact more_skip L p cap hL hs k y v hk hy hv z (Or.inr (Or.inr (Or.inr ⟨h1, h2, h3, by omega⟩))) w hP
      · exact more_skip L p cap hL hs k y v hk hy hv z (Or.inr (Or.inr (Or.inl ⟨h1, h2, by omega⟩))) w hP
    · exact more_skip L p cap hL hs k y v hk hy hv z (Or.inr (Or.inl ⟨h1, by omega⟩)) w hP

set_option maxRecDepth 100000 in
theorem lifted (os : Os) (started : os.Started) (H : Type) (enc : TypeId × Value → H) :
    ReturnsInHanded {} Try.checked os 5 .any (Rows.labelMoreSpec.pre6 enc Try.prog Try.f5 Rows.labelMoreRow.domain false) (Rows.labelMoreSpec.post enc Try.prog Try.f5 false true false false) := by
  refine returnsInHanded_of_change (C := Try.checked) own started (by kernel_rfl) Try.func5
    (ChangeSpec.witness6 (enc := enc) (C := Try.checked) false ⟨#[], #[.slice none 0 0, .agg #[.string ByteArray.empty, .string ByteArray.empty], .int .i64 0, .string ByteArray.empty], []⟩ 8 (by kernel_rfl) (by kernel_rfl) (by kernel_rfl) (by kernel_rfl)) ?_
  intro W base args ds gs before hval0 hW hcnd _
  have hval : ∀ (j : Nat) t v, Try.f5.params[j]? = some t → args[j]? = some v → Value.okWide Try.prog W .any base t v := hval0
  have hW' := hW
  obtain ⟨p, q, hA0, hV, rfl, hfz, hnd⟩ := hW
  have hA : DataW.TrodAll enc Try.prog W 0 (fun _ => true) true Try.f5.params.toList args.toList ds p := hA0
  rw [Try.params5] at hA hval
  obtain ⟨v0, vs0, d0, ds0, p0, q0, hargs, rfl, rfl, h0, r0⟩ := trodAll_cons hA
  obtain ⟨v1, vs1, d1, ds1, p1, q1, rfl, rfl, rfl, h1, r1⟩ := trodAll_cons r0
  obtain ⟨v2, vs2, d2, ds2, p2, q2, rfl, rfl, rfl, h2, r2⟩ := trodAll_cons r1
  obtain ⟨v3, vs3, d3, ds3, p3, q3, rfl, rfl, rfl, h3, r3⟩ := trodAll_cons r2
  obtain ⟨rfl, rfl, rfl⟩ := trodAll_nil r3
  obtain rfl : args = #[v0, v1, v2, v3] := by cases args; simp_all
  obtain ⟨rfl, rfl⟩ := trodVars_none hV
  obtain ⟨a0, len0, cap0, rfl⟩ := okWide_slice Try.underlying22 (hval 0 22 v0 rfl rfl)
  have h0k := h0
  have h1k := h1
  have h2k := h2
  have h3k := h3
  obtain ⟨f0, f1, hu, hone, t0, t1⟩ := onePair
  obtain ⟨c0, c1, y0, y1, m, rfl, _, _, hy0, hy1⟩ := Go.Joins.open_agg2 hu hone cells39 (hval 1 39 v1 rfl rfl) h1
  rw [t0] at hy0
  rw [t1] at hy1
  obtain ⟨k, ek, _, lk⟩ := DataW.trod_string Try.underlying9 hy0
  obtain ⟨y, ey, _, ly⟩ := DataW.trod_string Try.underlying9 hy1
  simp only [List.cons.injEq, and_true] at ek ey
  subst ek
  subst ey
  obtain ⟨z, rfl⟩ := okWide_int Try.underlying3 (hval 2 3 v2 rfl rfl)
  obtain ⟨v, rfl, _, _, lv⟩ := Go.ChangeMaps.open_string Try.underlying9 (hval 3 9 v3 rfl rfl) h3
  obtain ⟨fuel0, hf0⟩ := h0
  obtain ⟨L, hLl, hLm, hP, hs⟩ := open_pairs hf0
  subst hLl
  clear hA0 hval0
  simp only [List.append_nil] at hW'
  have hlt0 : ∀ x ∈ p0, x.block < W.heap.size := fun x hx => by simpa using hW'.lt x (by simp [hx])
  have hlt1 : ∀ x ∈ p1, x.block < W.heap.size := fun x hx => by simpa using hW'.lt x (by simp [hx])
  have hlt2 : ∀ x ∈ p2, x.block < W.heap.size := fun x hx => by simpa using hW'.lt x (by simp [hx])
  have hlt3 : ∀ x ∈ p3, x.block < W.heap.size := fun x hx => by simpa using hW'.lt x (by simp [hx])
  unfold maxLen at lk ly lv
  refine (walk L a0 cap0 hLm hs k y v lk ly lv z W hP).mono fun e W' ⟨he, hg⟩ => ?_
  subst he
  exact ⟨_, rfl, _, _, _, [], p0 ++ (p1 ++ (p2 ++ p3)), [], hW', (trodAll_cons_mk (shut_bool Try.underlying4 _) trodAll_mk0), trodAll_cons_mk (Below.trod laidOut (by kernel_rfl) (of_decide_eq_true (by kernel_rfl)) h0k hg hlt0) (trodAll_cons_mk (Below.trod laidOut (by kernel_rfl) (of_decide_eq_true (by kernel_rfl)) h1k hg hlt1) (trodAll_cons_mk (Below.trod laidOut (by kernel_rfl) (of_decide_eq_true (by kernel_rfl)) h2k hg hlt2) (trodAll_mk1 (Below.trod laidOut (by kernel_rfl) (of_decide_eq_true (by kernel_rfl)) h3k hg hlt3)))), rfl, hg.frame _, fun h => by cases h⟩

theorem over : Rows.labelMoreRow.holds Try.pinned (OpenSpec.ofChange Rows.labelMoreSpec) :=
  OpenClaim.holds_of_wide 5 Try.f5 rfl rfl rfl rfl rfl rfl rfl ⟨rfl, rfl, rfl, rfl, rfl⟩ rfl rfl rfl rfl rfl (by kernel_rfl) Try.func5 (by kernel_rfl)
    (of_decide_eq_true (by kernel_rfl)) (by unfold Func.isWrapper; first | (rw [if_pos (by decide +kernel)]; kernel_rfl) | (rw [if_neg (by decide +kernel)]; exact ⟨rfl, rfl⟩))
    (fun os started H enc _ => lifted os started H enc)

theorem proved : Rows.LabelMoreSaid :=
  over
#print axioms proved
end Go.Proofs.Ytbfcbffmgdijfaa.labelMore
