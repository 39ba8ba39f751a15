/- For any two rows of pairs LabelOrder of layer 6 returns true: a context's text hangs on no order of its pairs, and is parsed to them; of equal ones it is the same, of unlike ones unlike. No condition. -/
import Derived.Test.YtbfcbffmgdijfaaRows
import Derived.WalkKit
import Derived.ProofKit
import Derived.OpenShut
import Derived.Test.YtbfcbffmgdijfaaPost
import Derived.Test.YtbfcbffmgdijfaaL2
import Derived.Test.YtbfcbffmgdijfaaO1
import Derived.Deep.DeepHandedRow
import Derived.Carry
import Derived.ShutString
namespace Go.Proofs.Ytbfcbffmgdijfaa.labelOrder
open Go.ChangeShapes Go.WideShapes Go.ChangeAt Go.RowKit
open Go.Own
set_option linter.unusedVariables false      -- a walk need not use every 'w<i>' (that an integer argument fits its kind)

theorem own : ownKnob Try.prog.godebug = none := by kernel_rfl

theorem walk (A : List P2) (p : Option Addr) (cap : Nat) (hA : A.length ≤ 9223372036854775807) (hs : ∀ x ∈ A, x.1.size ≤ 9223372036854775807 ∧ x.2.size ≤ 9223372036854775807)
    (C : List P2) (q : Option Addr) (qcap : Nat) (hC : C.length ≤ 9223372036854775807) (hsC : ∀ x ∈ C, x.1.size ≤ 9223372036854775807 ∧ x.2.size ≤ 9223372036854775807) (w : World) (hP : PsC w (.slice p A.length cap) A) (hQ : PsC w (.slice q C.length qcap) C) :
    Calls Try.prog 4 #[.slice p A.length cap, .slice q C.length qcap] w fun e w' => e = .returned (.bool true) ∧ Below w.heap.size w w' := by
  cases h1 : fewB A with
  | false => exact order_skip A p cap hA hs C q qcap hC hsC (Or.inl h1) w hP hQ
  | true =>
    cases h2 : fewB C with
    | false => exact order_skip A p cap hA hs C q qcap hC hsC (Or.inr ⟨h1, h2⟩) w hP hQ
    | true => exact order_few A p cap h1 C q qcap h2 w hP hQ

set_option maxRecDepth 100000 in
theorem lifted (os : Os) (started : os.Started) (H : Type) (enc : TypeId × Value → H) :
    ReturnsInHanded {} Try.checked os 4 .any (Rows.labelOrderSpec.pre6 enc Try.prog Try.f4 Rows.labelOrderRow.domain false) (Rows.labelOrderSpec.post enc Try.prog Try.f4 false true false false) := by
  refine returnsInHanded_of_change (C := Try.checked) own started (by kernel_rfl) Try.func4
    (ChangeSpec.witness6 (enc := enc) (C := Try.checked) false ⟨#[], #[.slice none 0 0, .slice none 0 0], []⟩ 8 (by kernel_rfl) (by kernel_rfl) (by kernel_rfl) (by kernel_rfl)) ?_
  intro W base args ds gs before hval0 hW hcnd _
  have hval : ∀ (j : Nat) t v, Try.f4.params[j]? = some t → args[j]? = some v → Value.okWide Try.prog W .any base t v := hval0
  have hW' := hW
  obtain ⟨p, q, hA0, hV, rfl, hfz, hnd⟩ := hW
  have hA : DataW.TrodAll enc Try.prog W 0 (fun _ => true) true Try.f4.params.toList args.toList ds p := hA0
  rw [Try.params4] at hA hval
  obtain ⟨v0, vs0, d0, ds0, p0, q0, hargs, rfl, rfl, h0, r0⟩ := trodAll_cons hA
  obtain ⟨v1, vs1, d1, ds1, p1, q1, rfl, rfl, rfl, h1, r1⟩ := trodAll_cons r0
  obtain ⟨rfl, rfl, rfl⟩ := trodAll_nil r1
  obtain rfl : args = #[v0, v1] := by cases args; simp_all
  obtain ⟨rfl, rfl⟩ := trodVars_none hV
  obtain ⟨a0, len0, cap0, rfl⟩ := okWide_slice Try.underlying22 (hval 0 22 v0 rfl rfl)
  obtain ⟨a1, len1, cap1, rfl⟩ := okWide_slice Try.underlying22 (hval 1 22 v1 rfl rfl)
  have h0k := h0
  have h1k := h1
  obtain ⟨fuel0, hf0⟩ := h0
  obtain ⟨fuel1, hf1⟩ := h1
  obtain ⟨A, hAl, hAm, hP, hs⟩ := open_pairs hf0
  obtain ⟨C, hCl, hCm, hQ, hsC⟩ := open_pairs hf1
  subst hAl
  subst hCl
  clear hA0 hval0
  simp only [List.append_nil] at hW'
  have hlt0 : ∀ x ∈ p0, x.block < W.heap.size := fun x hx => by simpa using hW'.lt x (List.mem_append.2 (Or.inl hx))
  have hlt1 : ∀ x ∈ p1, x.block < W.heap.size := fun x hx => by simpa using hW'.lt x (List.mem_append.2 (Or.inr hx))
  refine (walk A a0 cap0 hAm hs C a1 cap1 hCm hsC W hP hQ).mono fun e W' ⟨he, hg⟩ => ?_
  subst he
  exact ⟨_, rfl, _, _, _, [], p0 ++ p1, [], hW', (trodAll_cons_mk (shut_bool Try.underlying4 _) trodAll_mk0), trodAll_cons_mk (Below.trod laidOut (by kernel_rfl) (of_decide_eq_true (by kernel_rfl)) h0k hg hlt0) (trodAll_mk1 (Below.trod laidOut (by kernel_rfl) (of_decide_eq_true (by kernel_rfl)) h1k hg hlt1)), rfl, hg.frame _, fun h => by cases h⟩

theorem over : Rows.labelOrderRow.holds Try.pinned (OpenSpec.ofChange Rows.labelOrderSpec) :=
  OpenClaim.holds_of_wide 4 Try.f4 rfl rfl rfl rfl rfl rfl rfl ⟨rfl, rfl, rfl, rfl, rfl⟩ rfl rfl rfl rfl rfl (by kernel_rfl) Try.func4 (by kernel_rfl)
    (of_decide_eq_true (by kernel_rfl)) (by unfold Func.isWrapper; first | (rw [if_pos (by decide +kernel)]; kernel_rfl) | (rw [if_neg (by decide +kernel)]; exact ⟨rfl, rfl⟩))
    (fun os started H enc _ => lifted os started H enc)

theorem proved : Rows.LabelOrderSaid :=
  over
#print axioms proved
end Go.Proofs.Ytbfcbffmgdijfaa.labelOrder
