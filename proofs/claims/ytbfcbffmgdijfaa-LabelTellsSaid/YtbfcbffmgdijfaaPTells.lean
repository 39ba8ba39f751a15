/- For any name, two rows of pairs and text LabelTells of layer 6 returns true: the name's runes, the pairs' text, the text's pairs, and whether one row is within the other or equal to it, are the document's. No condition. -/
import Derived.Test.YtbfcbffmgdijfaaRows
import Derived.WalkKit
import Derived.ProofKit
import Derived.OpenShut
import Derived.Test.YtbfcbffmgdijfaaPost
import Derived.Test.YtbfcbffmgdijfaaL4
import Derived.Lib.SmallJoins
import Derived.Test.YtbfcbffmgdijfaaO1
import Derived.Deep.DeepHandedRow
import Derived.Carry
import Derived.ShutString
namespace Go.Proofs.Ytbfcbffmgdijfaa.labelTells
open Go.ChangeShapes Go.WideShapes Go.ChangeAt Go.RowKit
open Go.Own
set_option linter.unusedVariables false      -- a walk need not use every 'w<i>' (that an integer argument fits its kind)

theorem own : ownKnob Try.prog.godebug = none := by kernel_rfl

theorem walk (x s : ByteArray) (A B : List P2) (p q : Option Addr) (cp cq : Nat) (hA : A.length ≤ 9223372036854775807) (hB : B.length ≤ 9223372036854775807) (hsA : ∀ x ∈ A, x.1.size ≤ 9223372036854775807 ∧ x.2.size ≤ 9223372036854775807) (hsB : ∀ x ∈ B, x.1.size ≤ 9223372036854775807 ∧ x.2.size ≤ 9223372036854775807) (hx : x.size ≤ 9223372036854775807) (hss : s.size ≤ 9223372036854775807)
    (w : World) (hP : PsC w (.slice p A.length cp) A) (hQ : PsC w (.slice q B.length cq) B) :
    Calls Try.prog 3 #[.string x, .slice p A.length cp, .slice q B.length cq, .string s] w fun e w' => e = .returned (.bool true) ∧ Below w.heap.size w w' := by
  by_cases h1 : x.size ≤ 300
  · cases h2 : fewB A with
    | false => exact tells_skip x s A B p q cp cq hA hB hsA hsB hx hss (Or.inr (Or.inl ⟨h1, h2⟩)) w hP hQ
    | true =>
      cases h3 : fewB B with
      | false => exact tells_skip x s A B p q cp cq hA hB hsA hsB hx hss (Or.inr (Or.inr (Or.inl ⟨h1, h2, h3⟩))) w hP hQ
      | true =>
        by_cases h4 : s.size ≤ 1500
        · exact tells_main x s A B p q cp cq h2 h3 h1 h4 w hP hQ
        · exact tells_skip x s A B p q cp cq hA hB hsA hsB hx hss (Or.inr (Or.inr (Or.inr ⟨h1, h2, h3, by omega⟩))) w hP hQ
  · exact tells_skip x s A B p q cp cq hA hB hsA hsB hx hss (Or.inl (by omega)) w hP hQ

set_option maxRecDepth 100000 in
theorem lifted (os : Os) (started : os.Started) (H : Type) (enc : TypeId × Value → H) :
    ReturnsInHanded {} Try.checked os 3 .any (Rows.labelTellsSpec.pre6 enc Try.prog Try.f3 Rows.labelTellsRow.domain false) (Rows.labelTellsSpec.post enc Try.prog Try.f3 false true false false) := by
  refine returnsInHanded_of_change (C := Try.checked) own started (by kernel_rfl) Try.func3
    (ChangeSpec.witness6 (enc := enc) (C := Try.checked) false ⟨#[], #[.string ByteArray.empty, .slice none 0 0, .slice none 0 0, .string ByteArray.empty], []⟩ 8 (by kernel_rfl) (by kernel_rfl) (by kernel_rfl) (by kernel_rfl)) ?_
  intro W base args ds gs before hval0 hW hcnd _
  have hval : ∀ (j : Nat) t v, Try.f3.params[j]? = some t → args[j]? = some v → Value.okWide Try.prog W .any base t v := hval0
  have hW' := hW
  obtain ⟨p, q, hA0, hV, rfl, hfz, hnd⟩ := hW
  have hA : DataW.TrodAll enc Try.prog W 0 (fun _ => true) true Try.f3.params.toList args.toList ds p := hA0
  rw [Try.params3] at hA hval
  obtain ⟨v0, vs0, d0, ds0, p0, q0, hargs, rfl, rfl, h0, r0⟩ := trodAll_cons hA
  obtain ⟨v1, vs1, d1, ds1, p1, q1, rfl, rfl, rfl, h1, r1⟩ := trodAll_cons r0
  obtain ⟨v2, vs2, d2, ds2, p2, q2, rfl, rfl, rfl, h2, r2⟩ := trodAll_cons r1
  obtain ⟨v3, vs3, d3, ds3, p3, q3, rfl, rfl, rfl, h3, r3⟩ := trodAll_cons r2
  obtain ⟨rfl, rfl, rfl⟩ := trodAll_nil r3
  obtain rfl : args = #[v0, v1, v2, v3] := by cases args; simp_all
  obtain ⟨rfl, rfl⟩ := trodVars_none hV
  obtain ⟨a1, len1, cap1, rfl⟩ := okWide_slice Try.underlying22 (hval 1 22 v1 rfl rfl)
  obtain ⟨a2, len2, cap2, rfl⟩ := okWide_slice Try.underlying22 (hval 2 22 v2 rfl rfl)
  have h0k := h0
  have h1k := h1
  have h2k := h2
  have h3k := h3
  obtain ⟨x, rfl, _, _, lx⟩ := Go.ChangeMaps.open_string Try.underlying9 (hval 0 9 v0 rfl rfl) h0
  obtain ⟨s, rfl, _, _, ls⟩ := Go.ChangeMaps.open_string Try.underlying9 (hval 3 9 v3 rfl rfl) h3
  obtain ⟨fuel1, hf1⟩ := h1
  obtain ⟨fuel2, hf2⟩ := h2
  obtain ⟨A, hAl, hAm, hPA, hsA⟩ := open_pairs hf1
  obtain ⟨B, hBl, hBm, hPB, hsB⟩ := open_pairs hf2
  subst hAl
  subst hBl
  clear hA0 hval0
  simp only [List.append_nil] at hW'
  have hlt0 : ∀ x ∈ p0, x.block < W.heap.size := fun x hx => by simpa using hW'.lt x (by simp [hx])
  have hlt1 : ∀ x ∈ p1, x.block < W.heap.size := fun x hx => by simpa using hW'.lt x (by simp [hx])
  have hlt2 : ∀ x ∈ p2, x.block < W.heap.size := fun x hx => by simpa using hW'.lt x (by simp [hx])
  have hlt3 : ∀ x ∈ p3, x.block < W.heap.size := fun x hx => by simpa using hW'.lt x (by simp [hx])
  unfold maxLen at lx ls
  refine (walk x s A B a1 a2 cap1 cap2 hAm hBm hsA hsB lx ls W hPA hPB).mono fun e W' ⟨he, hg⟩ => ?_
  subst he
  exact ⟨_, rfl, _, _, _, [], p0 ++ (p1 ++ (p2 ++ p3)), [], hW', (trodAll_cons_mk (shut_bool Try.underlying4 _) trodAll_mk0), trodAll_cons_mk (Below.trod laidOut (by kernel_rfl) (of_decide_eq_true (by kernel_rfl)) h0k hg hlt0) (trodAll_cons_mk (Below.trod laidOut (by kernel_rfl) (of_decide_eq_true (by kernel_rfl)) h1k hg hlt1) (trodAll_cons_mk (Below.trod laidOut (by kernel_rfl) (of_decide_eq_true (by kernel_rfl)) h2k hg hlt2) (trodAll_mk1 (Below.trod laidOut (by kernel_rfl) (of_decide_eq_true (by kernel_rfl)) h3k hg hlt3)))), rfl, hg.frame _, fun h => by cases h⟩

theorem over : Rows.labelTellsRow.holds Try.pinned (OpenSpec.ofChange Rows.labelTellsSpec) :=
  OpenClaim.holds_of_wide 3 Try.f3 rfl rfl rfl rfl rfl rfl rfl ⟨rfl, rfl, rfl, rfl, rfl⟩ rfl rfl rfl rfl rfl (by kernel_rfl) Try.func3 (by kernel_rfl)
    (of_decide_eq_true (by kernel_rfl)) (by unfold Func.isWrapper; first | (rw [if_pos (by decide +kernel)]; kernel_rfl) | (rw [if_neg (by decide +kernel)]; exact ⟨rfl, rfl⟩))
    (fun os started H enc _ => lifted os started H enc)

theorem proved : Rows.LabelTellsSaid :=
  over
#print axioms proved
end Go.Proofs.Ytbfcbffmgdijfaa.labelTells
