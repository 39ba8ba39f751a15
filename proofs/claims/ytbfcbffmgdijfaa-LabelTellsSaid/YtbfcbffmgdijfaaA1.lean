/- Layer 6's own examples, by the kernel. -/
import Derived.Test.YtbfcbffmgdijfaaC6
import Derived.Test.YtbfcbffmgdijfaaN2
import Derived.Test.YtbfcbffmgdijfaaG1
namespace Go.Proofs.Ytbfcbffmgdijfaa
open Go.RowKit Go.Own
def xA : P2 := ({ data := #[97] }, { data := #[49] })
def xB : P2 := ({ data := #[98] }, { data := #[50] })
def sAB : ByteArray := { data := #[1, 97, 1, 49, 1, 98, 1, 50] }
theorem sort_ba : sortP [xB, xA] = [xA, xB] := by
  refine (sortP_eq (L := [xB, xA]) (M := [xA, xB]) (by decide) (List.Perm.swap _ _ _) ?_).symm
  simp only [List.pairwise_cons, List.mem_cons, List.not_mem_nil, or_false, forall_eq, false_implies, implies_true, List.Pairwise.nil, and_true]
  decide
theorem right_ba : rightP [xB, xA] = true := by decide
theorem text_ba : textR [xB, xA] = .tuple #[.string sAB, .int .i64 0] := by
  unfold textR
  rw [if_pos right_ba, textP, sort_ba, show mkS (encs [xA, xB]) = sAB by decide]
theorem rd_ab : Own.rd 8 sAB = [xA, xB] := by decide +kernel
theorem right_ab : rightP [xA, xB] = true := by decide
theorem sort_ab : sortP [xA, xB] = [xA, xB] := by
  refine (sortP_eq (L := [xA, xB]) (M := [xA, xB]) (by decide) (List.Perm.refl _) ?_).symm
  simp only [List.pairwise_cons, List.mem_cons, List.not_mem_nil, or_false, forall_eq, false_implies, implies_true, List.Pairwise.nil, and_true]
  decide
theorem ok_ab : OkS sAB := by
  unfold OkS
  rw [rd_ab]
  exact ⟨right_ab, by rw [textP, sort_ab]; decide⟩
theorem bad_1 : ¬ OkS { data := #[1] } := by
  rintro ⟨h, _⟩
  rw [show Own.rd 8 { data := #[1] } = [({ data := #[] }, { data := #[] })] by decide +kernel] at h
  revert h; decide
theorem runes_key1 : runesN { data := #[107, 101, 121, 45, 49] } = 5 := by decide
theorem runes_al2 : runesN { data := #[206, 177, 50] } = 2 := by decide
theorem runes_Key : runesN { data := #[75, 101, 121] } = 0 := by decide
theorem runes_da : runesN { data := #[45, 97] } = 0 := by decide
theorem eq_ba : eqB [xB, xA] [xA, xB] = true := by
  unfold eqB subB
  rw [right_ba, right_ab, inB_yes (fun x hx => by simp at hx ⊢; exact hx.symm)]; rfl
theorem sub_a : subB [xA] [xB, xA] = true := by
  unfold subB
  rw [show rightP [xA] = true by decide, right_ba, inB_yes (fun x hx => by simp at hx ⊢; exact Or.inr hx)]; rfl
theorem sub_b : subB [xB, xA] [xA] = false := by
  unfold subB
  rw [inB_no (x := xB) (by simp) (by simp; decide)]; simp
end Go.Proofs.Ytbfcbffmgdijfaa
