/- The examples of layer 12, by the layer below; No condition. -/
import Derived.Test.YtfamoakicgmfgaaZB
import Derived.Test.YtfamoakicgmfgaaZD
namespace Go.Proofs.Ytfamoakicgmfgaa
open Go.RowKit Go.Own
open Lb (xA xB hd0 textS)
theorem sort_ba : Own.Lb.sortP [xB, xA] = [xA, xB] := by
  refine (Own.Lb.sortP_eq (L := [xB, xA]) (M := [xA, xB]) (by decide) (List.Perm.swap _ _ _) ?_).symm
  simp only [List.pairwise_cons, List.mem_cons, List.not_mem_nil, or_false, forall_eq, false_implies, implies_true, List.Pairwise.nil, and_true]
  decide
theorem sort_ab : Own.Lb.sortP [xA, xB] = [xA, xB] := by
  refine (Own.Lb.sortP_eq (L := [xA, xB]) (M := [xA, xB]) (by decide) (List.Perm.refl _) ?_).symm
  simp only [List.pairwise_cons, List.mem_cons, List.not_mem_nil, or_false, forall_eq, false_implies, implies_true, List.Pairwise.nil, and_true]
  decide
theorem sort_a : Own.Lb.sortP [xA] = [xA] := by
  refine (Own.Lb.sortP_eq (L := [xA]) (M := [xA]) (by decide) (List.Perm.refl _) ?_).symm
  simp
def tAB : ByteArray := { data := #[1, 97, 1, 49, 1, 98, 1, 50] }
def tA : ByteArray := { data := #[1, 97, 1, 49] }
theorem text_ab : Own.Lb.mkS (Own.Lb.textP [xA, xB]) = tAB := by rw [Own.Lb.textP, sort_ab]; decide
theorem text_ba : Own.Lb.mkS (Own.Lb.textP [xB, xA]) = tAB := by rw [Own.Lb.textP, sort_ba]; decide
theorem text_a : Own.Lb.mkS (Own.Lb.textP [xA]) = tA := by rw [Own.Lb.textP, sort_a]; decide
def b0 : ByteArray := Lb.laidH hd0 ++ sealA (cntB 0) hd0.nonce (Lb.laidH hd0 ++ tAB) textS
def r0 : ByteArray := sealA (cntB 0) hd0.nonce (Lb.laidH hd0 ++ tAB) textS
theorem r0_size : r0.size = 20 := by unfold r0; rw [sealA_size]; rfl
theorem right0 : Lb.rightH hd0 = true := by decide
theorem part0 : Lb.partS b0 = some (hd0, r0) := Lb.partS_laid hd0 r0 right0 (by rw [r0_size]; decide) (by rw [r0_size]; decide)
theorem wake : Lb.Wake sealA opnA (cntB 0) b0 r0 where
  built := by
    unfold Lb.buildA
    rw [if_pos ⟨by decide, right0, cntB_size 0⟩, if_pos (by decide), text_ab]
    rfl
  size := by
    show (Lb.laidH hd0 ++ r0).size = 39
    rw [ByteArray.size_append, Lb.laidH_size, r0_size]
    rfl
  part := part0
  same := by
    unfold Lb.openA
    rw [part0]
    simp only
    rw [if_pos ⟨by decide, cntB_size 0⟩, text_ba]
    exact (opn_seal (cntB 0) hd0.nonce (Lb.laidH hd0 ++ tAB) (Lb.laidH hd0 ++ tAB) textS).1 rfl
  less := by
    unfold Lb.openA
    rw [part0]
    simp only
    rw [if_pos ⟨by decide, cntB_size 0⟩, text_a]
    refine (opn_seal (cntB 0) hd0.nonce (Lb.laidH hd0 ++ tAB) (Lb.laidH hd0 ++ tA) textS).2 fun h => ?_
    refine mac_unlike (cntB 0) hd0.nonce (Lb.laidH hd0 ++ tAB) (Lb.laidH hd0 ++ tA) (mkS (turnP (cntB 0) hd0.nonce textS)) (by rw [bys_cntB 0 (by decide)]; decide) (by decide) (by decide) (by rw [mkS_size, turnP_length]; rfl) h.symm
theorem awake_ok (w : World) : Calls Try.prog 4 #[] w fun e w' => e = .returned (.bool true) ∧ Below w.heap.size w w' :=
  Lb.awake_any under (cntB 0) b0 r0 (fun w => (counted_any 0 (by decide) w).mono fun e w' he => ⟨he.1, he.2.below⟩) wake w
end Go.Proofs.Ytfamoakicgmfgaa
