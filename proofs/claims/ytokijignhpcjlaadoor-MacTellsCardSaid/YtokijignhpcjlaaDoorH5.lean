/- Layer 3's own examples: by contract. -/
import Derived.Test.YtokijignhpcjlaaDoorH3
import Derived.Test.YtokijignhpcjlaaDoorH4
namespace Go.Proofs.YtokijignhpcjlaaDoor
open Go.RowKit Go.Own
def sJefe : ByteArray := { data := #[74, 101, 102, 101] }
def sjefe : ByteArray := { data := #[106, 101, 102, 101] }
def sW1 : ByteArray := { data := #[119, 104, 97, 116, 32, 100, 111, 32, 121, 97, 32, 119, 97, 110, 116, 32] }
def sW2 : ByteArray := { data := #[102, 111, 114, 32, 110, 111, 116, 104, 105, 110, 103, 63] }
def sW : ByteArray := { data := #[119, 104, 97, 116, 32, 100, 111, 32, 121, 97, 32, 119, 97, 110, 116, 32, 102, 111, 114, 32, 110, 111, 116, 104, 105, 110, 103, 63] }
def sJ : ByteArray := { data := #[91, 220, 193, 70, 191, 96, 117, 78, 106, 4, 36, 38, 8, 149, 117, 199, 90, 0, 63, 8, 157, 39, 57, 131, 157, 236, 88, 185, 100, 236, 56, 67] }
theorem tag_lit : mkS (tagL (bys sJefe) (allB [sW1, sW2])) = sJ := by
  rw [show bys sJefe = [74, 101, 102, 101] by decide, show allB [sW1, sW2] = [119, 104, 97, 116, 32, 100, 111, 32, 121, 97, 32, 119, 97, 110, 116, 32, 102, 111, 114, 32, 110, 111, 116, 104, 105, 110, 103, 63] by decide, tag_jefe]; rfl
theorem same_yes : sameB sJ (mkS (tagL (bys sJefe) (allB [sW]))) = true := by
  rw [show bys sJefe = [74, 101, 102, 101] by decide, show allB [sW] = [119, 104, 97, 116, 32, 100, 111, 32, 121, 97, 32, 119, 97, 110, 116, 32, 102, 111, 114, 32, 110, 111, 116, 104, 105, 110, 103, 63] by decide, tag_jefe]; decide
theorem same_no : sameB sJ (mkS (tagL (bys sjefe) (allB [sW]))) = false := by
  rw [show bys sjefe = [106, 101, 102, 101] by decide, show allB [sW] = [119, 104, 97, 116, 32, 100, 111, 32, 121, 97, 32, 119, 97, 110, 116, 32, 102, 111, 114, 32, 110, 111, 116, 104, 105, 110, 103, 63] by decide, tag_jefe2]; decide
theorem at_last {L A : List Obj} {X : Obj} {n : Nat} (hL : L = A ++ [X]) (hn : n = A.length) : L[n]? = some X := by
  subst hL; subst hn; exact at_end1 _ _
theorem ixJ0 (W : World) : (ixN 9 (.string sJ) (.int .i64 0)).run Tryd.prog W = .ok (.int .u8 91) W := by kernel_rfl
theorem ixJ1 (W : World) : (ixN 9 (.string sJ) (.int .i64 1)).run Tryd.prog W = .ok (.int .u8 220) W := by kernel_rfl
theorem ixJ31 (W : World) : (ixN 9 (.string sJ) (.int .i64 31)).run Tryd.prog W = .ok (.int .u8 67) W := by kernel_rfl
attribute [local go_sem] ixJ0 ixJ1 ixJ31 bsS1 bsS2 ag5 cs5 sz5 isa5 isa9 ag9
set_option maxRecDepth 100000 in
set_option maxHeartbeats 2000000 in
theorem awake3_any (w : World) (hR : Roots w) : Calls Tryd.prog 15 #[] w fun e w' => e = .returned (.bool true) ∧ Grows w w' := by
  have HR := Lib.hid hR; clear hR
  refine calls_wd ?_
  go_enter Tryd.func15, Tryd.ntmps15
  go_wp2_with fail
  refine (tag_any sJefe (by decide) _ (HR.out.wd _ _) _ 2 [sW1, sW2] (Parts.o (parts2 (i := 0) (t := 9) (f := (0, 0)) ?hp)) (by decide) (by decide)).mono ?_
  case hp => rfl
  rintro e w' ⟨rfl, g1, d1, rfl⟩
  rw [Wd_wd, tag_lit]
  go_wp2_with fail
  refine (derive_any { data := #[] } { data := #[120] } { data := #[121] } 40 (by decide) (by decide) (by decide) (by decide) _ (HR.out.wd _ _)).mono ?_
  rintro e w' ⟨rfl, g2, d2, rfl⟩
  rw [Wd_wd]
  obtain ⟨D, hD⟩ : ∃ D, derL (tagL (bys { data := #[] }) (bys { data := #[120] })) (bys { data := #[121] }) 40 = D := ⟨_, rfl⟩
  have hDl : (mkS D).size = 40 := by rw [mkS_size, ← hD, derL, List.length_take, outD_length]; decide
  rw [hD]
  clear hD
  go_wp2_with fail
  refine (derive_bad { data := #[] } { data := #[] } { data := #[] } 8161 (by decide) _).mono ?_
  rintro e w' ⟨rfl, g3, d3, rfl⟩
  rw [Wd_wd]
  go_wp2_with fail
  refine (check_any sJefe sJ (by decide) (by decide) _ (HR.out.wd _ _) _ 1 [sW] (Parts.o (parts1 (i := g1.length + (g2.length + g3.length) + 1) (t := 9) (f := (0, 0)) ?hp)) (by decide) (by decide)).mono ?_
  case hp => exact at_last (A := Obj.cells #[.string sW1, .string sW2] 9 (0, 0) :: (g1 ++ (g2 ++ g3))) (by simp [sW1, sW2, sW]) (by simp)
  rintro e w' ⟨rfl, g4, d4, rfl⟩
  rw [Wd_wd, same_yes]
  go_wp2_with fail
  refine (check_any sjefe sJ (by decide) (by decide) _ (HR.out.wd _ _) _ 1 [sW] (Parts.o (parts1 (i := g1.length + (g2.length + (g3.length + (g4.length + 1))) + 1) (t := 9) (f := (0, 0)) ?hp)) (by decide) (by decide)).mono ?_
  case hp => exact at_last (A := Obj.cells #[.string sW1, .string sW2] 9 (0, 0) :: (g1 ++ (g2 ++ (g3 ++ (Obj.cells #[.string sW] 9 (0, 0) :: g4))))) (by simp [sW1, sW2, sW]) (by simp)
  rintro e w' ⟨rfl, g5, d5, rfl⟩
  rw [Wd_wd, same_no]
  go_wp2
  go_ret
  exact ⟨rfl, Grows.of _ _ _⟩
end Go.Proofs.YtokijignhpcjlaaDoor
