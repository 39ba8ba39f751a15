/- A head that came in, opened. No condition. -/
import Derived.Test.YtfamoakicgmfgaaLO1
import Derived.Test.YtfamoakicgmfgaaZ1
import Derived.ProofKit
import Derived.OpenShut
import Derived.Deep.Slices
import Derived.Deep.Fields
import Derived.ChangeSame
import Derived.ChangeArms
namespace Go.Proofs.Ytfamoakicgmfgaa.Lb
open Go.RowKit Go.Own.Lb Go.ChangeShapes Go.WideShapes Go.Deep
theorem cells23 : Try.prog.cellsOf 23 = 3 := by kernel_rfl
theorem fields23 : ∃ f0 f1 f2, Try.prog.underlying 23 = some (.struct #[f0, f1, f2]) ∧ oneCellFields Try.prog #[f0, f1, f2] = true ∧ f0.type = 9 ∧ f1.type = 3 ∧ f2.type = 9 :=
  ⟨_, _, _, Try.underlying23, by kernel_rfl, rfl, rfl, rfl⟩
set_option maxRecDepth 100000 in
set_option maxHeartbeats 1000000 in
theorem open_head {H : Type} {enc : TypeId × Value → H} {W : World} {base : Nat} {spare : Nat → Bool} {held : Bool} {fuel : Nat} {cs : List Value} {z : DataW H × List MemPlace}
    (h : DataW.trod enc Try.prog W base spare held fuel 23 cs = some z) : ∃ g : Hd, Value.agg cs.toArray = hdV g := by
  obtain ⟨f0, f1, f2, hu, hone, t0, t1, t2⟩ := fields23
  obtain ⟨xs, n, _, _, hlen, hxl, hg⟩ := DataW.trod_struct hu h
  rw [cells23] at hlen
  match cs, hlen with
  | [c0, c1, c2], _ =>
    obtain ⟨o0, k0⟩ := hone_of hone 0 f0 rfl
    obtain ⟨o1, k1⟩ := hone_of hone 1 f1 rfl
    obtain ⟨o2, k2⟩ := hone_of hone 2 f2 rfl
    match xs, hxl with
    | [y0, y1, y2], _ =>
      have g0 : DataW.trod enc Try.prog W base spare held n f0.type [c0] = some y0 := by simpa [o0, k0] using hg 0 f0 rfl
      have g1 : DataW.trod enc Try.prog W base spare held n f1.type [c1] = some y1 := by simpa [o1, k1] using hg 1 f1 rfl
      have g2 : DataW.trod enc Try.prog W base spare held n f2.type [c2] = some y2 := by simpa [o2, k2] using hg 2 f2 rfl
      rw [t0] at g0
      rw [t1] at g1
      rw [t2] at g2
      obtain ⟨a0, e0, _, _⟩ := DataW.trod_string Try.underlying9 g0
      obtain ⟨a1, e1, _, _⟩ := DataW.trod_int Try.underlying3 g1
      obtain ⟨a2, e2, _, _⟩ := DataW.trod_string Try.underlying9 g2
      simp only [List.cons.injEq, and_true] at e0 e1 e2
      subst e0 e1 e2
      exact ⟨⟨a0, a1, a2⟩, rfl⟩
end Go.Proofs.Ytfamoakicgmfgaa.Lb
