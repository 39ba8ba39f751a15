/- Contexts: is one within another, are two equal, by contract. No condition but the rows' sizes. -/
import Derived.Test.YtfamoakicgmfgaaGreatLC3
import Derived.Maps.OwnSet
import Derived.BigQuiet
import Derived.Deep.QuietTactic
namespace Go.Proofs.YtfamoakicgmfgaaGreat.Lb
open Go.RowKit Go.Own.Lb Go.Maps Go.WideMaps
/-- Are all of one's pairs another one's? -/
noncomputable def inB (a b : List P2) : Bool := @decide (∀ x ∈ a, x ∈ b) (Classical.propDecidable _)
theorem inB_yes {a b : List P2} (h : ∀ x ∈ a, x ∈ b) : inB a b = true := by unfold inB; exact @decide_eq_true _ (Classical.propDecidable _) h
theorem inB_no {a b : List P2} {x : P2} (h : x ∈ a) (h2 : x ∉ b) : inB a b = false := by unfold inB; exact @decide_eq_false _ (Classical.propDecidable _) (fun h3 => h2 (h3 x h))
noncomputable def subB (a b : List P2) : Bool := rightP a && rightP b && inB a b
theorem below_drewN {B : Nat} {w w' : World} (h : Below B w w') (k : Nat) : Below B w (w'.drewN k) := ⟨h.os, h.tape, h.output, h.size, h.block⟩
theorem cell_old {w : World} {o : Obj} {b j : Nat} {v : Value} (h : w.cell? ⟨b, j, none⟩ = some v) : (w.alloc o).cell? ⟨b, j, none⟩ = some v := by
  have hb : b < w.heap.size := World.block_lt_of_cell? w _ h
  rw [((Below.refl w.heap.size w).alloc (Nat.le_refl _) o).cell (p := ⟨b, j, none⟩) hb]
  exact h
end Go.Proofs.YtfamoakicgmfgaaGreat.Lb
