/-
  DERIVED. GIVEN WITH THE SEED: THE CARDS: each row of YtlilmibhkgpkoaaDoorRows.lean that lists a variable, with what it lists TIED to the program's text (the seventh form; the later family's looks); each row that meets fmt, with fmt's text TOLD by the authors' own Lean function (tested against real Go, not proved from fmt's source: count such statements apart). THE CARD IS WHAT COUNTS. Prove the row's statement (the work); the ties are given (YtlilmibhkgpkoaaDoorTie.lean); close each card by the builder's one call (the guide's Derived/Test/ToyasCard.lean, 'card_holds'). Laid BY PROGRAM, IN A SANDBOX (cutbox-door.mjs). By AI agents, Wed Nov 11 2026. No macro, syntax, notation, axiom, sorry.
-/
import Derived.Test.YtlilmibhkgpkoaaDoorRows
import GoSem.ClaimSeven
namespace Go.Proofs.YtlilmibhkgpkoaaDoor
namespace Rows

/-- THE TIED CARD OF 'keyloftlaw05.WrapTells'. -/
def wrapTellsCard : Claim7 := { stood := { row := wrapTellsRow, standIns := [], harness := (true, "c479dc13aacebb9edd66db72ef45577de8d6894a880d3bc78ddd501fe22865c9"), looks := false }, kinds := [], alts := [], laidByText := true, laidKinds := [.data], laidTests := true, laidLooks := .later }
def WrapTellsCardSaid : Prop := Claim7.holds Tryd.pinned (.plain (OpenSpec.ofChange wrapTellsSpec)) wrapTellsCard

/-- THE SECOND FORM's CARD OF 'keyloftlaw05.WrapTells'. -/
def wrapTellsUptoCard : Claim7 := { stood := { row := wrapTellsUptoRow, standIns := [], harness := (true, "c479dc13aacebb9edd66db72ef45577de8d6894a880d3bc78ddd501fe22865c9"), looks := false }, kinds := [], alts := [], laidByText := true, laidKinds := [.data], laidTests := true, laidLooks := .later }
def WrapTellsUptoCardSaid : Prop := Claim7.holds Tryd.pinned (.plain (OpenSpec.upto wrapTellsSpec)) wrapTellsUptoCard
end Rows
end Go.Proofs.YtlilmibhkgpkoaaDoor
