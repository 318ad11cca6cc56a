/-
  DERIVED. GIVEN WITH THE SEED: THE CARDS: each row of YtmffalpckdkabaaDoorRows.lean that lists a variable, with what it lists TIED to the program's text (the seventh form; the later family's looks); each row that meets fmt, with fmt's text TOLD by the authors' own Lean function (tested against real Go, not proved from fmt's source: count such statements apart). THE CARD IS WHAT COUNTS. Prove the row's statement (the work); the ties are given (YtmffalpckdkabaaDoorTie.lean); close each card by the builder's one call (the guide's Derived/Test/ToyasCard.lean, 'card_holds'). Laid BY PROGRAM, IN A SANDBOX (cutbox-door.mjs). By AI agents, Wed Nov 11 2026. No macro, syntax, notation, axiom, sorry.
-/
import Derived.Test.YtmffalpckdkabaaDoorRows
import GoSem.ClaimSeven
namespace Go.Proofs.YtmffalpckdkabaaDoor
namespace Rows

/-- THE TIED CARD OF 'girderlaw09.VectorNorm'. -/
def vectorNormCard : Claim7 := { stood := { row := vectorNormRow, standIns := [], harness := (true, "1db0672d9a3d8ce1106d0a1557462c4a357dfcf2b49b25fd1ceace58f17dfd39"), looks := false }, kinds := [], alts := [], laidByText := true, laidKinds := [.data], laidTests := true, laidLooks := .later }
def VectorNormCardSaid : Prop := Claim7.holds Tryd.pinned (.plain (OpenSpec.ofChange vectorNormSpec)) vectorNormCard

/-- THE SECOND FORM's CARD OF 'girderlaw09.VectorNorm'. -/
def vectorNormUptoCard : Claim7 := { stood := { row := vectorNormUptoRow, standIns := [], harness := (true, "1db0672d9a3d8ce1106d0a1557462c4a357dfcf2b49b25fd1ceace58f17dfd39"), looks := false }, kinds := [], alts := [], laidByText := true, laidKinds := [.data], laidTests := true, laidLooks := .later }
def VectorNormUptoCardSaid : Prop := Claim7.holds Tryd.pinned (.plain (OpenSpec.upto vectorNormSpec)) vectorNormUptoCard
end Rows
end Go.Proofs.YtmffalpckdkabaaDoor
