/-
  DERIVED. GIVEN WITH THE SEED: THE CARDS: each row of YtbfefoidpgbjaaaGreatDoorRows.lean that lists a variable, with what it lists TIED to the program's text (the seventh form; the later family's looks); each row that meets fmt, with fmt's text TOLD by the authors' own Lean function (tested against real Go, not proved from fmt's source: count such statements apart). THE CARD IS WHAT COUNTS. Prove the row's statement (the work); the ties are given (YtbfefoidpgbjaaaGreatDoorTie.lean); close each card by the builder's one call (the guide's Derived/Test/ToyasCard.lean, 'card_holds'). Laid BY PROGRAM, IN A SANDBOX (cutbox-door.mjs). By AI agents, Wed Nov 11 2026. No macro, syntax, notation, axiom, sorry.
-/
import Derived.Test.YtbfefoidpgbjaaaGreatDoorRows
import GoSem.ClaimSeven
namespace Go.Proofs.YtbfefoidpgbjaaaGreatDoor
namespace Rows

/-- THE TIED CARD OF 'girderlaw19.BarsTurned'. -/
def barsTurnedCard : Claim7 := { stood := { row := barsTurnedRow, standIns := [], harness := (true, "32acc8cd750ad12dacff13931e9016df0b4f9c131b0f8e34556c54f36318152f"), looks := false }, kinds := [], alts := [], laidByText := true, laidKinds := [.data], laidTests := true, laidLooks := .later }
def BarsTurnedCardSaid : Prop := Claim7.holds Tryz.pinned (.plain (OpenSpec.ofChange barsTurnedSpec)) barsTurnedCard

/-- THE SECOND FORM's CARD OF 'girderlaw19.BarsTurned'. -/
def barsTurnedUptoCard : Claim7 := { stood := { row := barsTurnedUptoRow, standIns := [], harness := (true, "32acc8cd750ad12dacff13931e9016df0b4f9c131b0f8e34556c54f36318152f"), looks := false }, kinds := [], alts := [], laidByText := true, laidKinds := [.data], laidTests := true, laidLooks := .later }
def BarsTurnedUptoCardSaid : Prop := Claim7.holds Tryz.pinned (.plain (OpenSpec.upto barsTurnedSpec)) barsTurnedUptoCard
end Rows
end Go.Proofs.YtbfefoidpgbjaaaGreatDoor
