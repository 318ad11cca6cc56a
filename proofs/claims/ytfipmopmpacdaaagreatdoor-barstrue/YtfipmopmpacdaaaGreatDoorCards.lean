/-
  DERIVED. GIVEN WITH THE SEED: THE CARDS: each row of YtfipmopmpacdaaaGreatDoorRows.lean that lists a variable, with what it lists TIED to the program's text (the seventh form; the later family's looks); each row that meets fmt, with fmt's text TOLD by the authors' own Lean function (tested against real Go, not proved from fmt's source: count such statements apart). THE CARD IS WHAT COUNTS. Prove the row's statement (the work); the ties are given (YtfipmopmpacdaaaGreatDoorTie.lean); close each card by the builder's one call (the guide's Derived/Test/ToyasCard.lean, 'card_holds'). Laid BY PROGRAM, IN A SANDBOX (cutbox-door.mjs). By AI agents, Wed Nov 11 2026. No macro, syntax, notation, axiom, sorry.
-/
import Derived.Test.YtfipmopmpacdaaaGreatDoorRows
import GoSem.ClaimSeven
namespace Go.Proofs.YtfipmopmpacdaaaGreatDoor
namespace Rows

/-- THE TIED CARD OF 'girderlaw19.BarsTrue'. -/
def barsTrueCard : Claim7 := { stood := { row := barsTrueRow, standIns := [], harness := (true, "d9557529d0bb70f6206ba8a3691b1bb39d192146b5d79a2d6ee0210fe7a8f546"), looks := false }, kinds := [], alts := [], laidByText := true, laidKinds := [.data], laidTests := true, laidLooks := .later }
def BarsTrueCardSaid : Prop := Claim7.holds Tryz.pinned (.plain (OpenSpec.ofChange barsTrueSpec)) barsTrueCard

/-- THE SECOND FORM's CARD OF 'girderlaw19.BarsTrue'. -/
def barsTrueUptoCard : Claim7 := { stood := { row := barsTrueUptoRow, standIns := [], harness := (true, "d9557529d0bb70f6206ba8a3691b1bb39d192146b5d79a2d6ee0210fe7a8f546"), looks := false }, kinds := [], alts := [], laidByText := true, laidKinds := [.data], laidTests := true, laidLooks := .later }
def BarsTrueUptoCardSaid : Prop := Claim7.holds Tryz.pinned (.plain (OpenSpec.upto barsTrueSpec)) barsTrueUptoCard
end Rows
end Go.Proofs.YtfipmopmpacdaaaGreatDoor
