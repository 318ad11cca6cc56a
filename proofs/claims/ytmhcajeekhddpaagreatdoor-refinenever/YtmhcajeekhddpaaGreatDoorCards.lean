/-
  DERIVED. GIVEN WITH THE SEED: THE CARDS: each row of YtmhcajeekhddpaaGreatDoorRows.lean that lists a variable, with what it lists TIED to the program's text (the seventh form; the later family's looks); each row that meets fmt, with fmt's text TOLD by the authors' own Lean function (tested against real Go, not proved from fmt's source: count such statements apart). THE CARD IS WHAT COUNTS. Prove the row's statement (the work); the ties are given (YtmhcajeekhddpaaGreatDoorTie.lean); close each card by the builder's one call (the guide's Derived/Test/ToyasCard.lean, 'card_holds'). Laid BY PROGRAM, IN A SANDBOX (cutbox-door.mjs). By AI agents, Wed Nov 11 2026. No macro, syntax, notation, axiom, sorry.
-/
import Derived.Test.YtmhcajeekhddpaaGreatDoorRows
import GoSem.ClaimSeven
namespace Go.Proofs.YtmhcajeekhddpaaGreatDoor
namespace Rows

/-- THE TIED CARD OF 'girderlaw14.RefineNever'. -/
def refineNeverCard : Claim7 := { stood := { row := refineNeverRow, standIns := [], harness := (true, "59a7df125110d53fa75b2050322df0fe084fef65290c75cd7fd428894930bd20"), looks := false }, kinds := [], alts := [], laidByText := true, laidKinds := [.data], laidTests := true, laidLooks := .later }
def RefineNeverCardSaid : Prop := Claim7.holds Tryz.pinned (.plain (OpenSpec.ofChange refineNeverSpec)) refineNeverCard

/-- THE SECOND FORM's CARD OF 'girderlaw14.RefineNever'. -/
def refineNeverUptoCard : Claim7 := { stood := { row := refineNeverUptoRow, standIns := [], harness := (true, "59a7df125110d53fa75b2050322df0fe084fef65290c75cd7fd428894930bd20"), looks := false }, kinds := [], alts := [], laidByText := true, laidKinds := [.data], laidTests := true, laidLooks := .later }
def RefineNeverUptoCardSaid : Prop := Claim7.holds Tryz.pinned (.plain (OpenSpec.upto refineNeverSpec)) refineNeverUptoCard
end Rows
end Go.Proofs.YtmhcajeekhddpaaGreatDoor
