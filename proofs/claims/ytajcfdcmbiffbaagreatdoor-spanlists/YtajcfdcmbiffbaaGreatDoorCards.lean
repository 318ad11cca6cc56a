/-
  DERIVED. GIVEN WITH THE SEED: THE CARDS: each row of YtajcfdcmbiffbaaGreatDoorRows.lean that lists a variable, with what it lists TIED to the program's text (the seventh form; the later family's looks); each row that meets fmt, with fmt's text TOLD by the authors' own Lean function (tested against real Go, not proved from fmt's source: count such statements apart). THE CARD IS WHAT COUNTS. Prove the row's statement (the work); the ties are given (YtajcfdcmbiffbaaGreatDoorTie.lean); close each card by the builder's one call (the guide's Derived/Test/ToyasCard.lean, 'card_holds'). Laid BY PROGRAM, IN A SANDBOX (cutbox-door.mjs). By AI agents, Wed Nov 11 2026. No macro, syntax, notation, axiom, sorry.
-/
import Derived.Test.YtajcfdcmbiffbaaGreatDoorRows
import GoSem.ClaimSeven
namespace Go.Proofs.YtajcfdcmbiffbaaGreatDoor
namespace Rows

/-- THE TIED CARD OF 'girderlaw05.SpanLists'. -/
def spanListsCard : Claim7 := { stood := { row := spanListsRow, standIns := [], harness := (true, "85465614f872a062e9840b29394efe8a8b22346387110fd477bf968d2bcc2d01"), looks := false }, kinds := [], alts := [], laidByText := true, laidKinds := [.data], laidTests := true, laidLooks := .later }
def SpanListsCardSaid : Prop := Claim7.holds Tryz.pinned (.plain (OpenSpec.ofChange spanListsSpec)) spanListsCard

/-- THE SECOND FORM's CARD OF 'girderlaw05.SpanLists'. -/
def spanListsUptoCard : Claim7 := { stood := { row := spanListsUptoRow, standIns := [], harness := (true, "85465614f872a062e9840b29394efe8a8b22346387110fd477bf968d2bcc2d01"), looks := false }, kinds := [], alts := [], laidByText := true, laidKinds := [.data], laidTests := true, laidLooks := .later }
def SpanListsUptoCardSaid : Prop := Claim7.holds Tryz.pinned (.plain (OpenSpec.upto spanListsSpec)) spanListsUptoCard
end Rows
end Go.Proofs.YtajcfdcmbiffbaaGreatDoor
