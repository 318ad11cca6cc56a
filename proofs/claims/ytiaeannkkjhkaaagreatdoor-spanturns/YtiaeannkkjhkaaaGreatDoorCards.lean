/-
  DERIVED. GIVEN WITH THE SEED: THE CARDS: each row of YtiaeannkkjhkaaaGreatDoorRows.lean that lists a variable, with what it lists TIED to the program's text (the seventh form; the later family's looks); each row that meets fmt, with fmt's text TOLD by the authors' own Lean function (tested against real Go, not proved from fmt's source: count such statements apart). THE CARD IS WHAT COUNTS. Prove the row's statement (the work); the ties are given (YtiaeannkkjhkaaaGreatDoorTie.lean); close each card by the builder's one call (the guide's Derived/Test/ToyasCard.lean, 'card_holds'). Laid BY PROGRAM, IN A SANDBOX (cutbox-door.mjs). By AI agents, Wed Nov 11 2026. No macro, syntax, notation, axiom, sorry.
-/
import Derived.Test.YtiaeannkkjhkaaaGreatDoorRows
import GoSem.ClaimSeven
namespace Go.Proofs.YtiaeannkkjhkaaaGreatDoor
namespace Rows

/-- THE TIED CARD OF 'girderlaw05.SpanReckons'. -/
def spanReckonsCard : Claim7 := { stood := { row := spanReckonsRow, standIns := [], harness := (true, "7495306fcd15d28aa2fd52c31c8d80084aff993f62d10ff71853b2d461b1227a"), looks := false }, kinds := [], alts := [], laidByText := true, laidKinds := [.data], laidTests := true, laidLooks := .later }
def SpanReckonsCardSaid : Prop := Claim7.holds Tryz.pinned (.plain (OpenSpec.ofChange spanReckonsSpec)) spanReckonsCard

/-- THE TIED CARD OF 'girderlaw05.SpanTurns'. -/
def spanTurnsCard : Claim7 := { stood := { row := spanTurnsRow, standIns := [], harness := (true, "7495306fcd15d28aa2fd52c31c8d80084aff993f62d10ff71853b2d461b1227a"), looks := false }, kinds := [], alts := [], laidByText := true, laidKinds := [.data], laidTests := true, laidLooks := .later }
def SpanTurnsCardSaid : Prop := Claim7.holds Tryz.pinned (.plain (OpenSpec.ofChange spanTurnsSpec)) spanTurnsCard

/-- THE TIED CARD OF 'girderlaw05.SpanAsks'. -/
def spanAsksCard : Claim7 := { stood := { row := spanAsksRow, standIns := [], harness := (true, "7495306fcd15d28aa2fd52c31c8d80084aff993f62d10ff71853b2d461b1227a"), looks := false }, kinds := [], alts := [], laidByText := true, laidKinds := [.data], laidTests := true, laidLooks := .later }
def SpanAsksCardSaid : Prop := Claim7.holds Tryz.pinned (.plain (OpenSpec.ofChange spanAsksSpec)) spanAsksCard

/-- THE SECOND FORM's CARD OF 'girderlaw05.SpanReckons'. -/
def spanReckonsUptoCard : Claim7 := { stood := { row := spanReckonsUptoRow, standIns := [], harness := (true, "7495306fcd15d28aa2fd52c31c8d80084aff993f62d10ff71853b2d461b1227a"), looks := false }, kinds := [], alts := [], laidByText := true, laidKinds := [.data], laidTests := true, laidLooks := .later }
def SpanReckonsUptoCardSaid : Prop := Claim7.holds Tryz.pinned (.plain (OpenSpec.upto spanReckonsSpec)) spanReckonsUptoCard

/-- THE SECOND FORM's CARD OF 'girderlaw05.SpanTurns'. -/
def spanTurnsUptoCard : Claim7 := { stood := { row := spanTurnsUptoRow, standIns := [], harness := (true, "7495306fcd15d28aa2fd52c31c8d80084aff993f62d10ff71853b2d461b1227a"), looks := false }, kinds := [], alts := [], laidByText := true, laidKinds := [.data], laidTests := true, laidLooks := .later }
def SpanTurnsUptoCardSaid : Prop := Claim7.holds Tryz.pinned (.plain (OpenSpec.upto spanTurnsSpec)) spanTurnsUptoCard

/-- THE SECOND FORM's CARD OF 'girderlaw05.SpanAsks'. -/
def spanAsksUptoCard : Claim7 := { stood := { row := spanAsksUptoRow, standIns := [], harness := (true, "7495306fcd15d28aa2fd52c31c8d80084aff993f62d10ff71853b2d461b1227a"), looks := false }, kinds := [], alts := [], laidByText := true, laidKinds := [.data], laidTests := true, laidLooks := .later }
def SpanAsksUptoCardSaid : Prop := Claim7.holds Tryz.pinned (.plain (OpenSpec.upto spanAsksSpec)) spanAsksUptoCard
end Rows
end Go.Proofs.YtiaeannkkjhkaaaGreatDoor
