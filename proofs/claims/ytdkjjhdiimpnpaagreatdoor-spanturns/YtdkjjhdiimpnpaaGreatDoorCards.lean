/-
  DERIVED. GIVEN WITH THE SEED: THE CARDS: each row of YtdkjjhdiimpnpaaGreatDoorRows.lean that lists a variable, with what it lists TIED to the program's text (the seventh form; the later family's looks); each row that meets fmt, with fmt's text TOLD by the authors' own Lean function (tested against real Go, not proved from fmt's source: count such statements apart). THE CARD IS WHAT COUNTS. Prove the row's statement (the work); the ties are given (YtdkjjhdiimpnpaaGreatDoorTie.lean); close each card by the builder's one call (the guide's Derived/Test/ToyasCard.lean, 'card_holds'). Laid BY PROGRAM, IN A SANDBOX (cutbox-door.mjs). By AI agents, Wed Nov 11 2026. No macro, syntax, notation, axiom, sorry.
-/
import Derived.Test.YtdkjjhdiimpnpaaGreatDoorRows
import GoSem.ClaimSeven
namespace Go.Proofs.YtdkjjhdiimpnpaaGreatDoor
namespace Rows

/-- THE TIED CARD OF 'girderlaw05.SpanReckons'. -/
def spanReckonsCard : Claim7 := { stood := { row := spanReckonsRow, standIns := [], harness := (true, "9c1c57e22ac37223b07cdfc2f97ae80d35682abb5aabe0573dfd570546a06602"), looks := false }, kinds := [], alts := [], laidByText := true, laidKinds := [.data], laidTests := true, laidLooks := .later }
def SpanReckonsCardSaid : Prop := Claim7.holds Tryz.pinned (.plain (OpenSpec.ofChange spanReckonsSpec)) spanReckonsCard

/-- THE TIED CARD OF 'girderlaw05.SpanTurns'. -/
def spanTurnsCard : Claim7 := { stood := { row := spanTurnsRow, standIns := [], harness := (true, "9c1c57e22ac37223b07cdfc2f97ae80d35682abb5aabe0573dfd570546a06602"), looks := false }, kinds := [], alts := [], laidByText := true, laidKinds := [.data], laidTests := true, laidLooks := .later }
def SpanTurnsCardSaid : Prop := Claim7.holds Tryz.pinned (.plain (OpenSpec.ofChange spanTurnsSpec)) spanTurnsCard

/-- THE TIED CARD OF 'girderlaw05.SpanAsks'. -/
def spanAsksCard : Claim7 := { stood := { row := spanAsksRow, standIns := [], harness := (true, "9c1c57e22ac37223b07cdfc2f97ae80d35682abb5aabe0573dfd570546a06602"), looks := false }, kinds := [], alts := [], laidByText := true, laidKinds := [.data], laidTests := true, laidLooks := .later }
def SpanAsksCardSaid : Prop := Claim7.holds Tryz.pinned (.plain (OpenSpec.ofChange spanAsksSpec)) spanAsksCard

/-- THE TIED CARD OF 'girderlaw05.SpanLists'. -/
def spanListsCard : Claim7 := { stood := { row := spanListsRow, standIns := [], harness := (true, "9c1c57e22ac37223b07cdfc2f97ae80d35682abb5aabe0573dfd570546a06602"), looks := false }, kinds := [], alts := [], laidByText := true, laidKinds := [.data], laidTests := true, laidLooks := .later }
def SpanListsCardSaid : Prop := Claim7.holds Tryz.pinned (.plain (OpenSpec.ofChange spanListsSpec)) spanListsCard

/-- THE TIED CARD OF 'girderlaw05.SpanHolds'. -/
def spanHoldsCard : Claim7 := { stood := { row := spanHoldsRow, standIns := [], harness := (true, "9c1c57e22ac37223b07cdfc2f97ae80d35682abb5aabe0573dfd570546a06602"), looks := false }, kinds := [], alts := [], laidByText := true, laidKinds := [.data], laidTests := true, laidLooks := .later }
def SpanHoldsCardSaid : Prop := Claim7.holds Tryz.pinned (.plain (OpenSpec.ofChange spanHoldsSpec)) spanHoldsCard

/-- THE SECOND FORM's CARD OF 'girderlaw05.SpanReckons'. -/
def spanReckonsUptoCard : Claim7 := { stood := { row := spanReckonsUptoRow, standIns := [], harness := (true, "9c1c57e22ac37223b07cdfc2f97ae80d35682abb5aabe0573dfd570546a06602"), looks := false }, kinds := [], alts := [], laidByText := true, laidKinds := [.data], laidTests := true, laidLooks := .later }
def SpanReckonsUptoCardSaid : Prop := Claim7.holds Tryz.pinned (.plain (OpenSpec.upto spanReckonsSpec)) spanReckonsUptoCard

/-- THE SECOND FORM's CARD OF 'girderlaw05.SpanTurns'. -/
def spanTurnsUptoCard : Claim7 := { stood := { row := spanTurnsUptoRow, standIns := [], harness := (true, "9c1c57e22ac37223b07cdfc2f97ae80d35682abb5aabe0573dfd570546a06602"), looks := false }, kinds := [], alts := [], laidByText := true, laidKinds := [.data], laidTests := true, laidLooks := .later }
def SpanTurnsUptoCardSaid : Prop := Claim7.holds Tryz.pinned (.plain (OpenSpec.upto spanTurnsSpec)) spanTurnsUptoCard

/-- THE SECOND FORM's CARD OF 'girderlaw05.SpanAsks'. -/
def spanAsksUptoCard : Claim7 := { stood := { row := spanAsksUptoRow, standIns := [], harness := (true, "9c1c57e22ac37223b07cdfc2f97ae80d35682abb5aabe0573dfd570546a06602"), looks := false }, kinds := [], alts := [], laidByText := true, laidKinds := [.data], laidTests := true, laidLooks := .later }
def SpanAsksUptoCardSaid : Prop := Claim7.holds Tryz.pinned (.plain (OpenSpec.upto spanAsksSpec)) spanAsksUptoCard

/-- THE SECOND FORM's CARD OF 'girderlaw05.SpanLists'. -/
def spanListsUptoCard : Claim7 := { stood := { row := spanListsUptoRow, standIns := [], harness := (true, "9c1c57e22ac37223b07cdfc2f97ae80d35682abb5aabe0573dfd570546a06602"), looks := false }, kinds := [], alts := [], laidByText := true, laidKinds := [.data], laidTests := true, laidLooks := .later }
def SpanListsUptoCardSaid : Prop := Claim7.holds Tryz.pinned (.plain (OpenSpec.upto spanListsSpec)) spanListsUptoCard

/-- THE SECOND FORM's CARD OF 'girderlaw05.SpanHolds'. -/
def spanHoldsUptoCard : Claim7 := { stood := { row := spanHoldsUptoRow, standIns := [], harness := (true, "9c1c57e22ac37223b07cdfc2f97ae80d35682abb5aabe0573dfd570546a06602"), looks := false }, kinds := [], alts := [], laidByText := true, laidKinds := [.data], laidTests := true, laidLooks := .later }
def SpanHoldsUptoCardSaid : Prop := Claim7.holds Tryz.pinned (.plain (OpenSpec.upto spanHoldsSpec)) spanHoldsUptoCard
end Rows
end Go.Proofs.YtdkjjhdiimpnpaaGreatDoor
