/-
  DERIVED. GIVEN WITH THE SEED: THE CARDS: each row of YtekejddblgkcgaaDoorRows.lean that lists a variable, with what it lists TIED to the program's text (the seventh form; the later family's looks); each row that meets fmt, with fmt's text TOLD by the authors' own Lean function (tested against real Go, not proved from fmt's source: count such statements apart). THE CARD IS WHAT COUNTS. Prove the row's statement (the work); the ties are given (YtekejddblgkcgaaDoorTie.lean); close each card by the builder's one call (the guide's Derived/Test/ToyasCard.lean, 'card_holds'). Laid BY PROGRAM, IN A SANDBOX (cutbox-door.mjs). By AI agents, Wed Nov 11 2026. No macro, syntax, notation, axiom, sorry.
-/
import Derived.Test.YtekejddblgkcgaaDoorRows
import GoSem.ClaimSeven
namespace Go.Proofs.YtekejddblgkcgaaDoor
namespace Rows

/-- THE TIED CARD OF 'girderlaw04.NarrowTo'. -/
def narrowToCard : Claim7 := { stood := { row := narrowToRow, standIns := [], harness := (true, "1fdba4ec58553f079aca98d7c78ecef1845233c227ec000f1f793a12fddd8cec"), looks := false }, kinds := [], alts := [], laidByText := true, laidKinds := [.data], laidTests := true, laidLooks := .later }
def NarrowToCardSaid : Prop := Claim7.holds Tryd.pinned (.plain (OpenSpec.ofChange narrowToSpec)) narrowToCard

/-- THE TIED CARD OF 'girderlaw04.NarrowReckons'. -/
def narrowReckonsCard : Claim7 := { stood := { row := narrowReckonsRow, standIns := [], harness := (true, "1fdba4ec58553f079aca98d7c78ecef1845233c227ec000f1f793a12fddd8cec"), looks := false }, kinds := [], alts := [], laidByText := true, laidKinds := [.data], laidTests := true, laidLooks := .later }
def NarrowReckonsCardSaid : Prop := Claim7.holds Tryd.pinned (.plain (OpenSpec.ofChange narrowReckonsSpec)) narrowReckonsCard

/-- THE SECOND FORM's CARD OF 'girderlaw04.NarrowTo'. -/
def narrowToUptoCard : Claim7 := { stood := { row := narrowToUptoRow, standIns := [], harness := (true, "1fdba4ec58553f079aca98d7c78ecef1845233c227ec000f1f793a12fddd8cec"), looks := false }, kinds := [], alts := [], laidByText := true, laidKinds := [.data], laidTests := true, laidLooks := .later }
def NarrowToUptoCardSaid : Prop := Claim7.holds Tryd.pinned (.plain (OpenSpec.upto narrowToSpec)) narrowToUptoCard

/-- THE SECOND FORM's CARD OF 'girderlaw04.NarrowReckons'. -/
def narrowReckonsUptoCard : Claim7 := { stood := { row := narrowReckonsUptoRow, standIns := [], harness := (true, "1fdba4ec58553f079aca98d7c78ecef1845233c227ec000f1f793a12fddd8cec"), looks := false }, kinds := [], alts := [], laidByText := true, laidKinds := [.data], laidTests := true, laidLooks := .later }
def NarrowReckonsUptoCardSaid : Prop := Claim7.holds Tryd.pinned (.plain (OpenSpec.upto narrowReckonsSpec)) narrowReckonsUptoCard
end Rows
end Go.Proofs.YtekejddblgkcgaaDoor
