/-
  DERIVED. GIVEN WITH THE SEED: THE CARDS: each row of YtkcomdglflnaeaaDoorRows.lean that lists a variable, with what it lists TIED to the program's text (the seventh form; the later family's looks); each row that meets fmt, with fmt's text TOLD by the authors' own Lean function (tested against real Go, not proved from fmt's source: count such statements apart). THE CARD IS WHAT COUNTS. Prove the row's statement (the work); the ties are given (YtkcomdglflnaeaaDoorTie.lean); close each card by the builder's one call (the guide's Derived/Test/ToyasCard.lean, 'card_holds'). Laid BY PROGRAM, IN A SANDBOX (cutbox-door.mjs). By AI agents, Wed Nov 11 2026. No macro, syntax, notation, axiom, sorry.
-/
import Derived.Test.YtkcomdglflnaeaaDoorRows
import GoSem.ClaimSeven
namespace Go.Proofs.YtkcomdglflnaeaaDoor
namespace Rows

/-- THE TIED CARD OF 'girderlaw04.NarrowNumbers'. -/
def narrowNumbersCard : Claim7 := { stood := { row := narrowNumbersRow, standIns := [], harness := (true, "e4322bbaab6c143ad2960091849090749322cbeb17bd36c8e3b042de52af09a3"), looks := false }, kinds := [], alts := [], laidByText := true, laidKinds := [.data], laidTests := true, laidLooks := .later }
def NarrowNumbersCardSaid : Prop := Claim7.holds Tryd.pinned (.plain (OpenSpec.ofChange narrowNumbersSpec)) narrowNumbersCard

/-- THE TIED CARD OF 'girderlaw04.NarrowTo'. -/
def narrowToCard : Claim7 := { stood := { row := narrowToRow, standIns := [], harness := (true, "e4322bbaab6c143ad2960091849090749322cbeb17bd36c8e3b042de52af09a3"), looks := false }, kinds := [], alts := [], laidByText := true, laidKinds := [.data], laidTests := true, laidLooks := .later }
def NarrowToCardSaid : Prop := Claim7.holds Tryd.pinned (.plain (OpenSpec.ofChange narrowToSpec)) narrowToCard

/-- THE TIED CARD OF 'girderlaw04.NarrowTells'. -/
def narrowTellsCard : Claim7 := { stood := { row := narrowTellsRow, standIns := [], harness := (true, "e4322bbaab6c143ad2960091849090749322cbeb17bd36c8e3b042de52af09a3"), looks := false }, kinds := [], alts := [], laidByText := true, laidKinds := [.data], laidTests := true, laidLooks := .later }
def NarrowTellsCardSaid : Prop := Claim7.holds Tryd.pinned (.plain (OpenSpec.ofChange narrowTellsSpec)) narrowTellsCard

/-- THE TIED CARD OF 'girderlaw04.NarrowReckons'. -/
def narrowReckonsCard : Claim7 := { stood := { row := narrowReckonsRow, standIns := [], harness := (true, "e4322bbaab6c143ad2960091849090749322cbeb17bd36c8e3b042de52af09a3"), looks := false }, kinds := [], alts := [], laidByText := true, laidKinds := [.data], laidTests := true, laidLooks := .later }
def NarrowReckonsCardSaid : Prop := Claim7.holds Tryd.pinned (.plain (OpenSpec.ofChange narrowReckonsSpec)) narrowReckonsCard

/-- THE TIED CARD OF 'girderlaw04.NarrowTwice'. -/
def narrowTwiceCard : Claim7 := { stood := { row := narrowTwiceRow, standIns := [], harness := (true, "e4322bbaab6c143ad2960091849090749322cbeb17bd36c8e3b042de52af09a3"), looks := false }, kinds := [], alts := [], laidByText := true, laidKinds := [.data], laidTests := true, laidLooks := .later }
def NarrowTwiceCardSaid : Prop := Claim7.holds Tryd.pinned (.plain (OpenSpec.ofChange narrowTwiceSpec)) narrowTwiceCard

/-- THE TIED CARD OF 'girderlaw04.NarrowBack'. -/
def narrowBackCard : Claim7 := { stood := { row := narrowBackRow, standIns := [], harness := (true, "e4322bbaab6c143ad2960091849090749322cbeb17bd36c8e3b042de52af09a3"), looks := false }, kinds := [], alts := [], laidByText := true, laidKinds := [.data], laidTests := true, laidLooks := .later }
def NarrowBackCardSaid : Prop := Claim7.holds Tryd.pinned (.plain (OpenSpec.ofChange narrowBackSpec)) narrowBackCard

/-- THE SECOND FORM's CARD OF 'girderlaw04.NarrowNumbers'. -/
def narrowNumbersUptoCard : Claim7 := { stood := { row := narrowNumbersUptoRow, standIns := [], harness := (true, "e4322bbaab6c143ad2960091849090749322cbeb17bd36c8e3b042de52af09a3"), looks := false }, kinds := [], alts := [], laidByText := true, laidKinds := [.data], laidTests := true, laidLooks := .later }
def NarrowNumbersUptoCardSaid : Prop := Claim7.holds Tryd.pinned (.plain (OpenSpec.upto narrowNumbersSpec)) narrowNumbersUptoCard

/-- THE SECOND FORM's CARD OF 'girderlaw04.NarrowTo'. -/
def narrowToUptoCard : Claim7 := { stood := { row := narrowToUptoRow, standIns := [], harness := (true, "e4322bbaab6c143ad2960091849090749322cbeb17bd36c8e3b042de52af09a3"), looks := false }, kinds := [], alts := [], laidByText := true, laidKinds := [.data], laidTests := true, laidLooks := .later }
def NarrowToUptoCardSaid : Prop := Claim7.holds Tryd.pinned (.plain (OpenSpec.upto narrowToSpec)) narrowToUptoCard

/-- THE SECOND FORM's CARD OF 'girderlaw04.NarrowTells'. -/
def narrowTellsUptoCard : Claim7 := { stood := { row := narrowTellsUptoRow, standIns := [], harness := (true, "e4322bbaab6c143ad2960091849090749322cbeb17bd36c8e3b042de52af09a3"), looks := false }, kinds := [], alts := [], laidByText := true, laidKinds := [.data], laidTests := true, laidLooks := .later }
def NarrowTellsUptoCardSaid : Prop := Claim7.holds Tryd.pinned (.plain (OpenSpec.upto narrowTellsSpec)) narrowTellsUptoCard

/-- THE SECOND FORM's CARD OF 'girderlaw04.NarrowReckons'. -/
def narrowReckonsUptoCard : Claim7 := { stood := { row := narrowReckonsUptoRow, standIns := [], harness := (true, "e4322bbaab6c143ad2960091849090749322cbeb17bd36c8e3b042de52af09a3"), looks := false }, kinds := [], alts := [], laidByText := true, laidKinds := [.data], laidTests := true, laidLooks := .later }
def NarrowReckonsUptoCardSaid : Prop := Claim7.holds Tryd.pinned (.plain (OpenSpec.upto narrowReckonsSpec)) narrowReckonsUptoCard

/-- THE SECOND FORM's CARD OF 'girderlaw04.NarrowTwice'. -/
def narrowTwiceUptoCard : Claim7 := { stood := { row := narrowTwiceUptoRow, standIns := [], harness := (true, "e4322bbaab6c143ad2960091849090749322cbeb17bd36c8e3b042de52af09a3"), looks := false }, kinds := [], alts := [], laidByText := true, laidKinds := [.data], laidTests := true, laidLooks := .later }
def NarrowTwiceUptoCardSaid : Prop := Claim7.holds Tryd.pinned (.plain (OpenSpec.upto narrowTwiceSpec)) narrowTwiceUptoCard

/-- THE SECOND FORM's CARD OF 'girderlaw04.NarrowBack'. -/
def narrowBackUptoCard : Claim7 := { stood := { row := narrowBackUptoRow, standIns := [], harness := (true, "e4322bbaab6c143ad2960091849090749322cbeb17bd36c8e3b042de52af09a3"), looks := false }, kinds := [], alts := [], laidByText := true, laidKinds := [.data], laidTests := true, laidLooks := .later }
def NarrowBackUptoCardSaid : Prop := Claim7.holds Tryd.pinned (.plain (OpenSpec.upto narrowBackSpec)) narrowBackUptoCard
end Rows
end Go.Proofs.YtkcomdglflnaeaaDoor
