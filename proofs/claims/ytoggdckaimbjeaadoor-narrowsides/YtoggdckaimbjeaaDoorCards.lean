/-
  DERIVED. GIVEN WITH THE SEED: THE CARDS: each row of YtoggdckaimbjeaaDoorRows.lean that lists a variable, with what it lists TIED to the program's text (the seventh form; the later family's looks); each row that meets fmt, with fmt's text TOLD by the authors' own Lean function (tested against real Go, not proved from fmt's source: count such statements apart). THE CARD IS WHAT COUNTS. Prove the row's statement (the work); the ties are given (YtoggdckaimbjeaaDoorTie.lean); close each card by the builder's one call (the guide's Derived/Test/ToyasCard.lean, 'card_holds'). Laid BY PROGRAM, IN A SANDBOX (cutbox-door.mjs). By AI agents, Wed Nov 11 2026. No macro, syntax, notation, axiom, sorry.
-/
import Derived.Test.YtoggdckaimbjeaaDoorRows
import GoSem.ClaimSeven
namespace Go.Proofs.YtoggdckaimbjeaaDoor
namespace Rows

/-- THE TIED CARD OF 'girderlaw04.NarrowNumbers'. -/
def narrowNumbersCard : Claim7 := { stood := { row := narrowNumbersRow, standIns := [], harness := (true, "e4f9f85fd7f8d8467b33d1744449193c4343ab4737df05d84d055d6e3161fc4a"), looks := false }, kinds := [], alts := [], laidByText := true, laidKinds := [.data], laidTests := true, laidLooks := .later }
def NarrowNumbersCardSaid : Prop := Claim7.holds Tryd.pinned (.plain (OpenSpec.ofChange narrowNumbersSpec)) narrowNumbersCard

/-- THE TIED CARD OF 'girderlaw04.NarrowTells'. -/
def narrowTellsCard : Claim7 := { stood := { row := narrowTellsRow, standIns := [], harness := (true, "e4f9f85fd7f8d8467b33d1744449193c4343ab4737df05d84d055d6e3161fc4a"), looks := false }, kinds := [], alts := [], laidByText := true, laidKinds := [.data], laidTests := true, laidLooks := .later }
def NarrowTellsCardSaid : Prop := Claim7.holds Tryd.pinned (.plain (OpenSpec.ofChange narrowTellsSpec)) narrowTellsCard

/-- THE TIED CARD OF 'girderlaw04.NarrowTwice'. -/
def narrowTwiceCard : Claim7 := { stood := { row := narrowTwiceRow, standIns := [], harness := (true, "e4f9f85fd7f8d8467b33d1744449193c4343ab4737df05d84d055d6e3161fc4a"), looks := false }, kinds := [], alts := [], laidByText := true, laidKinds := [.data], laidTests := true, laidLooks := .later }
def NarrowTwiceCardSaid : Prop := Claim7.holds Tryd.pinned (.plain (OpenSpec.ofChange narrowTwiceSpec)) narrowTwiceCard

/-- THE TIED CARD OF 'girderlaw04.NarrowBack'. -/
def narrowBackCard : Claim7 := { stood := { row := narrowBackRow, standIns := [], harness := (true, "e4f9f85fd7f8d8467b33d1744449193c4343ab4737df05d84d055d6e3161fc4a"), looks := false }, kinds := [], alts := [], laidByText := true, laidKinds := [.data], laidTests := true, laidLooks := .later }
def NarrowBackCardSaid : Prop := Claim7.holds Tryd.pinned (.plain (OpenSpec.ofChange narrowBackSpec)) narrowBackCard

/-- THE TIED CARD OF 'girderlaw04.NarrowSides'. -/
def narrowSidesCard : Claim7 := { stood := { row := narrowSidesRow, standIns := [], harness := (true, "e4f9f85fd7f8d8467b33d1744449193c4343ab4737df05d84d055d6e3161fc4a"), looks := false }, kinds := [], alts := [], laidByText := true, laidKinds := [.data], laidTests := true, laidLooks := .later }
def NarrowSidesCardSaid : Prop := Claim7.holds Tryd.pinned (.plain (OpenSpec.ofChange narrowSidesSpec)) narrowSidesCard

/-- THE TIED CARD OF 'girderlaw04.NarrowRises'. -/
def narrowRisesCard : Claim7 := { stood := { row := narrowRisesRow, standIns := [], harness := (true, "e4f9f85fd7f8d8467b33d1744449193c4343ab4737df05d84d055d6e3161fc4a"), looks := false }, kinds := [], alts := [], laidByText := true, laidKinds := [.data], laidTests := true, laidLooks := .later }
def NarrowRisesCardSaid : Prop := Claim7.holds Tryd.pinned (.plain (OpenSpec.ofChange narrowRisesSpec)) narrowRisesCard

/-- THE SECOND FORM's CARD OF 'girderlaw04.NarrowNumbers'. -/
def narrowNumbersUptoCard : Claim7 := { stood := { row := narrowNumbersUptoRow, standIns := [], harness := (true, "e4f9f85fd7f8d8467b33d1744449193c4343ab4737df05d84d055d6e3161fc4a"), looks := false }, kinds := [], alts := [], laidByText := true, laidKinds := [.data], laidTests := true, laidLooks := .later }
def NarrowNumbersUptoCardSaid : Prop := Claim7.holds Tryd.pinned (.plain (OpenSpec.upto narrowNumbersSpec)) narrowNumbersUptoCard

/-- THE SECOND FORM's CARD OF 'girderlaw04.NarrowTells'. -/
def narrowTellsUptoCard : Claim7 := { stood := { row := narrowTellsUptoRow, standIns := [], harness := (true, "e4f9f85fd7f8d8467b33d1744449193c4343ab4737df05d84d055d6e3161fc4a"), looks := false }, kinds := [], alts := [], laidByText := true, laidKinds := [.data], laidTests := true, laidLooks := .later }
def NarrowTellsUptoCardSaid : Prop := Claim7.holds Tryd.pinned (.plain (OpenSpec.upto narrowTellsSpec)) narrowTellsUptoCard

/-- THE SECOND FORM's CARD OF 'girderlaw04.NarrowTwice'. -/
def narrowTwiceUptoCard : Claim7 := { stood := { row := narrowTwiceUptoRow, standIns := [], harness := (true, "e4f9f85fd7f8d8467b33d1744449193c4343ab4737df05d84d055d6e3161fc4a"), looks := false }, kinds := [], alts := [], laidByText := true, laidKinds := [.data], laidTests := true, laidLooks := .later }
def NarrowTwiceUptoCardSaid : Prop := Claim7.holds Tryd.pinned (.plain (OpenSpec.upto narrowTwiceSpec)) narrowTwiceUptoCard

/-- THE SECOND FORM's CARD OF 'girderlaw04.NarrowBack'. -/
def narrowBackUptoCard : Claim7 := { stood := { row := narrowBackUptoRow, standIns := [], harness := (true, "e4f9f85fd7f8d8467b33d1744449193c4343ab4737df05d84d055d6e3161fc4a"), looks := false }, kinds := [], alts := [], laidByText := true, laidKinds := [.data], laidTests := true, laidLooks := .later }
def NarrowBackUptoCardSaid : Prop := Claim7.holds Tryd.pinned (.plain (OpenSpec.upto narrowBackSpec)) narrowBackUptoCard

/-- THE SECOND FORM's CARD OF 'girderlaw04.NarrowSides'. -/
def narrowSidesUptoCard : Claim7 := { stood := { row := narrowSidesUptoRow, standIns := [], harness := (true, "e4f9f85fd7f8d8467b33d1744449193c4343ab4737df05d84d055d6e3161fc4a"), looks := false }, kinds := [], alts := [], laidByText := true, laidKinds := [.data], laidTests := true, laidLooks := .later }
def NarrowSidesUptoCardSaid : Prop := Claim7.holds Tryd.pinned (.plain (OpenSpec.upto narrowSidesSpec)) narrowSidesUptoCard

/-- THE SECOND FORM's CARD OF 'girderlaw04.NarrowRises'. -/
def narrowRisesUptoCard : Claim7 := { stood := { row := narrowRisesUptoRow, standIns := [], harness := (true, "e4f9f85fd7f8d8467b33d1744449193c4343ab4737df05d84d055d6e3161fc4a"), looks := false }, kinds := [], alts := [], laidByText := true, laidKinds := [.data], laidTests := true, laidLooks := .later }
def NarrowRisesUptoCardSaid : Prop := Claim7.holds Tryd.pinned (.plain (OpenSpec.upto narrowRisesSpec)) narrowRisesUptoCard
end Rows
end Go.Proofs.YtoggdckaimbjeaaDoor
