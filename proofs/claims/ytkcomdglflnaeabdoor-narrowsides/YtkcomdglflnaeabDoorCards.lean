/-
  DERIVED. GIVEN WITH THE SEED: THE CARDS: each row of YtkcomdglflnaeabDoorRows.lean that lists a variable, with what it lists TIED to the program's text (the seventh form; the later family's looks); each row that meets fmt, with fmt's text TOLD by the authors' own Lean function (tested against real Go, not proved from fmt's source: count such statements apart). THE CARD IS WHAT COUNTS. Prove the row's statement (the work); the ties are given (YtkcomdglflnaeabDoorTie.lean); close each card by the builder's one call (the guide's Derived/Test/ToyasCard.lean, 'card_holds'). Laid BY PROGRAM, IN A SANDBOX (cutbox-door.mjs). By AI agents, Wed Nov 11 2026. No macro, syntax, notation, axiom, sorry.
-/
import Derived.Test.YtkcomdglflnaeabDoorRows
import GoSem.ClaimSeven
namespace Go.Proofs.YtkcomdglflnaeabDoor
namespace Rows

/-- THE TIED CARD OF 'girderlaw04.NarrowSides'. -/
def narrowSidesCard : Claim7 := { stood := { row := narrowSidesRow, standIns := [], harness := (true, "d0db3890b863b2359b60e054abd337eb76b5fd0dade3ba6ca5e29c41f898e6eb"), looks := false }, kinds := [], alts := [], laidByText := true, laidKinds := [.data], laidTests := true, laidLooks := .later }
def NarrowSidesCardSaid : Prop := Claim7.holds Tryd.pinned (.plain (OpenSpec.ofChange narrowSidesSpec)) narrowSidesCard

/-- THE TIED CARD OF 'girderlaw04.NarrowRises'. -/
def narrowRisesCard : Claim7 := { stood := { row := narrowRisesRow, standIns := [], harness := (true, "d0db3890b863b2359b60e054abd337eb76b5fd0dade3ba6ca5e29c41f898e6eb"), looks := false }, kinds := [], alts := [], laidByText := true, laidKinds := [.data], laidTests := true, laidLooks := .later }
def NarrowRisesCardSaid : Prop := Claim7.holds Tryd.pinned (.plain (OpenSpec.ofChange narrowRisesSpec)) narrowRisesCard

/-- THE SECOND FORM's CARD OF 'girderlaw04.NarrowSides'. -/
def narrowSidesUptoCard : Claim7 := { stood := { row := narrowSidesUptoRow, standIns := [], harness := (true, "d0db3890b863b2359b60e054abd337eb76b5fd0dade3ba6ca5e29c41f898e6eb"), looks := false }, kinds := [], alts := [], laidByText := true, laidKinds := [.data], laidTests := true, laidLooks := .later }
def NarrowSidesUptoCardSaid : Prop := Claim7.holds Tryd.pinned (.plain (OpenSpec.upto narrowSidesSpec)) narrowSidesUptoCard

/-- THE SECOND FORM's CARD OF 'girderlaw04.NarrowRises'. -/
def narrowRisesUptoCard : Claim7 := { stood := { row := narrowRisesUptoRow, standIns := [], harness := (true, "d0db3890b863b2359b60e054abd337eb76b5fd0dade3ba6ca5e29c41f898e6eb"), looks := false }, kinds := [], alts := [], laidByText := true, laidKinds := [.data], laidTests := true, laidLooks := .later }
def NarrowRisesUptoCardSaid : Prop := Claim7.holds Tryd.pinned (.plain (OpenSpec.upto narrowRisesSpec)) narrowRisesUptoCard
end Rows
end Go.Proofs.YtkcomdglflnaeabDoor
