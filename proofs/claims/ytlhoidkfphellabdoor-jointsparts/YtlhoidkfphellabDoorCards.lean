/-
  DERIVED. GIVEN WITH THE SEED: THE CARDS: each row of YtlhoidkfphellabDoorRows.lean that lists a variable, with what it lists TIED to the program's text (the seventh form; the later family's looks); each row that meets fmt, with fmt's text TOLD by the authors' own Lean function (tested against real Go, not proved from fmt's source: count such statements apart). THE CARD IS WHAT COUNTS. Prove the row's statement (the work); the ties are given (YtlhoidkfphellabDoorTie.lean); close each card by the builder's one call (the guide's Derived/Test/ToyasCard.lean, 'card_holds'). Laid BY PROGRAM, IN A SANDBOX (cutbox-door.mjs). By AI agents, Wed Nov 11 2026. No macro, syntax, notation, axiom, sorry.
-/
import Derived.Test.YtlhoidkfphellabDoorRows
import GoSem.ClaimSeven
namespace Go.Proofs.YtlhoidkfphellabDoor
namespace Rows

/-- THE TIED CARD OF 'girderlaw18.JointsParts'. -/
def jointsPartsCard : Claim7 := { stood := { row := jointsPartsRow, standIns := [], harness := (true, "66b019c4f3dacf6f7595fcf77ab7359f128207c3bd3b32c02ab7001a96e0df3d"), looks := false }, kinds := [], alts := [], laidByText := true, laidKinds := [.data], laidTests := true, laidLooks := .later }
def JointsPartsCardSaid : Prop := Claim7.holds Tryd.pinned (.plain (OpenSpec.ofChange jointsPartsSpec)) jointsPartsCard

/-- THE SECOND FORM's CARD OF 'girderlaw18.JointsParts'. -/
def jointsPartsUptoCard : Claim7 := { stood := { row := jointsPartsUptoRow, standIns := [], harness := (true, "66b019c4f3dacf6f7595fcf77ab7359f128207c3bd3b32c02ab7001a96e0df3d"), looks := false }, kinds := [], alts := [], laidByText := true, laidKinds := [.data], laidTests := true, laidLooks := .later }
def JointsPartsUptoCardSaid : Prop := Claim7.holds Tryd.pinned (.plain (OpenSpec.upto jointsPartsSpec)) jointsPartsUptoCard
end Rows
end Go.Proofs.YtlhoidkfphellabDoor
