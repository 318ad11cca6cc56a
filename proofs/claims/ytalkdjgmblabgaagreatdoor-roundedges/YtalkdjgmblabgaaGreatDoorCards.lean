/-
  DERIVED. GIVEN WITH THE SEED: THE CARDS: each row of YtalkdjgmblabgaaGreatDoorRows.lean that lists a variable, with what it lists TIED to the program's text (the seventh form; the later family's looks); each row that meets fmt, with fmt's text TOLD by the authors' own Lean function (tested against real Go, not proved from fmt's source: count such statements apart). THE CARD IS WHAT COUNTS. Prove the row's statement (the work); the ties are given (YtalkdjgmblabgaaGreatDoorTie.lean); close each card by the builder's one call (the guide's Derived/Test/ToyasCard.lean, 'card_holds'). Laid BY PROGRAM, IN A SANDBOX (cutbox-door.mjs). By AI agents, Wed Nov 11 2026. No macro, syntax, notation, axiom, sorry.
-/
import Derived.Test.YtalkdjgmblabgaaGreatDoorRows
import GoSem.ClaimSeven
namespace Go.Proofs.YtalkdjgmblabgaaGreatDoor
namespace Rows

/-- THE TIED CARD OF 'girderlaw03.RoundProducts'. -/
def roundProductsCard : Claim7 := { stood := { row := roundProductsRow, standIns := [], harness := (true, "8ae46d15469bc38e48f37d1b30e7b4bd1d7541807a8a590844102ccb847e50ab"), looks := false }, kinds := [], alts := [], laidByText := true, laidKinds := [.data], laidTests := true, laidLooks := .later }
def RoundProductsCardSaid : Prop := Claim7.holds Tryz.pinned (.plain (OpenSpec.ofChange roundProductsSpec)) roundProductsCard

/-- THE TIED CARD OF 'girderlaw03.RoundRoots'. -/
def roundRootsCard : Claim7 := { stood := { row := roundRootsRow, standIns := [], harness := (true, "8ae46d15469bc38e48f37d1b30e7b4bd1d7541807a8a590844102ccb847e50ab"), looks := false }, kinds := [], alts := [], laidByText := true, laidKinds := [.data], laidTests := true, laidLooks := .later }
def RoundRootsCardSaid : Prop := Claim7.holds Tryz.pinned (.plain (OpenSpec.ofChange roundRootsSpec)) roundRootsCard

/-- THE TIED CARD OF 'girderlaw03.RoundFuses'. -/
def roundFusesCard : Claim7 := { stood := { row := roundFusesRow, standIns := [], harness := (true, "8ae46d15469bc38e48f37d1b30e7b4bd1d7541807a8a590844102ccb847e50ab"), looks := false }, kinds := [], alts := [], laidByText := true, laidKinds := [.data], laidTests := true, laidLooks := .later }
def RoundFusesCardSaid : Prop := Claim7.holds Tryz.pinned (.plain (OpenSpec.ofChange roundFusesSpec)) roundFusesCard

/-- THE TIED CARD OF 'girderlaw03.RoundEdges'. -/
def roundEdgesCard : Claim7 := { stood := { row := roundEdgesRow, standIns := [], harness := (true, "8ae46d15469bc38e48f37d1b30e7b4bd1d7541807a8a590844102ccb847e50ab"), looks := false }, kinds := [], alts := [], laidByText := true, laidKinds := [.data], laidTests := true, laidLooks := .later }
def RoundEdgesCardSaid : Prop := Claim7.holds Tryz.pinned (.plain (OpenSpec.ofChange roundEdgesSpec)) roundEdgesCard

/-- THE SECOND FORM's CARD OF 'girderlaw03.RoundProducts'. -/
def roundProductsUptoCard : Claim7 := { stood := { row := roundProductsUptoRow, standIns := [], harness := (true, "8ae46d15469bc38e48f37d1b30e7b4bd1d7541807a8a590844102ccb847e50ab"), looks := false }, kinds := [], alts := [], laidByText := true, laidKinds := [.data], laidTests := true, laidLooks := .later }
def RoundProductsUptoCardSaid : Prop := Claim7.holds Tryz.pinned (.plain (OpenSpec.upto roundProductsSpec)) roundProductsUptoCard

/-- THE SECOND FORM's CARD OF 'girderlaw03.RoundRoots'. -/
def roundRootsUptoCard : Claim7 := { stood := { row := roundRootsUptoRow, standIns := [], harness := (true, "8ae46d15469bc38e48f37d1b30e7b4bd1d7541807a8a590844102ccb847e50ab"), looks := false }, kinds := [], alts := [], laidByText := true, laidKinds := [.data], laidTests := true, laidLooks := .later }
def RoundRootsUptoCardSaid : Prop := Claim7.holds Tryz.pinned (.plain (OpenSpec.upto roundRootsSpec)) roundRootsUptoCard

/-- THE SECOND FORM's CARD OF 'girderlaw03.RoundFuses'. -/
def roundFusesUptoCard : Claim7 := { stood := { row := roundFusesUptoRow, standIns := [], harness := (true, "8ae46d15469bc38e48f37d1b30e7b4bd1d7541807a8a590844102ccb847e50ab"), looks := false }, kinds := [], alts := [], laidByText := true, laidKinds := [.data], laidTests := true, laidLooks := .later }
def RoundFusesUptoCardSaid : Prop := Claim7.holds Tryz.pinned (.plain (OpenSpec.upto roundFusesSpec)) roundFusesUptoCard

/-- THE SECOND FORM's CARD OF 'girderlaw03.RoundEdges'. -/
def roundEdgesUptoCard : Claim7 := { stood := { row := roundEdgesUptoRow, standIns := [], harness := (true, "8ae46d15469bc38e48f37d1b30e7b4bd1d7541807a8a590844102ccb847e50ab"), looks := false }, kinds := [], alts := [], laidByText := true, laidKinds := [.data], laidTests := true, laidLooks := .later }
def RoundEdgesUptoCardSaid : Prop := Claim7.holds Tryz.pinned (.plain (OpenSpec.upto roundEdgesSpec)) roundEdgesUptoCard
end Rows
end Go.Proofs.YtalkdjgmblabgaaGreatDoor
