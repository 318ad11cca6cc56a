/-
  DERIVED. GIVEN WITH THE SEED: THE CARDS: each row of YtifkagjleeilaaaDoorRows.lean that lists a variable, with what it lists TIED to the program's text (the seventh form; the later family's looks); each row that meets fmt, with fmt's text TOLD by the authors' own Lean function (tested against real Go, not proved from fmt's source: count such statements apart). THE CARD IS WHAT COUNTS. Prove the row's statement (the work); the ties are given (YtifkagjleeilaaaDoorTie.lean); close each card by the builder's one call (the guide's Derived/Test/ToyasCard.lean, 'card_holds'). Laid BY PROGRAM, IN A SANDBOX (cutbox-door.mjs). By AI agents, Wed Nov 11 2026. No macro, syntax, notation, axiom, sorry.
-/
import Derived.Test.YtifkagjleeilaaaDoorRows
import GoSem.ClaimSeven
namespace Go.Proofs.YtifkagjleeilaaaDoor
namespace Rows

/-- THE TIED CARD OF 'girderlaw03.RoundBetween'. -/
def roundBetweenCard : Claim7 := { stood := { row := roundBetweenRow, standIns := [], harness := (true, "c71e4e0e2b8ae9d36d4ec2105f05ba110b2157b2fe871182af338cd8f1c53e1c"), looks := false }, kinds := [], alts := [], laidByText := true, laidKinds := [.data], laidTests := true, laidLooks := .later }
def RoundBetweenCardSaid : Prop := Claim7.holds Tryd.pinned (.plain (OpenSpec.ofChange roundBetweenSpec)) roundBetweenCard

/-- THE TIED CARD OF 'girderlaw03.RoundNearest'. -/
def roundNearestCard : Claim7 := { stood := { row := roundNearestRow, standIns := [], harness := (true, "c71e4e0e2b8ae9d36d4ec2105f05ba110b2157b2fe871182af338cd8f1c53e1c"), looks := false }, kinds := [], alts := [], laidByText := true, laidKinds := [.data], laidTests := true, laidLooks := .later }
def RoundNearestCardSaid : Prop := Claim7.holds Tryd.pinned (.plain (OpenSpec.ofChange roundNearestSpec)) roundNearestCard

/-- THE TIED CARD OF 'girderlaw03.RoundGrows'. -/
def roundGrowsCard : Claim7 := { stood := { row := roundGrowsRow, standIns := [], harness := (true, "c71e4e0e2b8ae9d36d4ec2105f05ba110b2157b2fe871182af338cd8f1c53e1c"), looks := false }, kinds := [], alts := [], laidByText := true, laidKinds := [.data], laidTests := true, laidLooks := .later }
def RoundGrowsCardSaid : Prop := Claim7.holds Tryd.pinned (.plain (OpenSpec.ofChange roundGrowsSpec)) roundGrowsCard

/-- THE SECOND FORM's CARD OF 'girderlaw03.RoundBetween'. -/
def roundBetweenUptoCard : Claim7 := { stood := { row := roundBetweenUptoRow, standIns := [], harness := (true, "c71e4e0e2b8ae9d36d4ec2105f05ba110b2157b2fe871182af338cd8f1c53e1c"), looks := false }, kinds := [], alts := [], laidByText := true, laidKinds := [.data], laidTests := true, laidLooks := .later }
def RoundBetweenUptoCardSaid : Prop := Claim7.holds Tryd.pinned (.plain (OpenSpec.upto roundBetweenSpec)) roundBetweenUptoCard

/-- THE SECOND FORM's CARD OF 'girderlaw03.RoundNearest'. -/
def roundNearestUptoCard : Claim7 := { stood := { row := roundNearestUptoRow, standIns := [], harness := (true, "c71e4e0e2b8ae9d36d4ec2105f05ba110b2157b2fe871182af338cd8f1c53e1c"), looks := false }, kinds := [], alts := [], laidByText := true, laidKinds := [.data], laidTests := true, laidLooks := .later }
def RoundNearestUptoCardSaid : Prop := Claim7.holds Tryd.pinned (.plain (OpenSpec.upto roundNearestSpec)) roundNearestUptoCard

/-- THE SECOND FORM's CARD OF 'girderlaw03.RoundGrows'. -/
def roundGrowsUptoCard : Claim7 := { stood := { row := roundGrowsUptoRow, standIns := [], harness := (true, "c71e4e0e2b8ae9d36d4ec2105f05ba110b2157b2fe871182af338cd8f1c53e1c"), looks := false }, kinds := [], alts := [], laidByText := true, laidKinds := [.data], laidTests := true, laidLooks := .later }
def RoundGrowsUptoCardSaid : Prop := Claim7.holds Tryd.pinned (.plain (OpenSpec.upto roundGrowsSpec)) roundGrowsUptoCard
end Rows
end Go.Proofs.YtifkagjleeilaaaDoor
