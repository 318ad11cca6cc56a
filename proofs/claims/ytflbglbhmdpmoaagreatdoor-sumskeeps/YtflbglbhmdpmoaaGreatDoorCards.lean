/-
  DERIVED. GIVEN WITH THE SEED: THE CARDS: each row of YtflbglbhmdpmoaaGreatDoorRows.lean that lists a variable, with what it lists TIED to the program's text (the seventh form; the later family's looks); each row that meets fmt, with fmt's text TOLD by the authors' own Lean function (tested against real Go, not proved from fmt's source: count such statements apart). THE CARD IS WHAT COUNTS. Prove the row's statement (the work); the ties are given (YtflbglbhmdpmoaaGreatDoorTie.lean); close each card by the builder's one call (the guide's Derived/Test/ToyasCard.lean, 'card_holds'). Laid BY PROGRAM, IN A SANDBOX (cutbox-door.mjs). By AI agents, Wed Nov 11 2026. No macro, syntax, notation, axiom, sorry.
-/
import Derived.Test.YtflbglbhmdpmoaaGreatDoorRows
import GoSem.ClaimSeven
namespace Go.Proofs.YtflbglbhmdpmoaaGreatDoor
namespace Rows

/-- THE TIED CARD OF 'girderlaw06.SumsDots'. -/
def sumsDotsCard : Claim7 := { stood := { row := sumsDotsRow, standIns := [], harness := (true, "5b232ccd580da600adea5d2b2b7c47d2981e7c4062654e31b2dd8321f5485ecb"), looks := false }, kinds := [], alts := [], laidByText := true, laidKinds := [.data], laidTests := true, laidLooks := .later }
def SumsDotsCardSaid : Prop := Claim7.holds Tryz.pinned (.plain (OpenSpec.ofChange sumsDotsSpec)) sumsDotsCard

/-- THE TIED CARD OF 'girderlaw06.SumsKeeps'. -/
def sumsKeepsCard : Claim7 := { stood := { row := sumsKeepsRow, standIns := [], harness := (true, "5b232ccd580da600adea5d2b2b7c47d2981e7c4062654e31b2dd8321f5485ecb"), looks := false }, kinds := [], alts := [], laidByText := true, laidKinds := [.data], laidTests := true, laidLooks := .later }
def SumsKeepsCardSaid : Prop := Claim7.holds Tryz.pinned (.plain (OpenSpec.ofChange sumsKeepsSpec)) sumsKeepsCard

/-- THE TIED CARD OF 'girderlaw06.SumsEdges'. -/
def sumsEdgesCard : Claim7 := { stood := { row := sumsEdgesRow, standIns := [], harness := (true, "5b232ccd580da600adea5d2b2b7c47d2981e7c4062654e31b2dd8321f5485ecb"), looks := false }, kinds := [], alts := [], laidByText := true, laidKinds := [.data], laidTests := true, laidLooks := .later }
def SumsEdgesCardSaid : Prop := Claim7.holds Tryz.pinned (.plain (OpenSpec.ofChange sumsEdgesSpec)) sumsEdgesCard

/-- THE SECOND FORM's CARD OF 'girderlaw06.SumsDots'. -/
def sumsDotsUptoCard : Claim7 := { stood := { row := sumsDotsUptoRow, standIns := [], harness := (true, "5b232ccd580da600adea5d2b2b7c47d2981e7c4062654e31b2dd8321f5485ecb"), looks := false }, kinds := [], alts := [], laidByText := true, laidKinds := [.data], laidTests := true, laidLooks := .later }
def SumsDotsUptoCardSaid : Prop := Claim7.holds Tryz.pinned (.plain (OpenSpec.upto sumsDotsSpec)) sumsDotsUptoCard

/-- THE SECOND FORM's CARD OF 'girderlaw06.SumsKeeps'. -/
def sumsKeepsUptoCard : Claim7 := { stood := { row := sumsKeepsUptoRow, standIns := [], harness := (true, "5b232ccd580da600adea5d2b2b7c47d2981e7c4062654e31b2dd8321f5485ecb"), looks := false }, kinds := [], alts := [], laidByText := true, laidKinds := [.data], laidTests := true, laidLooks := .later }
def SumsKeepsUptoCardSaid : Prop := Claim7.holds Tryz.pinned (.plain (OpenSpec.upto sumsKeepsSpec)) sumsKeepsUptoCard

/-- THE SECOND FORM's CARD OF 'girderlaw06.SumsEdges'. -/
def sumsEdgesUptoCard : Claim7 := { stood := { row := sumsEdgesUptoRow, standIns := [], harness := (true, "5b232ccd580da600adea5d2b2b7c47d2981e7c4062654e31b2dd8321f5485ecb"), looks := false }, kinds := [], alts := [], laidByText := true, laidKinds := [.data], laidTests := true, laidLooks := .later }
def SumsEdgesUptoCardSaid : Prop := Claim7.holds Tryz.pinned (.plain (OpenSpec.upto sumsEdgesSpec)) sumsEdgesUptoCard
end Rows
end Go.Proofs.YtflbglbhmdpmoaaGreatDoor
