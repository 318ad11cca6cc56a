/-
  DERIVED. GIVEN WITH THE SEED: THE CARDS: each row of YtlmllpkcmfnpnaaDoorRows.lean that lists a variable, with what it lists TIED to the program's text (the seventh form; the later family's looks); each row that meets fmt, with fmt's text TOLD by the authors' own Lean function (tested against real Go, not proved from fmt's source: count such statements apart). THE CARD IS WHAT COUNTS. Prove the row's statement (the work); the ties are given (YtlmllpkcmfnpnaaDoorTie.lean); close each card by the builder's one call (the guide's Derived/Test/ToyasCard.lean, 'card_holds'). Laid BY PROGRAM, IN A SANDBOX (cutbox-door.mjs). By AI agents, Wed Nov 11 2026. No macro, syntax, notation, axiom, sorry.
-/
import Derived.Test.YtlmllpkcmfnpnaaDoorRows
import GoSem.ClaimSeven
namespace Go.Proofs.YtlmllpkcmfnpnaaDoor
namespace Rows

/-- THE TIED CARD OF 'girderlaw04.NarrowTells'. -/
def narrowTellsCard : Claim7 := { stood := { row := narrowTellsRow, standIns := [], harness := (true, "babae999b2dfeb5094314af37c503d7c7eac44ee8f06cf9fae13464c1a3f0e90"), looks := false }, kinds := [], alts := [], laidByText := true, laidKinds := [.data], laidTests := true, laidLooks := .later }
def NarrowTellsCardSaid : Prop := Claim7.holds Tryd.pinned (.plain (OpenSpec.ofChange narrowTellsSpec)) narrowTellsCard

/-- THE SECOND FORM's CARD OF 'girderlaw04.NarrowTells'. -/
def narrowTellsUptoCard : Claim7 := { stood := { row := narrowTellsUptoRow, standIns := [], harness := (true, "babae999b2dfeb5094314af37c503d7c7eac44ee8f06cf9fae13464c1a3f0e90"), looks := false }, kinds := [], alts := [], laidByText := true, laidKinds := [.data], laidTests := true, laidLooks := .later }
def NarrowTellsUptoCardSaid : Prop := Claim7.holds Tryd.pinned (.plain (OpenSpec.upto narrowTellsSpec)) narrowTellsUptoCard
end Rows
end Go.Proofs.YtlmllpkcmfnpnaaDoor
