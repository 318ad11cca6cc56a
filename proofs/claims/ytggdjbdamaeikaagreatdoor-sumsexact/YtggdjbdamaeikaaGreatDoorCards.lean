/-
  DERIVED. GIVEN WITH THE SEED: THE CARDS: each row of YtggdjbdamaeikaaGreatDoorRows.lean that lists a variable, with what it lists TIED to the program's text (the seventh form; the later family's looks); each row that meets fmt, with fmt's text TOLD by the authors' own Lean function (tested against real Go, not proved from fmt's source: count such statements apart). THE CARD IS WHAT COUNTS. Prove the row's statement (the work); the ties are given (YtggdjbdamaeikaaGreatDoorTie.lean); close each card by the builder's one call (the guide's Derived/Test/ToyasCard.lean, 'card_holds'). Laid BY PROGRAM, IN A SANDBOX (cutbox-door.mjs). By AI agents, Wed Nov 11 2026. No macro, syntax, notation, axiom, sorry.
-/
import Derived.Test.YtggdjbdamaeikaaGreatDoorRows
import GoSem.ClaimSeven
namespace Go.Proofs.YtggdjbdamaeikaaGreatDoor
namespace Rows

/-- THE TIED CARD OF 'girderlaw06.SumsTwo'. -/
def sumsTwoCard : Claim7 := { stood := { row := sumsTwoRow, standIns := [], harness := (true, "ae1e0eff9f599b34994b54e5a0dc7021e0e1a98c96e69841eccf4c348a97ed59"), looks := false }, kinds := [], alts := [], laidByText := true, laidKinds := [.data], laidTests := true, laidLooks := .later }
def SumsTwoCardSaid : Prop := Claim7.holds Tryz.pinned (.plain (OpenSpec.ofChange sumsTwoSpec)) sumsTwoCard

/-- THE TIED CARD OF 'girderlaw06.SumsExact'. -/
def sumsExactCard : Claim7 := { stood := { row := sumsExactRow, standIns := [], harness := (true, "ae1e0eff9f599b34994b54e5a0dc7021e0e1a98c96e69841eccf4c348a97ed59"), looks := false }, kinds := [], alts := [], laidByText := true, laidKinds := [.data], laidTests := true, laidLooks := .later }
def SumsExactCardSaid : Prop := Claim7.holds Tryz.pinned (.plain (OpenSpec.ofChange sumsExactSpec)) sumsExactCard

/-- THE SECOND FORM's CARD OF 'girderlaw06.SumsTwo'. -/
def sumsTwoUptoCard : Claim7 := { stood := { row := sumsTwoUptoRow, standIns := [], harness := (true, "ae1e0eff9f599b34994b54e5a0dc7021e0e1a98c96e69841eccf4c348a97ed59"), looks := false }, kinds := [], alts := [], laidByText := true, laidKinds := [.data], laidTests := true, laidLooks := .later }
def SumsTwoUptoCardSaid : Prop := Claim7.holds Tryz.pinned (.plain (OpenSpec.upto sumsTwoSpec)) sumsTwoUptoCard

/-- THE SECOND FORM's CARD OF 'girderlaw06.SumsExact'. -/
def sumsExactUptoCard : Claim7 := { stood := { row := sumsExactUptoRow, standIns := [], harness := (true, "ae1e0eff9f599b34994b54e5a0dc7021e0e1a98c96e69841eccf4c348a97ed59"), looks := false }, kinds := [], alts := [], laidByText := true, laidKinds := [.data], laidTests := true, laidLooks := .later }
def SumsExactUptoCardSaid : Prop := Claim7.holds Tryz.pinned (.plain (OpenSpec.upto sumsExactSpec)) sumsExactUptoCard
end Rows
end Go.Proofs.YtggdjbdamaeikaaGreatDoor
