/-
  DERIVED. GIVEN WITH THE SEED: THE CARDS: each row of YtggdjbdamaeikaaDoorRows.lean that lists a variable, with what it lists TIED to the program's text (the seventh form; the later family's looks); each row that meets fmt, with fmt's text TOLD by the authors' own Lean function (tested against real Go, not proved from fmt's source: count such statements apart). THE CARD IS WHAT COUNTS. Prove the row's statement (the work); the ties are given (YtggdjbdamaeikaaDoorTie.lean); close each card by the builder's one call (the guide's Derived/Test/ToyasCard.lean, 'card_holds'). Laid BY PROGRAM, IN A SANDBOX (cutbox-door.mjs). By AI agents, Wed Nov 11 2026. No macro, syntax, notation, axiom, sorry.
-/
import Derived.Test.YtggdjbdamaeikaaDoorRows
import GoSem.ClaimSeven
namespace Go.Proofs.YtggdjbdamaeikaaDoor
namespace Rows

/-- THE TIED CARD OF 'girderlaw06.SumsPlain'. -/
def sumsPlainCard : Claim7 := { stood := { row := sumsPlainRow, standIns := [], harness := (true, "c4d8eab90bc0cb991f697d070f4d0b90785648306e2ccb380d14a3cf3e016f5c"), looks := false }, kinds := [], alts := [], laidByText := true, laidKinds := [.data], laidTests := true, laidLooks := .later }
def SumsPlainCardSaid : Prop := Claim7.holds Tryd.pinned (.plain (OpenSpec.ofChange sumsPlainSpec)) sumsPlainCard

/-- THE SECOND FORM's CARD OF 'girderlaw06.SumsPlain'. -/
def sumsPlainUptoCard : Claim7 := { stood := { row := sumsPlainUptoRow, standIns := [], harness := (true, "c4d8eab90bc0cb991f697d070f4d0b90785648306e2ccb380d14a3cf3e016f5c"), looks := false }, kinds := [], alts := [], laidByText := true, laidKinds := [.data], laidTests := true, laidLooks := .later }
def SumsPlainUptoCardSaid : Prop := Claim7.holds Tryd.pinned (.plain (OpenSpec.upto sumsPlainSpec)) sumsPlainUptoCard
end Rows
end Go.Proofs.YtggdjbdamaeikaaDoor
