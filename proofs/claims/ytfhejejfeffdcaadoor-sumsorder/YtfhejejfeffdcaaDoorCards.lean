/-
  DERIVED. GIVEN WITH THE SEED: THE CARDS: each row of YtfhejejfeffdcaaDoorRows.lean that lists a variable, with what it lists TIED to the program's text (the seventh form; the later family's looks); each row that meets fmt, with fmt's text TOLD by the authors' own Lean function (tested against real Go, not proved from fmt's source: count such statements apart). THE CARD IS WHAT COUNTS. Prove the row's statement (the work); the ties are given (YtfhejejfeffdcaaDoorTie.lean); close each card by the builder's one call (the guide's Derived/Test/ToyasCard.lean, 'card_holds'). Laid BY PROGRAM, IN A SANDBOX (cutbox-door.mjs). By AI agents, Wed Nov 11 2026. No macro, syntax, notation, axiom, sorry.
-/
import Derived.Test.YtfhejejfeffdcaaDoorRows
import GoSem.ClaimSeven
namespace Go.Proofs.YtfhejejfeffdcaaDoor
namespace Rows

/-- THE TIED CARD OF 'girderlaw06.SumsOrder'. -/
def sumsOrderCard : Claim7 := { stood := { row := sumsOrderRow, standIns := [], harness := (true, "6f196e5e93b408700f834e70fbe27b60e8fc975dd49db0bb10c6aa5261798a37"), looks := false }, kinds := [], alts := [], laidByText := true, laidKinds := [.data], laidTests := true, laidLooks := .later }
def SumsOrderCardSaid : Prop := Claim7.holds Tryd.pinned (.plain (OpenSpec.ofChange sumsOrderSpec)) sumsOrderCard

/-- THE SECOND FORM's CARD OF 'girderlaw06.SumsOrder'. -/
def sumsOrderUptoCard : Claim7 := { stood := { row := sumsOrderUptoRow, standIns := [], harness := (true, "6f196e5e93b408700f834e70fbe27b60e8fc975dd49db0bb10c6aa5261798a37"), looks := false }, kinds := [], alts := [], laidByText := true, laidKinds := [.data], laidTests := true, laidLooks := .later }
def SumsOrderUptoCardSaid : Prop := Claim7.holds Tryd.pinned (.plain (OpenSpec.upto sumsOrderSpec)) sumsOrderUptoCard
end Rows
end Go.Proofs.YtfhejejfeffdcaaDoor
