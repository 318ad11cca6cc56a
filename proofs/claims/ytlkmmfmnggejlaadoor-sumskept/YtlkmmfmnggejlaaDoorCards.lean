/-
  DERIVED. GIVEN WITH THE SEED: THE CARDS: each row of YtlkmmfmnggejlaaDoorRows.lean that lists a variable, with what it lists TIED to the program's text (the seventh form; the later family's looks); each row that meets fmt, with fmt's text TOLD by the authors' own Lean function (tested against real Go, not proved from fmt's source: count such statements apart). THE CARD IS WHAT COUNTS. Prove the row's statement (the work); the ties are given (YtlkmmfmnggejlaaDoorTie.lean); close each card by the builder's one call (the guide's Derived/Test/ToyasCard.lean, 'card_holds'). Laid BY PROGRAM, IN A SANDBOX (cutbox-door.mjs). By AI agents, Wed Nov 11 2026. No macro, syntax, notation, axiom, sorry.
-/
import Derived.Test.YtlkmmfmnggejlaaDoorRows
import GoSem.ClaimSeven
namespace Go.Proofs.YtlkmmfmnggejlaaDoor
namespace Rows

/-- THE TIED CARD OF 'girderlaw06.SumsLost'. -/
def sumsLostCard : Claim7 := { stood := { row := sumsLostRow, standIns := [], harness := (true, "868d100c709dba4bea71c4434ba353a08649f9c64f1ade93a7b95f723eb53f2d"), looks := false }, kinds := [], alts := [], laidByText := true, laidKinds := [.data], laidTests := true, laidLooks := .later }
def SumsLostCardSaid : Prop := Claim7.holds Tryd.pinned (.plain (OpenSpec.ofChange sumsLostSpec)) sumsLostCard

/-- THE TIED CARD OF 'girderlaw06.SumsOrder'. -/
def sumsOrderCard : Claim7 := { stood := { row := sumsOrderRow, standIns := [], harness := (true, "868d100c709dba4bea71c4434ba353a08649f9c64f1ade93a7b95f723eb53f2d"), looks := false }, kinds := [], alts := [], laidByText := true, laidKinds := [.data], laidTests := true, laidLooks := .later }
def SumsOrderCardSaid : Prop := Claim7.holds Tryd.pinned (.plain (OpenSpec.ofChange sumsOrderSpec)) sumsOrderCard

/-- THE TIED CARD OF 'girderlaw06.SumsNear'. -/
def sumsNearCard : Claim7 := { stood := { row := sumsNearRow, standIns := [], harness := (true, "868d100c709dba4bea71c4434ba353a08649f9c64f1ade93a7b95f723eb53f2d"), looks := false }, kinds := [], alts := [], laidByText := true, laidKinds := [.data], laidTests := true, laidLooks := .later }
def SumsNearCardSaid : Prop := Claim7.holds Tryd.pinned (.plain (OpenSpec.ofChange sumsNearSpec)) sumsNearCard

/-- THE TIED CARD OF 'girderlaw06.SumsKept'. -/
def sumsKeptCard : Claim7 := { stood := { row := sumsKeptRow, standIns := [], harness := (true, "868d100c709dba4bea71c4434ba353a08649f9c64f1ade93a7b95f723eb53f2d"), looks := false }, kinds := [], alts := [], laidByText := true, laidKinds := [.data], laidTests := true, laidLooks := .later }
def SumsKeptCardSaid : Prop := Claim7.holds Tryd.pinned (.plain (OpenSpec.ofChange sumsKeptSpec)) sumsKeptCard

/-- THE SECOND FORM's CARD OF 'girderlaw06.SumsLost'. -/
def sumsLostUptoCard : Claim7 := { stood := { row := sumsLostUptoRow, standIns := [], harness := (true, "868d100c709dba4bea71c4434ba353a08649f9c64f1ade93a7b95f723eb53f2d"), looks := false }, kinds := [], alts := [], laidByText := true, laidKinds := [.data], laidTests := true, laidLooks := .later }
def SumsLostUptoCardSaid : Prop := Claim7.holds Tryd.pinned (.plain (OpenSpec.upto sumsLostSpec)) sumsLostUptoCard

/-- THE SECOND FORM's CARD OF 'girderlaw06.SumsOrder'. -/
def sumsOrderUptoCard : Claim7 := { stood := { row := sumsOrderUptoRow, standIns := [], harness := (true, "868d100c709dba4bea71c4434ba353a08649f9c64f1ade93a7b95f723eb53f2d"), looks := false }, kinds := [], alts := [], laidByText := true, laidKinds := [.data], laidTests := true, laidLooks := .later }
def SumsOrderUptoCardSaid : Prop := Claim7.holds Tryd.pinned (.plain (OpenSpec.upto sumsOrderSpec)) sumsOrderUptoCard

/-- THE SECOND FORM's CARD OF 'girderlaw06.SumsNear'. -/
def sumsNearUptoCard : Claim7 := { stood := { row := sumsNearUptoRow, standIns := [], harness := (true, "868d100c709dba4bea71c4434ba353a08649f9c64f1ade93a7b95f723eb53f2d"), looks := false }, kinds := [], alts := [], laidByText := true, laidKinds := [.data], laidTests := true, laidLooks := .later }
def SumsNearUptoCardSaid : Prop := Claim7.holds Tryd.pinned (.plain (OpenSpec.upto sumsNearSpec)) sumsNearUptoCard

/-- THE SECOND FORM's CARD OF 'girderlaw06.SumsKept'. -/
def sumsKeptUptoCard : Claim7 := { stood := { row := sumsKeptUptoRow, standIns := [], harness := (true, "868d100c709dba4bea71c4434ba353a08649f9c64f1ade93a7b95f723eb53f2d"), looks := false }, kinds := [], alts := [], laidByText := true, laidKinds := [.data], laidTests := true, laidLooks := .later }
def SumsKeptUptoCardSaid : Prop := Claim7.holds Tryd.pinned (.plain (OpenSpec.upto sumsKeptSpec)) sumsKeptUptoCard
end Rows
end Go.Proofs.YtlkmmfmnggejlaaDoor
