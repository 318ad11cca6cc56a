/-
  DERIVED. GIVEN WITH THE SEED: THE CARDS: each row of YtbhkgjjogepgnaaDoorRows.lean that lists a variable, with what it lists TIED to the program's text (the seventh form; the later family's looks); each row that meets fmt, with fmt's text TOLD by the authors' own Lean function (tested against real Go, not proved from fmt's source: count such statements apart). THE CARD IS WHAT COUNTS. Prove the row's statement (the work); the ties are given (YtbhkgjjogepgnaaDoorTie.lean); close each card by the builder's one call (the guide's Derived/Test/ToyasCard.lean, 'card_holds'). Laid BY PROGRAM, IN A SANDBOX (cutbox-door.mjs). By AI agents, Wed Nov 11 2026. No macro, syntax, notation, axiom, sorry.
-/
import Derived.Test.YtbhkgjjogepgnaaDoorRows
import GoSem.ClaimSeven
namespace Go.Proofs.YtbhkgjjogepgnaaDoor
namespace Rows

/-- THE TIED CARD OF 'girderlaw05.SpanWithin'. -/
def spanWithinCard : Claim7 := { stood := { row := spanWithinRow, standIns := [], harness := (true, "726b5110c09afb8c328a496e4a9764f68288c93c49a25b3f8d80f4dc91b64c83"), looks := false }, kinds := [], alts := [], laidByText := true, laidKinds := [.data], laidTests := true, laidLooks := .later }
def SpanWithinCardSaid : Prop := Claim7.holds Tryd.pinned (.plain (OpenSpec.ofChange spanWithinSpec)) spanWithinCard

/-- THE TIED CARD OF 'girderlaw05.SpanSums'. -/
def spanSumsCard : Claim7 := { stood := { row := spanSumsRow, standIns := [], harness := (true, "726b5110c09afb8c328a496e4a9764f68288c93c49a25b3f8d80f4dc91b64c83"), looks := false }, kinds := [], alts := [], laidByText := true, laidKinds := [.data], laidTests := true, laidLooks := .later }
def SpanSumsCardSaid : Prop := Claim7.holds Tryd.pinned (.plain (OpenSpec.ofChange spanSumsSpec)) spanSumsCard

/-- THE SECOND FORM's CARD OF 'girderlaw05.SpanWithin'. -/
def spanWithinUptoCard : Claim7 := { stood := { row := spanWithinUptoRow, standIns := [], harness := (true, "726b5110c09afb8c328a496e4a9764f68288c93c49a25b3f8d80f4dc91b64c83"), looks := false }, kinds := [], alts := [], laidByText := true, laidKinds := [.data], laidTests := true, laidLooks := .later }
def SpanWithinUptoCardSaid : Prop := Claim7.holds Tryd.pinned (.plain (OpenSpec.upto spanWithinSpec)) spanWithinUptoCard

/-- THE SECOND FORM's CARD OF 'girderlaw05.SpanSums'. -/
def spanSumsUptoCard : Claim7 := { stood := { row := spanSumsUptoRow, standIns := [], harness := (true, "726b5110c09afb8c328a496e4a9764f68288c93c49a25b3f8d80f4dc91b64c83"), looks := false }, kinds := [], alts := [], laidByText := true, laidKinds := [.data], laidTests := true, laidLooks := .later }
def SpanSumsUptoCardSaid : Prop := Claim7.holds Tryd.pinned (.plain (OpenSpec.upto spanSumsSpec)) spanSumsUptoCard
end Rows
end Go.Proofs.YtbhkgjjogepgnaaDoor
