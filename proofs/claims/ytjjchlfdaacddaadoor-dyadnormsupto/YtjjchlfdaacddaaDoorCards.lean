/-
  DERIVED. GIVEN WITH THE SEED: THE CARDS: each row of YtjjchlfdaacddaaDoorRows.lean that lists a variable, with what it lists TIED to the program's text (the seventh form; the later family's looks); each row that meets fmt, with fmt's text TOLD by the authors' own Lean function (tested against real Go, not proved from fmt's source: count such statements apart). THE CARD IS WHAT COUNTS. Prove the row's statement (the work); the ties are given (YtjjchlfdaacddaaDoorTie.lean); close each card by the builder's one call (the guide's Derived/Test/ToyasCard.lean, 'card_holds'). Laid BY PROGRAM, IN A SANDBOX (cutbox-door.mjs). By AI agents, Wed Nov 11 2026. No macro, syntax, notation, axiom, sorry.
-/
import Derived.Test.YtjjchlfdaacddaaDoorRows
import GoSem.ClaimSeven
namespace Go.Proofs.YtjjchlfdaacddaaDoor
namespace Rows

/-- THE TIED CARD OF 'girderlaw02.DyadNorms'. -/
def dyadNormsCard : Claim7 := { stood := { row := dyadNormsRow, standIns := [], harness := (true, "fe8c35603eaea1d96455fae2f521fd0183752021574a0655b66ea671a57dcaba"), looks := false }, kinds := [], alts := [], laidByText := true, laidKinds := [.data], laidTests := true, laidLooks := .later }
def DyadNormsCardSaid : Prop := Claim7.holds Tryd.pinned (.plain (OpenSpec.ofChange dyadNormsSpec)) dyadNormsCard

/-- THE TIED CARD OF 'girderlaw02.DyadBegins'. -/
def dyadBeginsCard : Claim7 := { stood := { row := dyadBeginsRow, standIns := [], harness := (true, "fe8c35603eaea1d96455fae2f521fd0183752021574a0655b66ea671a57dcaba"), looks := false }, kinds := [], alts := [], laidByText := true, laidKinds := [.data], laidTests := true, laidLooks := .later }
def DyadBeginsCardSaid : Prop := Claim7.holds Tryd.pinned (.plain (OpenSpec.ofChange dyadBeginsSpec)) dyadBeginsCard

/-- THE TIED CARD OF 'girderlaw02.DyadReckons'. -/
def dyadReckonsCard : Claim7 := { stood := { row := dyadReckonsRow, standIns := [], harness := (true, "fe8c35603eaea1d96455fae2f521fd0183752021574a0655b66ea671a57dcaba"), looks := false }, kinds := [], alts := [], laidByText := true, laidKinds := [.data], laidTests := true, laidLooks := .later }
def DyadReckonsCardSaid : Prop := Claim7.holds Tryd.pinned (.plain (OpenSpec.ofChange dyadReckonsSpec)) dyadReckonsCard

/-- THE TIED CARD OF 'girderlaw02.DyadScales'. -/
def dyadScalesCard : Claim7 := { stood := { row := dyadScalesRow, standIns := [], harness := (true, "fe8c35603eaea1d96455fae2f521fd0183752021574a0655b66ea671a57dcaba"), looks := false }, kinds := [], alts := [], laidByText := true, laidKinds := [.data], laidTests := true, laidLooks := .later }
def DyadScalesCardSaid : Prop := Claim7.holds Tryd.pinned (.plain (OpenSpec.ofChange dyadScalesSpec)) dyadScalesCard

/-- THE TIED CARD OF 'girderlaw02.DyadRounds'. -/
def dyadRoundsCard : Claim7 := { stood := { row := dyadRoundsRow, standIns := [], harness := (true, "fe8c35603eaea1d96455fae2f521fd0183752021574a0655b66ea671a57dcaba"), looks := false }, kinds := [], alts := [], laidByText := true, laidKinds := [.data], laidTests := true, laidLooks := .later }
def DyadRoundsCardSaid : Prop := Claim7.holds Tryd.pinned (.plain (OpenSpec.ofChange dyadRoundsSpec)) dyadRoundsCard

/-- THE SECOND FORM's CARD OF 'girderlaw02.DyadNorms'. -/
def dyadNormsUptoCard : Claim7 := { stood := { row := dyadNormsUptoRow, standIns := [], harness := (true, "fe8c35603eaea1d96455fae2f521fd0183752021574a0655b66ea671a57dcaba"), looks := false }, kinds := [], alts := [], laidByText := true, laidKinds := [.data], laidTests := true, laidLooks := .later }
def DyadNormsUptoCardSaid : Prop := Claim7.holds Tryd.pinned (.plain (OpenSpec.upto dyadNormsSpec)) dyadNormsUptoCard

/-- THE SECOND FORM's CARD OF 'girderlaw02.DyadBegins'. -/
def dyadBeginsUptoCard : Claim7 := { stood := { row := dyadBeginsUptoRow, standIns := [], harness := (true, "fe8c35603eaea1d96455fae2f521fd0183752021574a0655b66ea671a57dcaba"), looks := false }, kinds := [], alts := [], laidByText := true, laidKinds := [.data], laidTests := true, laidLooks := .later }
def DyadBeginsUptoCardSaid : Prop := Claim7.holds Tryd.pinned (.plain (OpenSpec.upto dyadBeginsSpec)) dyadBeginsUptoCard

/-- THE SECOND FORM's CARD OF 'girderlaw02.DyadReckons'. -/
def dyadReckonsUptoCard : Claim7 := { stood := { row := dyadReckonsUptoRow, standIns := [], harness := (true, "fe8c35603eaea1d96455fae2f521fd0183752021574a0655b66ea671a57dcaba"), looks := false }, kinds := [], alts := [], laidByText := true, laidKinds := [.data], laidTests := true, laidLooks := .later }
def DyadReckonsUptoCardSaid : Prop := Claim7.holds Tryd.pinned (.plain (OpenSpec.upto dyadReckonsSpec)) dyadReckonsUptoCard

/-- THE SECOND FORM's CARD OF 'girderlaw02.DyadScales'. -/
def dyadScalesUptoCard : Claim7 := { stood := { row := dyadScalesUptoRow, standIns := [], harness := (true, "fe8c35603eaea1d96455fae2f521fd0183752021574a0655b66ea671a57dcaba"), looks := false }, kinds := [], alts := [], laidByText := true, laidKinds := [.data], laidTests := true, laidLooks := .later }
def DyadScalesUptoCardSaid : Prop := Claim7.holds Tryd.pinned (.plain (OpenSpec.upto dyadScalesSpec)) dyadScalesUptoCard

/-- THE SECOND FORM's CARD OF 'girderlaw02.DyadRounds'. -/
def dyadRoundsUptoCard : Claim7 := { stood := { row := dyadRoundsUptoRow, standIns := [], harness := (true, "fe8c35603eaea1d96455fae2f521fd0183752021574a0655b66ea671a57dcaba"), looks := false }, kinds := [], alts := [], laidByText := true, laidKinds := [.data], laidTests := true, laidLooks := .later }
def DyadRoundsUptoCardSaid : Prop := Claim7.holds Tryd.pinned (.plain (OpenSpec.upto dyadRoundsSpec)) dyadRoundsUptoCard
end Rows
end Go.Proofs.YtjjchlfdaacddaaDoor
