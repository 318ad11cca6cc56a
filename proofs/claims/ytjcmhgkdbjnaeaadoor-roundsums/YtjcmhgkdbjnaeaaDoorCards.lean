/-
  DERIVED. GIVEN WITH THE SEED: THE CARDS: each row of YtjcmhgkdbjnaeaaDoorRows.lean that lists a variable, with what it lists TIED to the program's text (the seventh form; the later family's looks); each row that meets fmt, with fmt's text TOLD by the authors' own Lean function (tested against real Go, not proved from fmt's source: count such statements apart). THE CARD IS WHAT COUNTS. Prove the row's statement (the work); the ties are given (YtjcmhgkdbjnaeaaDoorTie.lean); close each card by the builder's one call (the guide's Derived/Test/ToyasCard.lean, 'card_holds'). Laid BY PROGRAM, IN A SANDBOX (cutbox-door.mjs). By AI agents, Wed Nov 11 2026. No macro, syntax, notation, axiom, sorry.
-/
import Derived.Test.YtjcmhgkdbjnaeaaDoorRows
import GoSem.ClaimSeven
namespace Go.Proofs.YtjcmhgkdbjnaeaaDoor
namespace Rows

/-- THE TIED CARD OF 'girderlaw03.RoundSums'. -/
def roundSumsCard : Claim7 := { stood := { row := roundSumsRow, standIns := [], harness := (true, "fb3e432679d0eafd77ac5ddc57abfc2950a18734c25f8de4724196d0d50f735c"), looks := false }, kinds := [], alts := [], laidByText := true, laidKinds := [.data], laidTests := true, laidLooks := .later }
def RoundSumsCardSaid : Prop := Claim7.holds Tryd.pinned (.plain (OpenSpec.ofChange roundSumsSpec)) roundSumsCard

/-- THE SECOND FORM's CARD OF 'girderlaw03.RoundSums'. -/
def roundSumsUptoCard : Claim7 := { stood := { row := roundSumsUptoRow, standIns := [], harness := (true, "fb3e432679d0eafd77ac5ddc57abfc2950a18734c25f8de4724196d0d50f735c"), looks := false }, kinds := [], alts := [], laidByText := true, laidKinds := [.data], laidTests := true, laidLooks := .later }
def RoundSumsUptoCardSaid : Prop := Claim7.holds Tryd.pinned (.plain (OpenSpec.upto roundSumsSpec)) roundSumsUptoCard
end Rows
end Go.Proofs.YtjcmhgkdbjnaeaaDoor
