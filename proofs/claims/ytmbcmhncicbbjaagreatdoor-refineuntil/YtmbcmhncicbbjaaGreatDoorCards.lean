/-
  DERIVED. GIVEN WITH THE SEED: THE CARDS: each row of YtmbcmhncicbbjaaGreatDoorRows.lean that lists a variable, with what it lists TIED to the program's text (the seventh form; the later family's looks); each row that meets fmt, with fmt's text TOLD by the authors' own Lean function (tested against real Go, not proved from fmt's source: count such statements apart). THE CARD IS WHAT COUNTS. Prove the row's statement (the work); the ties are given (YtmbcmhncicbbjaaGreatDoorTie.lean); close each card by the builder's one call (the guide's Derived/Test/ToyasCard.lean, 'card_holds'). Laid BY PROGRAM, IN A SANDBOX (cutbox-door.mjs). By AI agents, Wed Nov 11 2026. No macro, syntax, notation, axiom, sorry.
-/
import Derived.Test.YtmbcmhncicbbjaaGreatDoorRows
import GoSem.ClaimSeven
namespace Go.Proofs.YtmbcmhncicbbjaaGreatDoor
namespace Rows

/-- THE TIED CARD OF 'girderlaw14.RefineLefts'. -/
def refineLeftsCard : Claim7 := { stood := { row := refineLeftsRow, standIns := [], harness := (true, "b1977a74e6548c4ce926da3497b724a8c7fbdbb9ff5398576aa1f89a769ac61f"), looks := false }, kinds := [], alts := [], laidByText := true, laidKinds := [.data], laidTests := true, laidLooks := .later }
def RefineLeftsCardSaid : Prop := Claim7.holds Tryz.pinned (.plain (OpenSpec.ofChange refineLeftsSpec)) refineLeftsCard

/-- THE TIED CARD OF 'girderlaw14.RefineSteps'. -/
def refineStepsCard : Claim7 := { stood := { row := refineStepsRow, standIns := [], harness := (true, "b1977a74e6548c4ce926da3497b724a8c7fbdbb9ff5398576aa1f89a769ac61f"), looks := false }, kinds := [], alts := [], laidByText := true, laidKinds := [.data], laidTests := true, laidLooks := .later }
def RefineStepsCardSaid : Prop := Claim7.holds Tryz.pinned (.plain (OpenSpec.ofChange refineStepsSpec)) refineStepsCard

/-- THE TIED CARD OF 'girderlaw14.RefineUntil'. -/
def refineUntilCard : Claim7 := { stood := { row := refineUntilRow, standIns := [], harness := (true, "b1977a74e6548c4ce926da3497b724a8c7fbdbb9ff5398576aa1f89a769ac61f"), looks := false }, kinds := [], alts := [], laidByText := true, laidKinds := [.data], laidTests := true, laidLooks := .later }
def RefineUntilCardSaid : Prop := Claim7.holds Tryz.pinned (.plain (OpenSpec.ofChange refineUntilSpec)) refineUntilCard

/-- THE SECOND FORM's CARD OF 'girderlaw14.RefineLefts'. -/
def refineLeftsUptoCard : Claim7 := { stood := { row := refineLeftsUptoRow, standIns := [], harness := (true, "b1977a74e6548c4ce926da3497b724a8c7fbdbb9ff5398576aa1f89a769ac61f"), looks := false }, kinds := [], alts := [], laidByText := true, laidKinds := [.data], laidTests := true, laidLooks := .later }
def RefineLeftsUptoCardSaid : Prop := Claim7.holds Tryz.pinned (.plain (OpenSpec.upto refineLeftsSpec)) refineLeftsUptoCard

/-- THE SECOND FORM's CARD OF 'girderlaw14.RefineSteps'. -/
def refineStepsUptoCard : Claim7 := { stood := { row := refineStepsUptoRow, standIns := [], harness := (true, "b1977a74e6548c4ce926da3497b724a8c7fbdbb9ff5398576aa1f89a769ac61f"), looks := false }, kinds := [], alts := [], laidByText := true, laidKinds := [.data], laidTests := true, laidLooks := .later }
def RefineStepsUptoCardSaid : Prop := Claim7.holds Tryz.pinned (.plain (OpenSpec.upto refineStepsSpec)) refineStepsUptoCard

/-- THE SECOND FORM's CARD OF 'girderlaw14.RefineUntil'. -/
def refineUntilUptoCard : Claim7 := { stood := { row := refineUntilUptoRow, standIns := [], harness := (true, "b1977a74e6548c4ce926da3497b724a8c7fbdbb9ff5398576aa1f89a769ac61f"), looks := false }, kinds := [], alts := [], laidByText := true, laidKinds := [.data], laidTests := true, laidLooks := .later }
def RefineUntilUptoCardSaid : Prop := Claim7.holds Tryz.pinned (.plain (OpenSpec.upto refineUntilSpec)) refineUntilUptoCard
end Rows
end Go.Proofs.YtmbcmhncicbbjaaGreatDoor
