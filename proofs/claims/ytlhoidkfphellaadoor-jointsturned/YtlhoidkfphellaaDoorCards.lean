/-
  DERIVED. GIVEN WITH THE SEED: THE CARDS: each row of YtlhoidkfphellaaDoorRows.lean that lists a variable, with what it lists TIED to the program's text (the seventh form; the later family's looks); each row that meets fmt, with fmt's text TOLD by the authors' own Lean function (tested against real Go, not proved from fmt's source: count such statements apart). THE CARD IS WHAT COUNTS. Prove the row's statement (the work); the ties are given (YtlhoidkfphellaaDoorTie.lean); close each card by the builder's one call (the guide's Derived/Test/ToyasCard.lean, 'card_holds'). Laid BY PROGRAM, IN A SANDBOX (cutbox-door.mjs). By AI agents, Wed Nov 11 2026. No macro, syntax, notation, axiom, sorry.
-/
import Derived.Test.YtlhoidkfphellaaDoorRows
import GoSem.ClaimSeven
namespace Go.Proofs.YtlhoidkfphellaaDoor
namespace Rows

/-- THE TIED CARD OF 'girderlaw18.JointsChecks'. -/
def jointsChecksCard : Claim7 := { stood := { row := jointsChecksRow, standIns := [], harness := (true, "22ee31123250664ed8005b5af2932b3f958610b503ad5800997b41781c0e2f5a"), looks := false }, kinds := [], alts := [], laidByText := true, laidKinds := [.data], laidTests := true, laidLooks := .later }
def JointsChecksCardSaid : Prop := Claim7.holds Tryd.pinned (.plain (OpenSpec.ofChange jointsChecksSpec)) jointsChecksCard

/-- THE TIED CARD OF 'girderlaw18.JointsFinds'. -/
def jointsFindsCard : Claim7 := { stood := { row := jointsFindsRow, standIns := [], harness := (true, "22ee31123250664ed8005b5af2932b3f958610b503ad5800997b41781c0e2f5a"), looks := false }, kinds := [], alts := [], laidByText := true, laidKinds := [.data], laidTests := true, laidLooks := .later }
def JointsFindsCardSaid : Prop := Claim7.holds Tryd.pinned (.plain (OpenSpec.ofChange jointsFindsSpec)) jointsFindsCard

/-- THE TIED CARD OF 'girderlaw18.JointsLength'. -/
def jointsLengthCard : Claim7 := { stood := { row := jointsLengthRow, standIns := [], harness := (true, "22ee31123250664ed8005b5af2932b3f958610b503ad5800997b41781c0e2f5a"), looks := false }, kinds := [], alts := [], laidByText := true, laidKinds := [.data], laidTests := true, laidLooks := .later }
def JointsLengthCardSaid : Prop := Claim7.holds Tryd.pinned (.plain (OpenSpec.ofChange jointsLengthSpec)) jointsLengthCard

/-- THE TIED CARD OF 'girderlaw18.JointsTurned'. -/
def jointsTurnedCard : Claim7 := { stood := { row := jointsTurnedRow, standIns := [], harness := (true, "22ee31123250664ed8005b5af2932b3f958610b503ad5800997b41781c0e2f5a"), looks := false }, kinds := [], alts := [], laidByText := true, laidKinds := [.data], laidTests := true, laidLooks := .later }
def JointsTurnedCardSaid : Prop := Claim7.holds Tryd.pinned (.plain (OpenSpec.ofChange jointsTurnedSpec)) jointsTurnedCard

/-- THE SECOND FORM's CARD OF 'girderlaw18.JointsChecks'. -/
def jointsChecksUptoCard : Claim7 := { stood := { row := jointsChecksUptoRow, standIns := [], harness := (true, "22ee31123250664ed8005b5af2932b3f958610b503ad5800997b41781c0e2f5a"), looks := false }, kinds := [], alts := [], laidByText := true, laidKinds := [.data], laidTests := true, laidLooks := .later }
def JointsChecksUptoCardSaid : Prop := Claim7.holds Tryd.pinned (.plain (OpenSpec.upto jointsChecksSpec)) jointsChecksUptoCard

/-- THE SECOND FORM's CARD OF 'girderlaw18.JointsFinds'. -/
def jointsFindsUptoCard : Claim7 := { stood := { row := jointsFindsUptoRow, standIns := [], harness := (true, "22ee31123250664ed8005b5af2932b3f958610b503ad5800997b41781c0e2f5a"), looks := false }, kinds := [], alts := [], laidByText := true, laidKinds := [.data], laidTests := true, laidLooks := .later }
def JointsFindsUptoCardSaid : Prop := Claim7.holds Tryd.pinned (.plain (OpenSpec.upto jointsFindsSpec)) jointsFindsUptoCard

/-- THE SECOND FORM's CARD OF 'girderlaw18.JointsLength'. -/
def jointsLengthUptoCard : Claim7 := { stood := { row := jointsLengthUptoRow, standIns := [], harness := (true, "22ee31123250664ed8005b5af2932b3f958610b503ad5800997b41781c0e2f5a"), looks := false }, kinds := [], alts := [], laidByText := true, laidKinds := [.data], laidTests := true, laidLooks := .later }
def JointsLengthUptoCardSaid : Prop := Claim7.holds Tryd.pinned (.plain (OpenSpec.upto jointsLengthSpec)) jointsLengthUptoCard

/-- THE SECOND FORM's CARD OF 'girderlaw18.JointsTurned'. -/
def jointsTurnedUptoCard : Claim7 := { stood := { row := jointsTurnedUptoRow, standIns := [], harness := (true, "22ee31123250664ed8005b5af2932b3f958610b503ad5800997b41781c0e2f5a"), looks := false }, kinds := [], alts := [], laidByText := true, laidKinds := [.data], laidTests := true, laidLooks := .later }
def JointsTurnedUptoCardSaid : Prop := Claim7.holds Tryd.pinned (.plain (OpenSpec.upto jointsTurnedSpec)) jointsTurnedUptoCard
end Rows
end Go.Proofs.YtlhoidkfphellaaDoor
