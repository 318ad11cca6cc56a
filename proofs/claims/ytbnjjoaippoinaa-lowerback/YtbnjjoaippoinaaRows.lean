/-
  No cell of these rows narrows 'for every input' (looked for: loops, veiled, ifaces, maps, wideKeys, modest, calm, conditions, laid).
  DERIVED. THE GIVEN ROWS OF THIS SEAT. 5 by the template 'for every input the law returns true; each argument reads behind the call as it read before'; 0 by the template 'total and deterministic' (their statements: YtbnjjoaippoinaaTotals.lean).
  GIVEN WITH THE SEED: the statements are not yours to turn. If you find one false, say at which input.
  Laid BY PROGRAM, IN A SANDBOX (cutbox-rows.mjs): the forced cells as the released guide's own fill.sh prints them over the translation e7ffd5c71902fb2e… (all of the seat's roots in one cut). By AI agents, Wed Nov 11 2026. No macro, syntax, notation, axiom, sorry.
-/
import Derived.Test.YtbnjjoaippoinaaChecked
import GoSem.Claim
import GoSem.ClaimJoined
import GoSem.ClaimMapViews
import Derived.JoinedTies
import Derived.KernelRfl
namespace Go.Proofs.Ytbnjjoaippoinaa
/- THE CELL 'sum', in the pinned program and in every row, IS THE sha256 OF THE DUMP (.gsa) THAT YtbnjjoaippoinaaProg.lean LOADS. Nothing in Lean hashes anything: it is a label: what it is worth is what the hold of that sum in a sandbox is worth. -/
noncomputable def Try.pinned : Pinned := { name := "ytbnjjoaippoinaa", sum := "e7ffd5c71902fb2e9bd53c1235997dab81518b09992d96fd3bce41b5895a439d", checked := Try.checked }
namespace Rows
def none {H : Type} : Left H := { results := [], args := [] }

/-- 'girderlaw12.LowerFactors': WHATEVER THE INPUT: true; the input reads as it did. -/
def lowerFactorsSpec : ChangeSpec := { name := "lowerFactors", fn := fun _ => fun
  | [d] => { results := [.lit (.bool true)], args := [d] }
  | _ => none }
def lowerFactorsRow : OpenClaim := { program := "ytbnjjoaippoinaa", sum := "e7ffd5c71902fb2e9bd53c1235997dab81518b09992d96fd3bce41b5895a439d", func := "girder/girderlaw12.LowerFactors", spec := "lowerFactors", inPlace := ["math.Float64bits", "math.Float64frombits"], unfollowed := true, recurses := true, apart := false }
def LowerFactorsSaid : Prop := lowerFactorsRow.holds Try.pinned (OpenSpec.ofChange lowerFactorsSpec)

/-- ITS FALSE NEIGHBOUR: 'it returns false'. Refute it at one input. -/
def lowerFactorsWrong : ChangeSpec := { name := "lowerFactors", fn := fun _ => fun
  | [d] => { results := [.lit (.bool false)], args := [d] }
  | _ => none }
def LowerFactorsWrongFalsely : Prop := lowerFactorsRow.holds Try.pinned (OpenSpec.ofChange lowerFactorsWrong)

/-- 'girderlaw12.LowerTimes': WHATEVER THE INPUT: true; the input reads as it did. -/
def lowerTimesSpec : ChangeSpec := { name := "lowerTimes", fn := fun _ => fun
  | [d] => { results := [.lit (.bool true)], args := [d] }
  | _ => none }
def lowerTimesRow : OpenClaim := { program := "ytbnjjoaippoinaa", sum := "e7ffd5c71902fb2e9bd53c1235997dab81518b09992d96fd3bce41b5895a439d", func := "girder/girderlaw12.LowerTimes", spec := "lowerTimes", inPlace := ["math.Float64bits", "math.Float64frombits"], unfollowed := true, recurses := true, apart := false }
def LowerTimesSaid : Prop := lowerTimesRow.holds Try.pinned (OpenSpec.ofChange lowerTimesSpec)

/-- ITS FALSE NEIGHBOUR: 'it returns false'. Refute it at one input. -/
def lowerTimesWrong : ChangeSpec := { name := "lowerTimes", fn := fun _ => fun
  | [d] => { results := [.lit (.bool false)], args := [d] }
  | _ => none }
def LowerTimesWrongFalsely : Prop := lowerTimesRow.holds Try.pinned (OpenSpec.ofChange lowerTimesWrong)

/-- 'girderlaw12.LowerNumbers': WHATEVER THE INPUT: true; the input reads as it did. -/
def lowerNumbersSpec : ChangeSpec := { name := "lowerNumbers", fn := fun _ => fun
  | [] => { results := [.lit (.bool true)], args := [] }
  | _ => none }
def lowerNumbersRow : OpenClaim := { program := "ytbnjjoaippoinaa", sum := "e7ffd5c71902fb2e9bd53c1235997dab81518b09992d96fd3bce41b5895a439d", func := "girder/girderlaw12.LowerNumbers", spec := "lowerNumbers", inPlace := ["math.Float64bits", "math.Float64frombits"], unfollowed := true, recurses := true, apart := false }
def LowerNumbersSaid : Prop := lowerNumbersRow.holds Try.pinned (OpenSpec.ofChange lowerNumbersSpec)

/-- ITS FALSE NEIGHBOUR: 'it returns false'. Refute it at one input. -/
def lowerNumbersWrong : ChangeSpec := { name := "lowerNumbers", fn := fun _ => fun
  | [] => { results := [.lit (.bool false)], args := [] }
  | _ => none }
def LowerNumbersWrongFalsely : Prop := lowerNumbersRow.holds Try.pinned (OpenSpec.ofChange lowerNumbersWrong)

/-- 'girderlaw12.LowerScaled': WHATEVER THE INPUT: true; the input reads as it did. -/
def lowerScaledSpec : ChangeSpec := { name := "lowerScaled", fn := fun _ => fun
  | [d1, d2] => { results := [.lit (.bool true)], args := [d1, d2] }
  | _ => none }
def lowerScaledRow : OpenClaim := { program := "ytbnjjoaippoinaa", sum := "e7ffd5c71902fb2e9bd53c1235997dab81518b09992d96fd3bce41b5895a439d", func := "girder/girderlaw12.LowerScaled", spec := "lowerScaled", inPlace := ["math.Float64bits", "math.Float64frombits"], unfollowed := true, recurses := true, apart := false }
def LowerScaledSaid : Prop := lowerScaledRow.holds Try.pinned (OpenSpec.ofChange lowerScaledSpec)

/-- ITS FALSE NEIGHBOUR: 'it returns false'. Refute it at one input. -/
def lowerScaledWrong : ChangeSpec := { name := "lowerScaled", fn := fun _ => fun
  | [d1, d2] => { results := [.lit (.bool false)], args := [d1, d2] }
  | _ => none }
def LowerScaledWrongFalsely : Prop := lowerScaledRow.holds Try.pinned (OpenSpec.ofChange lowerScaledWrong)

/-- 'girderlaw12.LowerBack': WHATEVER THE INPUT: true; the input reads as it did. -/
def lowerBackSpec : ChangeSpec := { name := "lowerBack", fn := fun _ => fun
  | [d1, d2] => { results := [.lit (.bool true)], args := [d1, d2] }
  | _ => none }
def lowerBackRow : OpenClaim := { program := "ytbnjjoaippoinaa", sum := "e7ffd5c71902fb2e9bd53c1235997dab81518b09992d96fd3bce41b5895a439d", func := "girder/girderlaw12.LowerBack", spec := "lowerBack", inPlace := ["math.Float64bits", "math.Float64frombits"], unfollowed := true, recurses := true, apart := false }
def LowerBackSaid : Prop := lowerBackRow.holds Try.pinned (OpenSpec.ofChange lowerBackSpec)

/-- ITS FALSE NEIGHBOUR: 'it returns false'. Refute it at one input. -/
def lowerBackWrong : ChangeSpec := { name := "lowerBack", fn := fun _ => fun
  | [d1, d2] => { results := [.lit (.bool false)], args := [d1, d2] }
  | _ => none }
def LowerBackWrongFalsely : Prop := lowerBackRow.holds Try.pinned (OpenSpec.ofChange lowerBackWrong)

/- THE SECOND FORM. 'bulk': how many values and letters a reading holds, each counted each time it is reached (what is shared counts as often as it is met; a slice's spare places count too). A statement '..UptoSaid' is the law's where the arguments, and the package variables that the reading takes, are together of bulk at most 1048576: NARROWER than '..Said'. Prove '..Said' where nothing that the law and all that it calls make is longer than what came in: it says more and counts as full. Else prove '..UptoSaid'. A law counts once. -/
mutual
def uptoBulk {H : Type} : DataW H → Nat
  | .lit (.string bytes) => bytes.length + 1
  | .lit _ => 1
  | .nil => 1
  | .ptr d => uptoBulk d + 1
  | .slice elems spare => uptoBulkAll elems + uptoBulkAll spare + 1
  | .agg parts => uptoBulkAll parts + 1
  | .iface _ d => uptoBulk d + 1
  | .map entries => uptoBulkEntries entries + 1
  | .held _ => 1
def uptoBulkAll {H : Type} : List (DataW H) → Nat
  | [] => 0
  | d :: r => uptoBulk d + uptoBulkAll r
def uptoBulkEntries {H : Type} : List (Lit × DataW H) → Nat
  | [] => 0
  | x :: r => uptoBulkEntry x + uptoBulkEntries r
def uptoBulkEntry {H : Type} : Lit × DataW H → Nat
  | (.string bytes, d) => bytes.length + uptoBulk d + 1
  | (_, d) => uptoBulk d + 1
 end
def uptoSmall : (H : Type) → List (DataW H) → Bool := fun _ ds => decide (uptoBulkAll ds ≤ 1048576)
def OpenSpec.upto (s : _root_.Go.ChangeSpec) : _root_.Go.OpenSpec := { _root_.Go.OpenSpec.ofChange s with cond := some uptoSmall }

/-- 'girderlaw12.LowerFactors', WHERE WHAT IT READS IS OF BULK AT MOST 1048576: true; the input reads as it did. -/
def lowerFactorsUptoRow : OpenClaim := { program := "ytbnjjoaippoinaa", sum := "e7ffd5c71902fb2e9bd53c1235997dab81518b09992d96fd3bce41b5895a439d", func := "girder/girderlaw12.LowerFactors", spec := "lowerFactors", inPlace := ["math.Float64bits", "math.Float64frombits"], unfollowed := true, recurses := true, apart := false, narrowed := true }
def LowerFactorsUptoSaid : Prop := lowerFactorsUptoRow.holds Try.pinned (OpenSpec.upto lowerFactorsSpec)

/-- 'girderlaw12.LowerTimes', WHERE WHAT IT READS IS OF BULK AT MOST 1048576: true; the input reads as it did. -/
def lowerTimesUptoRow : OpenClaim := { program := "ytbnjjoaippoinaa", sum := "e7ffd5c71902fb2e9bd53c1235997dab81518b09992d96fd3bce41b5895a439d", func := "girder/girderlaw12.LowerTimes", spec := "lowerTimes", inPlace := ["math.Float64bits", "math.Float64frombits"], unfollowed := true, recurses := true, apart := false, narrowed := true }
def LowerTimesUptoSaid : Prop := lowerTimesUptoRow.holds Try.pinned (OpenSpec.upto lowerTimesSpec)

/-- 'girderlaw12.LowerNumbers', WHERE WHAT IT READS IS OF BULK AT MOST 1048576: true; the input reads as it did. -/
def lowerNumbersUptoRow : OpenClaim := { program := "ytbnjjoaippoinaa", sum := "e7ffd5c71902fb2e9bd53c1235997dab81518b09992d96fd3bce41b5895a439d", func := "girder/girderlaw12.LowerNumbers", spec := "lowerNumbers", inPlace := ["math.Float64bits", "math.Float64frombits"], unfollowed := true, recurses := true, apart := false, narrowed := true }
def LowerNumbersUptoSaid : Prop := lowerNumbersUptoRow.holds Try.pinned (OpenSpec.upto lowerNumbersSpec)

/-- 'girderlaw12.LowerScaled', WHERE WHAT IT READS IS OF BULK AT MOST 1048576: true; the input reads as it did. -/
def lowerScaledUptoRow : OpenClaim := { program := "ytbnjjoaippoinaa", sum := "e7ffd5c71902fb2e9bd53c1235997dab81518b09992d96fd3bce41b5895a439d", func := "girder/girderlaw12.LowerScaled", spec := "lowerScaled", inPlace := ["math.Float64bits", "math.Float64frombits"], unfollowed := true, recurses := true, apart := false, narrowed := true }
def LowerScaledUptoSaid : Prop := lowerScaledUptoRow.holds Try.pinned (OpenSpec.upto lowerScaledSpec)

/-- 'girderlaw12.LowerBack', WHERE WHAT IT READS IS OF BULK AT MOST 1048576: true; the input reads as it did. -/
def lowerBackUptoRow : OpenClaim := { program := "ytbnjjoaippoinaa", sum := "e7ffd5c71902fb2e9bd53c1235997dab81518b09992d96fd3bce41b5895a439d", func := "girder/girderlaw12.LowerBack", spec := "lowerBack", inPlace := ["math.Float64bits", "math.Float64frombits"], unfollowed := true, recurses := true, apart := false, narrowed := true }
def LowerBackUptoSaid : Prop := lowerBackUptoRow.holds Try.pinned (OpenSpec.upto lowerBackSpec)

end Rows
end Go.Proofs.Ytbnjjoaippoinaa
