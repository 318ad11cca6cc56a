/-
  No cell of these rows narrows 'for every input' (looked for: loops, veiled, ifaces, maps, wideKeys, modest, calm, conditions, laid).
  DERIVED. THE GIVEN ROWS OF THIS SEAT. 5 by the template 'for every input the law returns true; each argument reads behind the call as it read before'; 0 by the template 'total and deterministic' (their statements: YtlmllpkcmfnpnaaTotals.lean).
  GIVEN WITH THE SEED: the statements are not yours to turn. If you find one false, say at which input.
  Laid BY PROGRAM, IN A SANDBOX (cutbox-rows.mjs): the forced cells as the released guide's own fill.sh prints them over the translation f711f61813a53843… (all of the seat's roots in one cut). By AI agents, Wed Nov 11 2026. No macro, syntax, notation, axiom, sorry.
-/
import Derived.Test.YtlmllpkcmfnpnaaChecked
import GoSem.Claim
import GoSem.ClaimJoined
import GoSem.ClaimMapViews
import Derived.JoinedTies
import Derived.KernelRfl
namespace Go.Proofs.Ytlmllpkcmfnpnaa
/- THE CELL 'sum', in the pinned program and in every row, IS THE sha256 OF THE DUMP (.gsa) THAT YtlmllpkcmfnpnaaProg.lean LOADS. Nothing in Lean hashes anything: it is a label: what it is worth is what the hold of that sum in a sandbox is worth. -/
noncomputable def Try.pinned : Pinned := { name := "ytlmllpkcmfnpnaa", sum := "f711f61813a538438518c7c13d81e37090b25a13009eb47d8dcec09d01aaa415", checked := Try.checked }
namespace Rows
def none {H : Type} : Left H := { results := [], args := [] }

/-- 'girderlaw04.NarrowNumbers': WHATEVER THE INPUT: true; the input reads as it did. -/
def narrowNumbersSpec : ChangeSpec := { name := "narrowNumbers", fn := fun _ => fun
  | [] => { results := [.lit (.bool true)], args := [] }
  | _ => none }
def narrowNumbersRow : OpenClaim := { program := "ytlmllpkcmfnpnaa", sum := "f711f61813a538438518c7c13d81e37090b25a13009eb47d8dcec09d01aaa415", func := "girder/girderlaw04.NarrowNumbers", spec := "narrowNumbers", inPlace := ["math.Float64bits", "math.Float64frombits", "math.Float32bits", "math.Float32frombits", "math.sqrt"], apart := false }
def NarrowNumbersSaid : Prop := narrowNumbersRow.holds Try.pinned (OpenSpec.ofChange narrowNumbersSpec)

/-- ITS FALSE NEIGHBOUR: 'it returns false'. Refute it at one input. -/
def narrowNumbersWrong : ChangeSpec := { name := "narrowNumbers", fn := fun _ => fun
  | [] => { results := [.lit (.bool false)], args := [] }
  | _ => none }
def NarrowNumbersWrongFalsely : Prop := narrowNumbersRow.holds Try.pinned (OpenSpec.ofChange narrowNumbersWrong)

/-- 'girderlaw04.NarrowTo': WHATEVER THE INPUT: true; the input reads as it did. -/
def narrowToSpec : ChangeSpec := { name := "narrowTo", fn := fun _ => fun
  | [d1, d2] => { results := [.lit (.bool true)], args := [d1, d2] }
  | _ => none }
def narrowToRow : OpenClaim := { program := "ytlmllpkcmfnpnaa", sum := "f711f61813a538438518c7c13d81e37090b25a13009eb47d8dcec09d01aaa415", func := "girder/girderlaw04.NarrowTo", spec := "narrowTo", inPlace := ["math.Float64bits", "math.Float32bits", "math.Float32frombits", "math.Float64frombits"], apart := false }
def NarrowToSaid : Prop := narrowToRow.holds Try.pinned (OpenSpec.ofChange narrowToSpec)

/-- ITS FALSE NEIGHBOUR: 'it returns false'. Refute it at one input. -/
def narrowToWrong : ChangeSpec := { name := "narrowTo", fn := fun _ => fun
  | [d1, d2] => { results := [.lit (.bool false)], args := [d1, d2] }
  | _ => none }
def NarrowToWrongFalsely : Prop := narrowToRow.holds Try.pinned (OpenSpec.ofChange narrowToWrong)

/-- 'girderlaw04.NarrowReckons': WHATEVER THE INPUT: true; the input reads as it did. -/
def narrowReckonsSpec : ChangeSpec := { name := "narrowReckons", fn := fun _ => fun
  | [d1, d2] => { results := [.lit (.bool true)], args := [d1, d2] }
  | _ => none }
def narrowReckonsRow : OpenClaim := { program := "ytlmllpkcmfnpnaa", sum := "f711f61813a538438518c7c13d81e37090b25a13009eb47d8dcec09d01aaa415", func := "girder/girderlaw04.NarrowReckons", spec := "narrowReckons", inPlace := ["math.Float64bits", "math.Float64frombits", "math.Float32bits", "math.FMA", "math.sqrt", "math.Float32frombits"], apart := false }
def NarrowReckonsSaid : Prop := narrowReckonsRow.holds Try.pinned (OpenSpec.ofChange narrowReckonsSpec)

/-- ITS FALSE NEIGHBOUR: 'it returns false'. Refute it at one input. -/
def narrowReckonsWrong : ChangeSpec := { name := "narrowReckons", fn := fun _ => fun
  | [d1, d2] => { results := [.lit (.bool false)], args := [d1, d2] }
  | _ => none }
def NarrowReckonsWrongFalsely : Prop := narrowReckonsRow.holds Try.pinned (OpenSpec.ofChange narrowReckonsWrong)

/-- 'girderlaw04.NarrowTwice': WHATEVER THE INPUT: true; the input reads as it did. -/
def narrowTwiceSpec : ChangeSpec := { name := "narrowTwice", fn := fun _ => fun
  | [d1, d2] => { results := [.lit (.bool true)], args := [d1, d2] }
  | _ => none }
def narrowTwiceRow : OpenClaim := { program := "ytlmllpkcmfnpnaa", sum := "f711f61813a538438518c7c13d81e37090b25a13009eb47d8dcec09d01aaa415", func := "girder/girderlaw04.NarrowTwice", spec := "narrowTwice", inPlace := ["math.Float64bits", "math.Float32bits", "math.Float32frombits", "math.Float64frombits", "math.sqrt"], apart := false }
def NarrowTwiceSaid : Prop := narrowTwiceRow.holds Try.pinned (OpenSpec.ofChange narrowTwiceSpec)

/-- ITS FALSE NEIGHBOUR: 'it returns false'. Refute it at one input. -/
def narrowTwiceWrong : ChangeSpec := { name := "narrowTwice", fn := fun _ => fun
  | [d1, d2] => { results := [.lit (.bool false)], args := [d1, d2] }
  | _ => none }
def NarrowTwiceWrongFalsely : Prop := narrowTwiceRow.holds Try.pinned (OpenSpec.ofChange narrowTwiceWrong)

/-- 'girderlaw04.NarrowBack': WHATEVER THE INPUT: true; the input reads as it did. -/
def narrowBackSpec : ChangeSpec := { name := "narrowBack", fn := fun _ => fun
  | [d1, d2] => { results := [.lit (.bool true)], args := [d1, d2] }
  | _ => none }
def narrowBackRow : OpenClaim := { program := "ytlmllpkcmfnpnaa", sum := "f711f61813a538438518c7c13d81e37090b25a13009eb47d8dcec09d01aaa415", func := "girder/girderlaw04.NarrowBack", spec := "narrowBack", inPlace := ["math.Float64bits", "math.Float32bits", "math.Float32frombits", "math.Float64frombits"], apart := false }
def NarrowBackSaid : Prop := narrowBackRow.holds Try.pinned (OpenSpec.ofChange narrowBackSpec)

/-- ITS FALSE NEIGHBOUR: 'it returns false'. Refute it at one input. -/
def narrowBackWrong : ChangeSpec := { name := "narrowBack", fn := fun _ => fun
  | [d1, d2] => { results := [.lit (.bool false)], args := [d1, d2] }
  | _ => none }
def NarrowBackWrongFalsely : Prop := narrowBackRow.holds Try.pinned (OpenSpec.ofChange narrowBackWrong)

/- THE SECOND FORM. 'bulk': how many values and letters a reading holds, each counted each time it is reached (what is shared counts as often as it is met; a slice's spare places count too). A statement '..UptoSaid' is the law's where the arguments, and the package variables that the reading takes, are together of bulk at most 1048576: NARROWER than '..Said'. Prove '..Said' where nothing that the law and all that it calls make is longer than what came in: it says more and counts as full. Else prove '..UptoSaid'. A law counts once. -/
mutual
def uptoBulk {H : Type} : DataW H → Nat
  | .lit (.string bytes) => bytes.length + 1
  | .lit _ => 1
  | .nil => 1
  | .ptr d => uptoBulk d + 1
  | .slice elems spare => uptoBulkAll elems + uptoBulkAll spare + 1
  | .agg parts => uptoBulkAll parts + 1
  | .iface _ d => uptoBulk d + 1
  | .map entries => uptoBulkEntries entries + 1
  | .held _ => 1
def uptoBulkAll {H : Type} : List (DataW H) → Nat
  | [] => 0
  | d :: r => uptoBulk d + uptoBulkAll r
def uptoBulkEntries {H : Type} : List (Lit × DataW H) → Nat
  | [] => 0
  | x :: r => uptoBulkEntry x + uptoBulkEntries r
def uptoBulkEntry {H : Type} : Lit × DataW H → Nat
  | (.string bytes, d) => bytes.length + uptoBulk d + 1
  | (_, d) => uptoBulk d + 1
 end
def uptoSmall : (H : Type) → List (DataW H) → Bool := fun _ ds => decide (uptoBulkAll ds ≤ 1048576)
def OpenSpec.upto (s : _root_.Go.ChangeSpec) : _root_.Go.OpenSpec := { _root_.Go.OpenSpec.ofChange s with cond := some uptoSmall }

/-- 'girderlaw04.NarrowNumbers', WHERE WHAT IT READS IS OF BULK AT MOST 1048576: true; the input reads as it did. -/
def narrowNumbersUptoRow : OpenClaim := { program := "ytlmllpkcmfnpnaa", sum := "f711f61813a538438518c7c13d81e37090b25a13009eb47d8dcec09d01aaa415", func := "girder/girderlaw04.NarrowNumbers", spec := "narrowNumbers", inPlace := ["math.Float64bits", "math.Float64frombits", "math.Float32bits", "math.Float32frombits", "math.sqrt"], apart := false, narrowed := true }
def NarrowNumbersUptoSaid : Prop := narrowNumbersUptoRow.holds Try.pinned (OpenSpec.upto narrowNumbersSpec)

/-- 'girderlaw04.NarrowTo', WHERE WHAT IT READS IS OF BULK AT MOST 1048576: true; the input reads as it did. -/
def narrowToUptoRow : OpenClaim := { program := "ytlmllpkcmfnpnaa", sum := "f711f61813a538438518c7c13d81e37090b25a13009eb47d8dcec09d01aaa415", func := "girder/girderlaw04.NarrowTo", spec := "narrowTo", inPlace := ["math.Float64bits", "math.Float32bits", "math.Float32frombits", "math.Float64frombits"], apart := false, narrowed := true }
def NarrowToUptoSaid : Prop := narrowToUptoRow.holds Try.pinned (OpenSpec.upto narrowToSpec)

/-- 'girderlaw04.NarrowReckons', WHERE WHAT IT READS IS OF BULK AT MOST 1048576: true; the input reads as it did. -/
def narrowReckonsUptoRow : OpenClaim := { program := "ytlmllpkcmfnpnaa", sum := "f711f61813a538438518c7c13d81e37090b25a13009eb47d8dcec09d01aaa415", func := "girder/girderlaw04.NarrowReckons", spec := "narrowReckons", inPlace := ["math.Float64bits", "math.Float64frombits", "math.Float32bits", "math.FMA", "math.sqrt", "math.Float32frombits"], apart := false, narrowed := true }
def NarrowReckonsUptoSaid : Prop := narrowReckonsUptoRow.holds Try.pinned (OpenSpec.upto narrowReckonsSpec)

/-- 'girderlaw04.NarrowTwice', WHERE WHAT IT READS IS OF BULK AT MOST 1048576: true; the input reads as it did. -/
def narrowTwiceUptoRow : OpenClaim := { program := "ytlmllpkcmfnpnaa", sum := "f711f61813a538438518c7c13d81e37090b25a13009eb47d8dcec09d01aaa415", func := "girder/girderlaw04.NarrowTwice", spec := "narrowTwice", inPlace := ["math.Float64bits", "math.Float32bits", "math.Float32frombits", "math.Float64frombits", "math.sqrt"], apart := false, narrowed := true }
def NarrowTwiceUptoSaid : Prop := narrowTwiceUptoRow.holds Try.pinned (OpenSpec.upto narrowTwiceSpec)

/-- 'girderlaw04.NarrowBack', WHERE WHAT IT READS IS OF BULK AT MOST 1048576: true; the input reads as it did. -/
def narrowBackUptoRow : OpenClaim := { program := "ytlmllpkcmfnpnaa", sum := "f711f61813a538438518c7c13d81e37090b25a13009eb47d8dcec09d01aaa415", func := "girder/girderlaw04.NarrowBack", spec := "narrowBack", inPlace := ["math.Float64bits", "math.Float32bits", "math.Float32frombits", "math.Float64frombits"], apart := false, narrowed := true }
def NarrowBackUptoSaid : Prop := narrowBackUptoRow.holds Try.pinned (OpenSpec.upto narrowBackSpec)

end Rows
end Go.Proofs.Ytlmllpkcmfnpnaa
