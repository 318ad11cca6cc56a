/- The document's Split of any float, and that BitsTells answers true whatever float it is given (the library's table lying as its initialiser lays it). -/
import Derived.Test.YtbfefoidpgbjaaaGreatDoorK1
import Derived.Test.YtbfefoidpgbjaaaGreatDoorZg
import Derived.Test.YtbfefoidpgbjaaaGreatDoorU1
import Derived.Deep.QuietTactic
import Derived.BigQuiet
import Derived.Deep.LoopGhost
import Derived.Deep.DeepCutAuto
namespace Go.Proofs.YtbfefoidpgbjaaaGreatDoor
open Go.RowKit
theorem nextF_lt (a : Nat) (up : Bool) (ha : a < 18446744073709551616) : nextF a up < 18446744073709551616 := by
 unfold nextF; split
 ·exact ha
 ·exact atF_lt _
end Go.Proofs.YtbfefoidpgbjaaaGreatDoor
