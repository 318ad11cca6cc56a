/- SumsPlain, of any list of floats: both sides are one. -/
import Derived.Test.YtggdjbdamaeikaaGreatDoorZ8
import Derived.Test.YtggdjbdamaeikaaGreatDoorZ10
namespace Go.Proofs.YtggdjbdamaeikaaGreatDoor
open Go.RowKit

theorem sameNR {o : Option Nat} {r s : Nat} (h : NR o r) (g : NR o s) (w : World) : Calls Tryz.prog 9 #[.float .f64 r, .float .f64 s] w fun e w' => e = .returned (.bool true) ∧ w' = w := by
  have k := samef_any r s h.1 g.1 w
  rw [NR_same h g] at k
  exact k
end Go.Proofs.YtggdjbdamaeikaaGreatDoor
