/- What round's Int answers, and Add and the document's sum of finite floats. -/
import Derived.Test.YtalkdjgmblabgabDoorSg
import Derived.Test.YtalkdjgmblabgabDoorSx
import Derived.Test.YtalkdjgmblabgabDoorZo
namespace Go.Proofs.YtalkdjgmblabgabDoor
open Go.RowKit

set_option maxHeartbeats 400000 in
theorem rint_any (n m : Int) (h1 : -9223372036854775808 ≤ n) (h2 : n ≤ 9223372036854775807) (hL : Lm (intD n).mag) (hR : rightB (intD n) = true) (w : World) (hT : TabW w) :
    Calls Tryd.prog 30 #[.int .i64 n, .int .i8 m] w fun e w' => e = .returned (.float .f64 (rndW (intD n) m)) ∧ Below w.heap.size w w' := by
  have hi := Int_any n h1 h2 w hT
  generalize intD n = d at *
  obtain ⟨dn, dm, de⟩ := d
  go_enter Tryd.func30, Tryd.ntmps30
  go_wp2_with (first
    | (go_at_call 32; refine hi.mono ?_; rintro e w1 ⟨bo, bcap, rfl, hrI, _, hbI⟩)
    | (go_at_call 58; refine (Round_ok dn dm de bo bcap m _ hrI hL hR).mono ?_; rintro e w2 ⟨rfl, hb2⟩))
  go_ret
  exact ⟨rfl, hbI.trans (hb2.mono hbI.size)⟩

end Go.Proofs.YtalkdjgmblabgabDoor
