/- What round's Int answers, and Add and the document's sum of finite floats. -/
import Derived.Test.YtalkdjgmblabgaaGreatDoorSg
import Derived.Test.YtalkdjgmblabgaaGreatDoorSx
import Derived.Test.YtalkdjgmblabgaaGreatDoorZo
namespace Go.Proofs.YtalkdjgmblabgaaGreatDoor
open Go.RowKit

set_option maxHeartbeats 400000 in
theorem rint_any (n m : Int) (h1 : -9223372036854775808 ≤ n) (h2 : n ≤ 9223372036854775807) (hL : Lm (intD n).mag) (hR : rightB (intD n) = true) (w : World) (hT : TabW w) :
    Calls Tryz.prog 16 #[.int .i64 n, .int .i8 m] w fun e w' => e = .returned (.float .f64 (rndW (intD n) m)) ∧ Below w.heap.size w w' := by
  have hi := Int_any n h1 h2 w hT
  generalize intD n = d at *
  obtain ⟨dn, dm, de⟩ := d
  go_enter Tryz.func16, Tryz.ntmps16
  go_wp2_with (first
    | (go_at_call 42; refine hi.mono ?_; rintro e w1 ⟨bo, bcap, rfl, hrI, _, hbI⟩)
    | (go_at_call 41; refine (Round_ok dn dm de bo bcap m _ hrI hL hR).mono ?_; rintro e w2 ⟨rfl, hb2⟩))
  go_ret
  exact ⟨rfl, hbI.trans (hb2.mono hbI.size)⟩

theorem dadd_gen (a b : Nat) (m : Int) (ha : a < 18446744073709551616) (hb : b < 18446744073709551616) (fa : finB a = true) (fb : finB b = true) (w : World) :
    Calls Tryz.prog 57 #[.float .f64 a, .float .f64 b, .int .i8 m] w fun e w' => e = .returned (.float .f64 (addV a b m)) ∧ Below w.heap.size w w' := by
  obtain ⟨h1, h2, h3, h4, h5, h6, h7⟩ := sum_parts ha hb fa fb
  have h := dadd_fin a b _ _ _ _ m ha hb fa fb rfl h1 h2 h3 h4 h5 h6 w
  rw [refM_addM m ha hb fa fb h4 h5 h7 h2 h3] at h
  exact h
end Go.Proofs.YtalkdjgmblabgaaGreatDoor
