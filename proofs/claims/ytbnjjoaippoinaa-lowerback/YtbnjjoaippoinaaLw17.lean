/- Pick of 9. -/
import Derived.Test.YtbnjjoaippoinaaMx8
namespace Go.Proofs.Ytbnjjoaippoinaa
open Go.RowKit

set_option maxHeartbeats 80000 in
theorem pick9 (x : Int) (w : World) : Calls Try.prog 24 #[.int .i64 x, .int .i64 9] w fun e w' => ∃ m : Int, e = .returned (.int .i64 m) ∧ 0 ≤ m ∧ m ≤ 8 ∧ w' = w := by
  have b1 : x.tmod 9 < 9 := Int.tmod_lt_of_pos x (by omega)
  have b2 : -9 < x.tmod 9 := by
    have := Int.tmod_lt_of_pos (-x) (show (0 : Int) < 9 by omega)
    rw [Int.neg_tmod] at this
    omega
  by_cases h : x.tmod 9 < 0
  · generalize hy : x.tmod 9 = y at *
    clear b1
    go_enter Try.func24, Try.ntmps24
    go_wp2
    go_ret
    exact ⟨_, rfl, by omega, by omega, rfl⟩
  · generalize hy : x.tmod 9 = y at *
    clear b2
    go_enter Try.func24, Try.ntmps24
    go_wp2
    go_ret
    exact ⟨_, rfl, by omega, by omega, rfl⟩
end Go.Proofs.Ytbnjjoaippoinaa
