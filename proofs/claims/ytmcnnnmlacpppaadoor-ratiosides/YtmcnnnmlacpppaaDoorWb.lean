/- What Abs, finite, exponent, lastBit, TrailingZeros64, At, Next, Inf and Split answer, call by call. -/
import Derived.Test.YtmcnnnmlacpppaaDoorWa
import Derived.Test.YtmcnnnmlacpppaaDoorZf
namespace Go.Proofs.YtmcnnnmlacpppaaDoor
open Go.RowKit

set_option maxHeartbeats 400000 in
theorem abs_any (a : Nat) (ha : a < 18446744073709551616) (w : World) :
    Calls Tryd.prog 90 #[.float .f64 a] w fun e w' => e = .returned (.float .f64 (rung a)) ∧ w' = w := by
  have fa := run_fbits a
  have ff := run_ffrom
  go_enter Tryd.func90, Tryd.ntmps90
  go_wp2
  go_ret
  exact ⟨end_flt (by rw [andNot_sign a ha]; rfl), rfl⟩

set_option maxHeartbeats 400000 in
theorem finite_any (a : Nat) (ha : a < 18446744073709551616) (w : World) :
    Calls Tryd.prog 73 #[.float .f64 a] w fun e w' => e = .returned (.bool (finB a)) ∧ w' = w := by
  go_enter Tryd.func73, Tryd.ntmps73
  go_wp2_with (go_at_call 90; refine (abs_any _ (by assumption) _).mono ?_; rintro e w' ⟨rfl, rfl⟩)
  go_ret
  exact ⟨end_bool (fin_le a), rfl⟩

set_option maxHeartbeats 400000 in
theorem exponent_any (a : Nat) (ha : a < 18446744073709551616) (w : World) :
    Calls Tryd.prog 75 #[.int .u64 a] w fun e w' => e = .returned (.int .i64 (expo a)) ∧ w' = w := by
  go_enter Tryd.func75, Tryd.ntmps75
  go_wp2
  go_ret
  exact ⟨end_int (expo_wrap ha), rfl⟩

set_option maxHeartbeats 400000 in
theorem lastBit_any (a : Nat) (ha : a < 18446744073709551616) (w : World) :
    Calls Tryd.prog 74 #[.int .u64 a] w fun e w' => e = .returned (.int .i64 ((up (rung a) : Int) - 1074)) ∧ w' = w := by
  have he : expo a < 2048 := by unfold expo; omega
  go_enter Tryd.func74, Tryd.ntmps74
  go_wp2_with (go_at_call 75; refine (exponent_any _ (by assumption) _).mono ?_; rintro e w' ⟨rfl, rfl⟩)
  · go_ret
    exact ⟨end_int (by rw [lastBit_up ha, if_pos (by assumption)]; rfl), rfl⟩
  · go_ret
    exact ⟨end_int (by rw [lastBit_up ha, if_neg (by omega)]; omega), rfl⟩

set_option maxHeartbeats 400000 in
theorem inf_any (w : World) :
    Calls Tryd.prog 31 #[.int .i64 1] w fun e w' => e = .returned (.float .f64 9218868437227405312) ∧ w' = w := by
  have ff := run_ffrom
  go_enter Tryd.func31, Tryd.ntmps31
  go_wp2
  go_ret
  exact ⟨rfl, rfl⟩
end Go.Proofs.YtmcnnnmlacpppaaDoor
