/- What Abs, finite, exponent, lastBit, TrailingZeros64, At, Next, Inf and Split answer, call by call. -/
import Derived.Test.YtjdhadpfhnmkhaaDoorWa
import Derived.Test.YtjdhadpfhnmkhaaDoorZf
namespace Go.Proofs.YtjdhadpfhnmkhaaDoor
open Go.RowKit

set_option maxHeartbeats 400000 in
theorem abs_any (a : Nat) (ha : a < 18446744073709551616) (w : World) :
    Calls Tryd.prog 65 #[.float .f64 a] w fun e w' => e = .returned (.float .f64 (rung a)) ∧ w' = w := by
  have fa := run_fbits a
  have ff := run_ffrom
  go_enter Tryd.func65, Tryd.ntmps65
  go_wp2
  go_ret
  exact ⟨end_flt (by rw [andNot_sign a ha]; rfl), rfl⟩

set_option maxHeartbeats 400000 in
theorem finite_any (a : Nat) (ha : a < 18446744073709551616) (w : World) :
    Calls Tryd.prog 53 #[.float .f64 a] w fun e w' => e = .returned (.bool (finB a)) ∧ w' = w := by
  go_enter Tryd.func53, Tryd.ntmps53
  go_wp2_with (go_at_call 65; refine (abs_any _ (by assumption) _).mono ?_; rintro e w' ⟨rfl, rfl⟩)
  go_ret
  exact ⟨end_bool (fin_le a), rfl⟩

set_option maxHeartbeats 400000 in
theorem exponent_any (a : Nat) (ha : a < 18446744073709551616) (w : World) :
    Calls Tryd.prog 55 #[.int .u64 a] w fun e w' => e = .returned (.int .i64 (expo a)) ∧ w' = w := by
  go_enter Tryd.func55, Tryd.ntmps55
  go_wp2
  go_ret
  exact ⟨end_int (expo_wrap ha), rfl⟩

set_option maxHeartbeats 400000 in
theorem lastBit_any (a : Nat) (ha : a < 18446744073709551616) (w : World) :
    Calls Tryd.prog 54 #[.int .u64 a] w fun e w' => e = .returned (.int .i64 ((up (rung a) : Int) - 1074)) ∧ w' = w := by
  have he : expo a < 2048 := by unfold expo; omega
  go_enter Tryd.func54, Tryd.ntmps54
  go_wp2_with (go_at_call 55; refine (exponent_any _ (by assumption) _).mono ?_; rintro e w' ⟨rfl, rfl⟩)
  · go_ret
    exact ⟨end_int (by rw [lastBit_up ha, if_pos (by assumption)]; rfl), rfl⟩
  · go_ret
    exact ⟨end_int (by rw [lastBit_up ha, if_neg (by omega)]; omega), rfl⟩

set_option maxHeartbeats 400000 in
theorem inf_any (w : World) :
    Calls Tryd.prog 57 #[.int .i64 1] w fun e w' => e = .returned (.float .f64 9218868437227405312) ∧ w' = w := by
  have ff := run_ffrom
  go_enter Tryd.func57, Tryd.ntmps57
  go_wp2
  go_ret
  exact ⟨rfl, rfl⟩
end Go.Proofs.YtjdhadpfhnmkhaaDoor
