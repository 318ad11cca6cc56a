/- What Abs, finite, exponent, lastBit, TrailingZeros64, At, Next, Inf and Split answer, call by call. -/
import Derived.Test.YtpllknjomjbpnaaWa
import Derived.Test.YtpllknjomjbpnaaZf
namespace Go.Proofs.Ytpllknjomjbpnaa
open Go.RowKit

set_option maxHeartbeats 400000 in
theorem abs_any (a : Nat) (ha : a < 18446744073709551616) (w : World) :
    Calls Try.prog 39 #[.float .f64 a] w fun e w' => e = .returned (.float .f64 (rung a)) ∧ w' = w := by
  have fa := run_fbits a
  have ff := run_ffrom
  go_enter Try.func39, Try.ntmps39
  go_wp2
  go_ret
  exact ⟨end_flt (by rw [andNot_sign a ha]; rfl), rfl⟩

set_option maxHeartbeats 400000 in
theorem inf_any (w : World) :
    Calls Try.prog 21 #[.int .i64 1] w fun e w' => e = .returned (.float .f64 9218868437227405312) ∧ w' = w := by
  have ff := run_ffrom
  go_enter Try.func21, Try.ntmps21
  go_wp2
  go_ret
  exact ⟨rfl, rfl⟩
end Go.Proofs.Ytpllknjomjbpnaa
