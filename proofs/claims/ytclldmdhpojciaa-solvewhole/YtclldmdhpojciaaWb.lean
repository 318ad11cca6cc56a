/- What Abs, finite, exponent, lastBit, TrailingZeros64, At, Next, Inf and Split answer, call by call. -/
import Derived.Test.YtclldmdhpojciaaWa
import Derived.Test.YtclldmdhpojciaaZf
namespace Go.Proofs.Ytclldmdhpojciaa
open Go.RowKit

set_option maxHeartbeats 400000 in
theorem inf_any (w : World) :
    Calls Try.prog 13 #[.int .i64 1] w fun e w' => e = .returned (.float .f64 9218868437227405312) ∧ w' = w := by
  have ff := run_ffrom
  go_enter Try.func13, Try.ntmps13
  go_wp2
  go_ret
  exact ⟨rfl, rfl⟩
end Go.Proofs.Ytclldmdhpojciaa
