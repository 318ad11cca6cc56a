/- What Abs, finite, exponent, lastBit, TrailingZeros64, At, Next, Inf and Split answer, call by call. -/
import Derived.Test.YtlmllpkcmfnpnaaWa
import Derived.Test.YtlmllpkcmfnpnaaZf
namespace Go.Proofs.Ytlmllpkcmfnpnaa
open Go.RowKit

set_option maxHeartbeats 400000 in
theorem inf_any (w : World) :
    Calls Try.prog 9 #[.int .i64 1] w fun e w' => e = .returned (.float .f64 9218868437227405312) ∧ w' = w := by
  have ff := run_ffrom
  go_enter Try.func9, Try.ntmps9
  go_wp2
  go_ret
  exact ⟨rfl, rfl⟩
end Go.Proofs.Ytlmllpkcmfnpnaa
