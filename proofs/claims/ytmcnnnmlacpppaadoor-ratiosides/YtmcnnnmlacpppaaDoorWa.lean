/- What the small functions of the program answer, call by call: no condition but that a float is a word below 2^64. -/
import Derived.Test.YtmcnnnmlacpppaaDoorRows
import Derived.Test.YtmcnnnmlacpppaaDoorZf
namespace Go.Proofs.YtmcnnnmlacpppaaDoor
open Go.RowKit

theorem run_fbits (a : Nat) (w : World) : (callFunc 36 #[.float .f64 a]).run Tryd.prog w = .ok (.value (.int .u64 a)) w := by
  rw [run_callFunc_extern (e := Extern.MathFloatBits.float64bits) Tryd.func36 (by kernel_rfl) (by kernel_rfl) (by kernel_rfl) (by kernel_rfl)]
  rfl
theorem run_ffrom (n : Int) (w : World) : (callFunc 35 #[.int .u64 n]).run Tryd.prog w = .ok (.value (.float .f64 n.toNat)) w := by
  rw [run_callFunc_extern (e := Extern.MathFloatBits.float64frombits) Tryd.func35 (by kernel_rfl) (by kernel_rfl) (by kernel_rfl) (by kernel_rfl)]
  rfl

set_option maxHeartbeats 400000 in
theorem isnan_any (a : Nat) (ha : a < 18446744073709551616) (w : World) :
    Calls Tryd.prog 57 #[.float .f64 a] w fun e w' => e = .returned (.bool (nanB a)) ∧ w' = w := by
  go_enter Tryd.func57, Tryd.ntmps57
  go_wp2
  go_ret
  exact ⟨end_bool (ord_self a ha), rfl⟩

end Go.Proofs.YtmcnnnmlacpppaaDoor
