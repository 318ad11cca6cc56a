/- What the small functions of the program answer, call by call: no condition but that a float is a word below 2^64. -/
import Derived.Test.YtclldmdhpojciaaRows
import Derived.Test.YtclldmdhpojciaaZf
namespace Go.Proofs.Ytclldmdhpojciaa
open Go.RowKit

theorem run_fbits (a : Nat) (w : World) : (callFunc 41 #[.float .f64 a]).run Try.prog w = .ok (.value (.int .u64 a)) w := by
  rw [run_callFunc_extern (e := Extern.MathFloatBits.float64bits) Try.func41 (by kernel_rfl) (by kernel_rfl) (by kernel_rfl) (by kernel_rfl)]
  rfl
theorem run_ffrom (n : Int) (w : World) : (callFunc 40 #[.int .u64 n]).run Try.prog w = .ok (.value (.float .f64 n.toNat)) w := by
  rw [run_callFunc_extern (e := Extern.MathFloatBits.float64frombits) Try.func40 (by kernel_rfl) (by kernel_rfl) (by kernel_rfl) (by kernel_rfl)]
  rfl

end Go.Proofs.Ytclldmdhpojciaa
