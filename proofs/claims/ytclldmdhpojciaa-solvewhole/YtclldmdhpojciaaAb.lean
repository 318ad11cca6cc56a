/- Same, of the program and of the document. -/
import Derived.Test.YtclldmdhpojciaaAa
import Derived.Deep.QuietTactic
import Derived.BigQuiet
namespace Go.Proofs.Ytclldmdhpojciaa
open Go.RowKit

theorem ord_same (a : Nat) (ha : a < 18446744073709551616) : (FloatKind.f64.format.order a a == some .eq) = !nanB a := by
  rw [← ord_self a ha]
  simp [bne]
end Go.Proofs.Ytclldmdhpojciaa
