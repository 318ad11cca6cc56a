/- What the document's answer for sums (Finite, up, down, side, great, nought, Add) tells. -/
import Derived.Test.YtlhoidkfphellaaDoorZi
namespace Go.Proofs.YtlhoidkfphellaaDoor
open Go.RowKit

theorem u64_up {x : Nat} (h : x + 1 < 18446744073709551616) : IntKind.u64.wrap ((x : Int) + 1) = ((x + 1 : Nat) : Int) := by
  rw [IntKind.wrap_u64]; omega
theorem u64_dn {x : Nat} (h : x < 18446744073709551616) (h0 : x ≠ 0) : IntKind.u64.wrap ((x : Int) - 1) = ((x - 1 : Nat) : Int) := by
  rw [IntKind.wrap_u64]; omega
theorem nan_two {x : Nat} (hn : nanB x = false) (h0 : rung x ≠ 0) : (!nanB x && decide (0 < place x)) = !sgn x ∧ (!nanB x && decide (place x < 0)) = sgn x := by
  rw [hn]
  unfold place
  cases sgn x <;> simp <;> omega
end Go.Proofs.YtlhoidkfphellaaDoor
