/- What TrailingZeros64 and Split answer, where the library's table lies as its initialiser lays it; and that the fixed answers of 'awake' are so. -/
import Derived.Test.YtclldmdhpojciaaWb
namespace Go.Proofs.Ytclldmdhpojciaa
open Go.RowKit

/-- Where the library's look-up points: the lowest set bit t, times the de Bruijn number, its six highest bits. -/
theorem low_index {x t : Nat} (h : x < 18446744073709551616) (h0 : x ≠ 0) (ht : x &&& (18446744073709551616 - x) = t) :
    IntKind.u64.wrap (bits BinOp.and IntKind.u64 (x : Int) (IntKind.u64.wrap (-(x : Int))) * 285870213051353865) / 288230376151711744 = ((t * 285870213051353865 % 18446744073709551616 / 288230376151711744 : Nat) : Int) := by
  have g := u64_and_nat x (18446744073709551616 - x) h (by omega)
  have n : IntKind.u64.wrap (-(x : Int)) = ((18446744073709551616 - x : Nat) : Int) := by simp only [IntKind.wrap_u64]; omega
  rw [n, g, ht]
  simp only [IntKind.wrap_u64]
  omega

def frc (a : Nat) : Nat := rung a % 4503599627370496
theorem frc_eq {a : Nat} (ha : a < 18446744073709551616) : bits .and .u64 (a : Int) 4503599627370495 = (frc a : Int) := frac_and ha

theorem up_lt {a : Nat} (hf : finB a = true) : up (rung a) < 2046 := by
  unfold finB at hf
  have : rung a < 9218868437227405312 := by simpa using hf
  unfold up; split <;> omega

end Go.Proofs.Ytclldmdhpojciaa
