/- What power, sizeOf, Join and SameFloat answer, call by call. -/
import Derived.Test.YtlhoidkfphellaaDoorK1
import Derived.Test.YtlhoidkfphellaaDoorZg
namespace Go.Proofs.YtlhoidkfphellaaDoor
open Go.RowKit

theorem neg_word {r : Nat} (h : r < 9223372036854775808) : Op.negFloat .f64 r = 9223372036854775808 + r := by
  unfold Op.negFloat
  rw [fmt64]
  have e : (2 : Nat) ^ (Ieee.double.exponentBits + Ieee.double.fractionBits) = 2 ^ 63 := rfl
  rw [e]
  have h1 := Nat.two_pow_add_eq_or_of_lt (i := 63) (b := r) (by omega) 1
  rw [Nat.mul_one] at h1
  have h2 : r ^^^ 2 ^ 63 = 2 ^ 63 ||| r := by
    apply Nat.eq_of_testBit_eq
    intro k
    rw [Nat.testBit_xor, Nat.testBit_or, Nat.testBit_two_pow]
    by_cases hk : 63 = k
    · subst hk
      have : r.testBit 63 = false := Nat.testBit_lt_two_pow (by omega)
      simp [this]
    · simp [hk]
  rw [h2, ← h1]

end Go.Proofs.YtlhoidkfphellaaDoor
