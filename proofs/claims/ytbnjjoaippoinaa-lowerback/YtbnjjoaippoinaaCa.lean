/- What math.Ldexp tells of a whole number of at most 53 bits. -/
import Derived.Test.YtbnjjoaippoinaaU3
import Derived.Test.YtbnjjoaippoinaaFy
import Derived.Test.YtbnjjoaippoinaaU1
import Derived.Test.YtbnjjoaippoinaaU2
namespace Go.Proofs.Ytbnjjoaippoinaa
open Go.RowKit

/-- A product of two floats above 0 that is a float. -/
theorem mul_exact {r q M U : Nat} (hr : r < 9218868437227405312) (hq : q < 9218868437227405312) (hM : M < 9007199254740992) (hM0 : M ≠ 0) (hU : U = 0 ∨ 4503599627370496 ≤ M)
    (h : ∃ d : Nat, (up r : Int) + up q + d = (U : Int) + 1074 ∧ mg r * mg q = M * 2 ^ d) : floatBits .mul .f64 r q = some (min (U * 4503599627370496 + M) 9218868437227405312) := by
  unfold floatBits
  simp only [fmt64, Ieee.Format.mul]
  rw [read_pos hr, read_pos hq]
  simp only [Ieee.Datum.product, Option.map_some, Ieee.Format.write, Option.some.injEq]
  rw [Bool.xor_self]
  obtain ⟨d, h1, h2⟩ := h
  have := nearest_val false (mg r * mg q) (-1074 + (up r : Nat) + (-1074 + (up q : Nat))) M U hM hM0 hU (Or.inr ⟨d, by omega, h2⟩)
  rw [this, word_pos]
theorem mul_one_w {y : Nat} (h1 : 4503599627370496 ≤ y) (h2 : y < 9218868437227405312) : floatBits .mul .f64 4607182418800017408 y = some y := by
  have e1 : mg 4607182418800017408 = 4503599627370496 ∧ up 4607182418800017408 = 1022 := ⟨by decide, by decide⟩
  have hy := rung_mg y
  have hk := mg_up_ok y
  have hm : mg y < 9007199254740992 := by unfold mg; split <;> omega
  have hm0 : mg y ≠ 0 := by intro h; rcases hk with h' | h' <;> omega
  have := mul_exact (r := 4607182418800017408) (q := y) (M := mg y) (U := up y) (by omega) h2 hm hm0 hk ⟨52, by rw [e1.2]; omega, by rw [e1.1, Nat.mul_comm]⟩
  rw [← hy] at this
  rw [this]
  congr 1
  omega
/-- A subnormal float out of its number brought up by 2^53. -/
theorem mul_small {n : Nat} (h0 : n ≠ 0) (h : n < 4503599627370496) : fwd n - 1021 * 4503599627370496 < 9218868437227405312 ∧ 1021 * 4503599627370496 ≤ fwd n ∧ floatBits .mul .f64 4368491638549381120 (fwd n - 1021 * 4503599627370496) = some n := by
  have hl := log2_lt53 h0 (by omega)
  obtain ⟨b1, b2⟩ := norm_bd h0 (show n < 9007199254740992 by omega)
  have hf : fwd n = (1022 + n.log2) * 4503599627370496 + n * 2 ^ (52 - n.log2) := rfl
  have hy : fwd n - 1021 * 4503599627370496 = (1 + n.log2) * 4503599627370496 + n * 2 ^ (52 - n.log2) := by rw [hf]; omega
  obtain ⟨y1, y2⟩ := mg_of (U := 1 + n.log2) b2 (Or.inr b1)
  refine ⟨by omega, by omega, ?_⟩
  rw [hy]
  have e1 : mg 4368491638549381120 = 4503599627370496 ∧ up 4368491638549381120 = 969 := ⟨by decide, by decide⟩
  have := mul_exact (r := 4368491638549381120) (q := (1 + n.log2) * 4503599627370496 + n * 2 ^ (52 - n.log2)) (M := n) (U := 0) (by omega) (by omega) (by omega) h0 (Or.inl rfl)
    ⟨52 + (52 - n.log2), by rw [e1.2, y2]; omega, by rw [e1.1, y1, Nat.pow_add, show (2 : Nat) ^ 52 = 4503599627370496 from rfl, Nat.mul_left_comm]⟩
  rw [this, Nat.zero_mul, Nat.zero_add, Nat.min_eq_left (by omega)]
end Go.Proofs.Ytbnjjoaippoinaa
