/- What is kept of a number ahead of rounding; one limb. -/
import Derived.Test.YtfhejejfeffdcaaDoorU3
import Derived.Test.YtfhejejfeffdcaaDoorFy
import Derived.Test.YtfhejejfeffdcaaDoorU1
import Derived.Test.YtfhejejfeffdcaaDoorU2
import Derived.Test.YtfhejejfeffdcaaDoorZb
import Derived.Test.YtfhejejfeffdcaaDoorU8
namespace Go.Proofs.YtfhejejfeffdcaaDoor
open Go.RowKit

/-- A product of two floats above 0 that is a float. -/
theorem mul_exact {r q M U : Nat} (hr : r < 9218868437227405312) (hq : q < 9218868437227405312) (hM : M < 9007199254740992) (hM0 : M ≠ 0) (hU : U = 0 ∨ 4503599627370496 ≤ M)
    (h : ∃ d : Nat, (up r : Int) + up q + d = (U : Int) + 1074 ∧ mg r * mg q = M * 2 ^ d) : floatBits .mul .f64 r q = some (min (U * 4503599627370496 + M) 9218868437227405312) := by
  unfold floatBits
  simp only [fmt64, Ieee.Format.mul]
  rw [read_pos hr, read_pos hq]
  simp only [Ieee.Datum.product, Option.map_some, Ieee.Format.write, Option.some.injEq]
  rw [Bool.xor_self]
  obtain ⟨d, h1, h2⟩ := h
  have := nearest_val false (mg r * mg q) (-1074 + (up r : Nat) + (-1074 + (up q : Nat))) M U hM hM0 hU (Or.inr ⟨d, by omega, h2⟩)
  rw [this, word_pos]
theorem mul_one_w {y : Nat} (h1 : 4503599627370496 ≤ y) (h2 : y < 9218868437227405312) : floatBits .mul .f64 4607182418800017408 y = some y := by
  have e1 : mg 4607182418800017408 = 4503599627370496 ∧ up 4607182418800017408 = 1022 := ⟨by decide, by decide⟩
  have hy := rung_mg y
  have hk := mg_up_ok y
  have hm : mg y < 9007199254740992 := by unfold mg; split <;> omega
  have hm0 : mg y ≠ 0 := by intro h; rcases hk with h' | h' <;> omega
  have := mul_exact (r := 4607182418800017408) (q := y) (M := mg y) (U := up y) (by omega) h2 hm hm0 hk ⟨52, by rw [e1.2]; omega, by rw [e1.1, Nat.mul_comm]⟩
  rw [← hy] at this
  rw [this]
  congr 1
  omega
/-- A subnormal float out of its number brought up by 2^53. -/
theorem mul_small {n : Nat} (h0 : n ≠ 0) (h : n < 4503599627370496) : fwd n - 1021 * 4503599627370496 < 9218868437227405312 ∧ 1021 * 4503599627370496 ≤ fwd n ∧ floatBits .mul .f64 4368491638549381120 (fwd n - 1021 * 4503599627370496) = some n := by
  have hl := log2_lt53 h0 (by omega)
  obtain ⟨b1, b2⟩ := norm_bd h0 (show n < 9007199254740992 by omega)
  have hf : fwd n = (1022 + n.log2) * 4503599627370496 + n * 2 ^ (52 - n.log2) := rfl
  have hy : fwd n - 1021 * 4503599627370496 = (1 + n.log2) * 4503599627370496 + n * 2 ^ (52 - n.log2) := by rw [hf]; omega
  obtain ⟨y1, y2⟩ := mg_of (U := 1 + n.log2) b2 (Or.inr b1)
  refine ⟨by omega, by omega, ?_⟩
  rw [hy]
  have e1 : mg 4368491638549381120 = 4503599627370496 ∧ up 4368491638549381120 = 969 := ⟨by decide, by decide⟩
  have := mul_exact (r := 4368491638549381120) (q := (1 + n.log2) * 4503599627370496 + n * 2 ^ (52 - n.log2)) (M := n) (U := 0) (by omega) (by omega) (by omega) h0 (Or.inl rfl)
    ⟨52 + (52 - n.log2), by rw [e1.2, y2]; omega, by rw [e1.1, y1, Nat.pow_add, show (2 : Nat) ^ 52 = 4503599627370496 from rfl, Nat.mul_left_comm]⟩
  rw [this, Nat.zero_mul, Nat.zero_add, Nat.min_eq_left (by omega)]
end Go.Proofs.YtfhejejfeffdcaaDoor

namespace Go.Proofs.YtfhejejfeffdcaaDoor
open Go.RowKit

theorem i64_and2047 (n : Int) : bits .and .i64 n 2047 = n % 2048 := by
  have h63 : (BitVec.ofInt 64 2047).toNat = 2 ^ 11 - 1 := by decide
  have key : (BitVec.ofInt 64 n &&& BitVec.ofInt 64 2047).toNat = (n % ((2 ^ 64 : Nat) : Int)).toNat % 2 ^ 11 := by
    rw [BitVec.toNat_and, BitVec.toNat_ofInt, h63, Nat.and_two_pow_sub_one_eq_mod]
  show IntKind.i64.wrap ((BitVec.ofInt 64 n &&& BitVec.ofInt 64 2047).toNat : Nat) = n % 2048
  rw [key, IntKind.wrap_i64]
  omega
theorem field_off {a : Nat} (ha : a < 9223372036854775808) : bits .andNot .u64 (a : Int) 9218868437227405312 = ((a % 4503599627370496 : Nat) : Int) := by
  have h := u64_andNot_nat a 9218868437227405312 (by omega) (by omega)
  have e : ((9218868437227405312 : Nat) : Int) = 9218868437227405312 := rfl
  rw [e] at h
  rw [h]
  have h1 := and_two_pow' a 63
  have h0 : a.testBit 63 = false := Nat.testBit_lt_two_pow (by omega)
  have h2 := Nat.and_two_pow_sub_one_eq_mod a 52
  have h3 : 18446744073709551615 - 9218868437227405312 = 2 ^ 63 ||| (2 ^ 52 - 1) := by decide
  rw [h3, Nat.and_or_distrib_left, h1, h0, h2]
  simp
theorem field_on {f k : Nat} (hf : f < 4503599627370496) (hk : k < 2048) : bits .or .u64 (f : Int) ((k * 4503599627370496 : Nat) : Int) = ((k * 4503599627370496 + f : Nat) : Int) := by
  have h := u64_or_nat f (k * 4503599627370496) (by omega) (by omega)
  rw [h]
  have := Nat.two_pow_add_eq_or_of_lt (i := 52) (b := f) (by omega) k
  rw [show (2 : Nat) ^ 52 * k = k * 4503599627370496 by rw [Nat.mul_comm]] at this
  rw [this, Nat.or_comm]

end Go.Proofs.YtfhejejfeffdcaaDoor

namespace Go.Proofs.YtfhejejfeffdcaaDoor
open Go.RowKit

/-- The float n 2^L, n of 53 bits unless L is the least power. -/
def ldW (n : Nat) (L : Int) : Nat := min (rW n L) 9218868437227405312
theorem fwd_big {n : Nat} (h1 : 4503599627370496 ≤ n) (h2 : n < 9007199254740992) : fwd n = 1074 * 4503599627370496 + n := by
  have hl : n.log2 = 52 := log2_eq (by omega) (by omega)
  unfold fwd
  rw [hl, Nat.sub_self, Nat.pow_zero, Nat.mul_one]
end Go.Proofs.YtfhejejfeffdcaaDoor

namespace Go.Proofs.YtfhejejfeffdcaaDoor
open Go.RowKit

theorem lo_one {n : Nat} (h0 : n ≠ 0) (h : n < 18446744073709551616) : lo n = [n] := by
  have h1 := lo_vl (xs := [n]) (fun x hx => by simp at hx; omega) (Or.inr (by simpa using h0))
  rwa [show vl [n] = n by simp [vl]] at h1
/-- What is kept of v times 2^e ahead of rounding. -/
def K0 (v : Nat) (e : Int) : Nat := shr v (rDr v e)
theorem rLa_cases (v : Nat) (e : Int) : -1074 ≤ rLa v e ∧ (rLa v e = (bl v : Int) + e - 53 ∨ (rLa v e = -1074 ∧ (bl v : Int) + e - 53 < -1074)) := by unfold rLa; omega
theorem K0_bd {v : Nat} {e : Int} (h0 : v ≠ 0) : K0 v e < 9007199254740992 ∧ (rLa v e = -1074 ∨ 4503599627370496 ≤ K0 v e) ∧ (1024 < (bl v : Int) + e → bl (K0 v e) = 53) := by
  have hb := bl_spec h0
  obtain ⟨_, hla⟩ := rLa_cases v e
  have e0 : rDr v e = rLa v e - e := rfl
  have key : bl (K0 v e) ≤ 53 ∧ (rLa v e = (bl v : Int) + e - 53 → bl (K0 v e) = 53) := by
    unfold K0 shr
    by_cases hd : 0 ≤ rDr v e
    · rw [if_pos hd, show bl (v / 2 ^ (rDr v e).toNat) = bl v - (rDr v e).toNat from bl_div]
      omega
    · rw [if_neg hd, show bl (v * 2 ^ (-(rDr v e)).toNat) = bl v + (-(rDr v e)).toNat from bl_mul_pow h0]
      omega
  refine ⟨by have := bl_le_iff.1 key.1; omega, ?_, fun h => key.2 (by omega)⟩
  rcases hla with h | ⟨h, _⟩
  · right
    have h53 := key.2 h
    have hn : K0 v e ≠ 0 := by intro hz; rw [hz] at h53; simp [bl] at h53
    have := (bl_spec hn).1
    rw [h53] at this
    omega
  · exact Or.inl h
/-- The one limb of what is kept, or none. -/
theorem one_limb {w : World} {o : Option Addr} {c n : Nat} (h : NS w o c (lo n)) (hn : n < 18446744073709551616) : (n = 0 ∧ (lo n).length = 0) ∨ (n ≠ 0 ∧ (lo n).length = 1 ∧ ∃ b off, o = some ⟨b, off, none⟩ ∧ w.cell? ⟨b, off, none⟩ = some (.int .u64 (n : Nat))) := by
  by_cases h0 : n = 0
  · left; subst h0; exact ⟨rfl, by rw [lo_zero]; rfl⟩
  · right
    have e := lo_one h0 hn
    refine ⟨h0, by rw [e]; rfl, ?_⟩
    rcases h.1 with h1 | ⟨b, off, h1, h2⟩
    · rw [e] at h1; cases h1
    · have := h2 0 (by rw [e]; simp)
      rw [e] at this
      exact ⟨b, off, h1, by simpa using this⟩
end Go.Proofs.YtfhejejfeffdcaaDoor
