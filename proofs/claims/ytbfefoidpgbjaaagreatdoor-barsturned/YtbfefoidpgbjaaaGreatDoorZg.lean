/- Order, Same and Between as plain functions: an order of all floats that agrees with the comparisons; what lies between sums up. No condition but that a float is a word below 2^64. -/
import Derived.Test.YtbfefoidpgbjaaaGreatDoorZf
namespace Go.Proofs.YtbfefoidpgbjaaaGreatDoor
open Go.RowKit
theorem log2_eq {n k : Nat} (h1 : 2 ^ k ≤ n) (h2 : n < 2 ^ (k + 1)) : n.log2 = k := by
 have hn : n ≠ 0 := by have := Nat.two_pow_pos k; omega
 have a1 : k ≤ n.log2 := (Nat.le_log2 hn).2 h1
 have a2 : n.log2 < k + 1 := (Nat.log2_lt hn).2 h2
 omega
theorem log2_mul {n d : Nat} (hn : n ≠ 0) : (n * 2 ^ d).log2 = n.log2 + d := by
 have h1 := Nat.log2_self_le hn
 have h2 := Nat.lt_log2_self (n := n)
 refine log2_eq ?_ ?_
 ·rw [Nat.pow_add]; exact Nat.mul_le_mul_right _ h1
 ·rw [show n.log2 + d + 1 = n.log2 + 1 + d by omega, Nat.pow_add]
  exact Nat.mul_lt_mul_of_pos_right h2 (Nat.two_pow_pos _)
theorem cut_exact (neg : Bool) (M d : Nat) (hM : M ≠ 0) : Ieee.Toward.even.cut neg (M * 2 ^ d) d = M := by
 unfold Ieee.Toward.cut
 have hl := log2_mul (d := d) hM
 have hm : min d ((M * 2 ^ d).log2 + 2) = d := by omega
 have hp := Nat.two_pow_pos d
 simp only [hm, Nat.one_shiftLeft]
 rw [Nat.mul_div_cancel _ hp, Nat.mul_mod_left]
 have : ¬ (2 ^ d < 2 * 0) := by omega
 have h3 : (2 ^ d == 2 * 0) = false := by simp
 simp [h3]
theorem nearest_val (neg : Bool) (m : Nat) (p : Int) (M U : Nat) (hM : M < 9007199254740992) (hM0 : M ≠ 0) (hU : U = 0 ∨ 4503599627370496 ≤ M)
  (h : (∃ d : Nat, p = (U : Int) - 1074 + d ∧ m * 2 ^ d = M) ∨ (∃ d : Nat, p + d = (U : Int) - 1074 ∧ m = M * 2 ^ d)) :
  Ieee.double.nearest neg m p = Ieee.double.word neg (min (U * 4503599627370496 + M) 9218868437227405312) := by
 have s2 : Ieee.double.binade = 4503599627370496 := by decide
 have s3 : Ieee.double.infRung = 9218868437227405312 := by decide
 have s4 : Ieee.double.leastPlace = -1074 := by decide
 have s5 : (Ieee.double.fractionBits : Int) = 52 := by decide
 have hlM : M.log2 < 53 := (Nat.log2_lt hM0).2 (by omega)
 have hlM2 : U = 0 ∨ M.log2 = 52 := by
  rcases hU with h | h
  ·exact Or.inl h
  ·exact Or.inr (log2_eq (by omega) (by omega))
 unfold Ieee.Format.nearest
 simp only [s2, s3, s4, s5]
 rcases h with ⟨d, hp, hm⟩ | ⟨d, hp, hm⟩
 ·have hm0 : m ≠ 0 := by intro e; rw [e] at hm; omega
  have hl : M.log2 = m.log2 + d := by rw [← hm]; exact log2_mul hm0
  rw [if_neg hm0]
  have hlast : max (p + (m.log2 : Int) - 52) (-1074) = (U : Int) - 1074 := by omega
  rw [hlast]
  have e1 : (p - ((U : Int) - 1074)).toNat = d := by omega
  have e2 : ((U : Int) - 1074 - p).toNat = 0 := by omega
  have e3 : ((U : Int) - 1074 - -1074).toNat = U := by omega
  rw [e1, e2, e3, Nat.shiftLeft_eq, hm]
  have := cut_exact neg M 0 hM0
  rw [Nat.pow_zero, Nat.mul_one] at this
  rw [this]
 ·have hm0 : m ≠ 0 := by
   intro e; rw [e] at hm
   have := Nat.mul_pos (Nat.pos_of_ne_zero hM0) (Nat.two_pow_pos d)
   omega
  have hl : m.log2 = M.log2 + d := by rw [hm]; exact log2_mul hM0
  rw [if_neg hm0]
  have hlast : max (p + (m.log2 : Int) - 52) (-1074) = (U : Int) - 1074 := by omega
  rw [hlast]
  have e1 : (p - ((U : Int) - 1074)).toNat = 0 := by omega
  have e2 : ((U : Int) - 1074 - p).toNat = d := by omega
  have e3 : ((U : Int) - 1074 - -1074).toNat = U := by omega
  rw [e1, e2, e3, Nat.shiftLeft_zero, hm, cut_exact neg M d hM0]
theorem word_pos (r : Nat) : Ieee.double.word false r = r := rfl
theorem word_neg (r : Nat) : Ieee.double.word true r = 9223372036854775808 + r := by
 have s1 : Ieee.double.signWeight = 9223372036854775808 := by decide
 unfold Ieee.Format.word; rw [s1]; rfl
theorem mg_of {U M : Nat} (hM : M < 9007199254740992) (hU : U = 0 ∨ 4503599627370496 ≤ M) : mg (U * 4503599627370496 + M) = M ∧ up (U * 4503599627370496 + M) = U := by
 unfold mg up
 rcases hU with h | h
 ·subst h; (repeat' split) <;> omega
 ·(repeat' split) <;> omega
theorem read_fin {x : Nat} (hx : x < 18446744073709551616) (hf : finB x = true) : Ieee.double.read x = .number (sgn x) (mg (rung x)) (-1074 + (up (rung x) : Nat)) := by
 rw [read_eq x hx, if_pos (by simpa [finB] using hf)]
def pw (e : Int) : Nat := if e < -1022 then 2 ^ (e + 1074).toNat else (e + 1023).toNat * 4503599627370496
def key (a : Nat) : Int := if nanB a then 36893488147419103232 else 2 * place a + (if sgn a then 0 else 1)
theorem ordF_key (a b : Nat) : ordF a b = if key a < key b then -1 else if key b < key a then 1 else 0 := by
 have h1 := place_bd a
 have h2 := place_bd b
 unfold ordF key ordS
 cases nanB a <;> cases nanB b <;> cases sgn a <;> cases sgn b <;> simp only [Bool.and_true, Bool.and_false, Bool.not_true, Bool.not_false, Bool.false_eq_true, if_true, if_false] <;> (repeat' split) <;> omega
end Go.Proofs.YtbfefoidpgbjaaaGreatDoor
