/- The plain functions behind Abs, finite, exponent, lastBit, At, Next and Split, and their arithmetic. No condition but that a float is a word below 2^64. -/
import Derived.Test.YtokfkooffbihcaaDoorFn
import Derived.Lib.TrailingZeros
namespace Go.Proofs.YtokfkooffbihcaaDoor
open Go.RowKit

def finB (a : Nat) : Bool := decide (rung a < 9218868437227405312)
theorem rung_rung (a : Nat) : rung (rung a) = rung a := by unfold rung; omega
theorem rung_small {a : Nat} (h : a < 9223372036854775808) : rung a = a := by unfold rung; omega
theorem sgn_small {a : Nat} (h : a < 9223372036854775808) : sgn a = false := by unfold sgn; simp; omega
theorem place_small {a : Nat} (h : a < 9223372036854775808) : place a = a := by unfold place; rw [sgn_small h, rung_small h]; rfl
theorem nan_small {a : Nat} (h : a ≤ 9218868437227405312) : nanB a = false := by unfold nanB; rw [rung_small (by omega)]; simp; omega
theorem fin_le (a : Nat) : (FloatKind.f64.format.order (rung a) 9218868437227405311 == some .lt || FloatKind.f64.format.order (rung a) 9218868437227405311 == some .eq) = finB a := by
  have hr := rung_lt a
  have nm : nanB 9218868437227405311 = false := nan_small (by omega)
  cases na : nanB (rung a)
  · rw [lt_num (by omega) (by omega) na nm, eq_num (by omega) (by omega) na nm, place_small hr, place_small (by omega)]
    unfold finB
    rw [Bool.eq_iff_iff]; simp; omega
  · rw [ord_nan (by omega) (by omega) (Or.inl na)]
    unfold nanB at na
    rw [rung_rung] at na
    have : 9218868437227405312 < rung a := by simpa using na
    unfold finB
    rw [Bool.eq_iff_iff]; simp; omega
theorem finB_nan {a : Nat} (h : finB a = true) : nanB a = false := by
  unfold finB at h; unfold nanB
  have : rung a < 9218868437227405312 := by simpa using h
  simp; omega

theorem expo_eq (a : Nat) : bits .and .u64 ((a : Int) / 4503599627370496) 2047 = ((a / 4503599627370496 % 2048 : Nat) : Int) ∨ 18446744073709551616 ≤ a := by
  by_cases ha : a < 18446744073709551616
  · left
    have h := u64_and_nat (a / 4503599627370496) 2047 (by omega) (by omega)
    have e : ((a / 4503599627370496 : Nat) : Int) = (a : Int) / 4503599627370496 := Int.natCast_ediv _ _
    rw [e] at h
    have e2 : ((2047 : Nat) : Int) = 2047 := rfl
    rw [e2] at h
    rw [h]
    have := Nat.and_two_pow_sub_one_eq_mod (a / 4503599627370496) 11
    rw [show (2 : Nat) ^ 11 - 1 = 2047 from rfl, show (2 : Nat) ^ 11 = 2048 from rfl] at this
    rw [this]
  · right; omega
def expo (a : Nat) : Nat := a / 4503599627370496 % 2048
theorem expo_wrap {a : Nat} (_ha : a < 18446744073709551616) : wrap64 (bits .and .u64 ((a : Int) / 4503599627370496) 2047) = (expo a : Int) := by
  rcases expo_eq a with h | h
  · rw [h]; unfold wrap64 expo; omega
  · omega
theorem expo_rung {a : Nat} (_ha : a < 18446744073709551616) : expo a = rung a / 4503599627370496 := by unfold expo rung; omega
theorem frac_and {a : Nat} (ha : a < 18446744073709551616) : bits .and .u64 (a : Int) 4503599627370495 = ((rung a % 4503599627370496 : Nat) : Int) := by
  have h := u64_and_nat a 4503599627370495 ha (by omega)
  have e2 : ((4503599627370495 : Nat) : Int) = 4503599627370495 := rfl
  rw [e2] at h
  rw [h]
  have := Nat.and_two_pow_sub_one_eq_mod a 52
  rw [show (2 : Nat) ^ 52 - 1 = 4503599627370495 from rfl, show (2 : Nat) ^ 52 = 4503599627370496 from rfl] at this
  rw [this]
  unfold rung; omega
theorem frac_or {n : Nat} (hn : n < 4503599627370496) : bits .or .u64 (n : Int) 4503599627370496 = ((4503599627370496 + n : Nat) : Int) := by
  have h := u64_or_nat n 4503599627370496 (by omega) (by omega)
  have e2 : ((4503599627370496 : Nat) : Int) = 4503599627370496 := rfl
  rw [e2] at h
  rw [h]
  have := Nat.two_pow_add_eq_or_of_lt (i := 52) (b := n) (by omega) 1
  rw [show (2 : Nat) ^ 52 * 1 = 4503599627370496 from rfl] at this
  rw [this, Nat.or_comm]
theorem or_sign {n : Nat} (hn : n < 9223372036854775808) : bits .or .u64 9223372036854775808 (n : Int) = ((9223372036854775808 + n : Nat) : Int) := by
  have h := u64_or_nat 9223372036854775808 n (by omega) (by omega)
  have e2 : ((9223372036854775808 : Nat) : Int) = 9223372036854775808 := rfl
  rw [e2] at h
  rw [h]
  have := Nat.two_pow_add_eq_or_of_lt (i := 63) (b := n) (by omega) 1
  rw [show (2 : Nat) ^ 63 * 1 = 9223372036854775808 from rfl] at this
  rw [this]

def atB (p : Int) : Bool := decide (-9218868437227405312 ≤ p ∧ p ≤ 9218868437227405312)
def atF (p : Int) : Nat := if atB p then (if p < 0 then 9223372036854775808 + (-p).toNat else p.toNat) else 0
def nextF (a : Nat) (up : Bool) : Nat := if nanB a then a else atF (if up then min (place a + 1) 9218868437227405312 else max (place a - 1) (-9218868437227405312))

theorem atB_in {p : Int} (h : -9218868437227405312 ≤ p ∧ p ≤ 9218868437227405312) : atB p = true := by unfold atB; simpa using h
theorem atB_out {p : Int} (h : p < -9218868437227405312 ∨ 9218868437227405312 < p) : atB p = false := by unfold atB; simp; omega
theorem at_out {p : Int} (h : p < -9218868437227405312 ∨ 9218868437227405312 < p) : 0 = atF p := by unfold atF; rw [atB_out h]; rfl
theorem at_pos {p : Int} (h : 0 ≤ p ∧ p ≤ 9218868437227405312) : p.toNat = atF p := by
  unfold atF; rw [atB_in (by omega), if_pos rfl, if_neg (by omega)]
theorem at_neg {p : Int} (h : -9218868437227405312 ≤ p ∧ p < 0) : (bits .or .u64 9223372036854775808 (-p)).toNat = atF p := by
  unfold atF; rw [atB_in (by omega), if_pos rfl, if_pos (by omega)]
  have e : -p = ((-p).toNat : Int) := by omega
  rw [e, or_sign (by omega)]
  omega
theorem atF_lt (p : Int) : atF p < 18446744073709551616 := by
  unfold atF atB
  split
  · rename_i h; simp at h; split <;> omega
  · omega
theorem lastBit_up {a : Nat} (ha : a < 18446744073709551616) : (up (rung a) : Int) = if (expo a : Int) < 1 then 0 else (expo a : Int) - 1 := by
  rw [expo_rung ha]
  unfold up
  (repeat' split) <;> omega

/-- Split's parts of a finite float. -/
def spZ (a : Nat) : Nat := Lib.ctz 64 (mg (rung a))
def spF (a : Nat) : Nat := if rung a = 0 then 0 else mg (rung a) / 2 ^ spZ a
def spE (a : Nat) : Int := if rung a = 0 then 0 else (up (rung a) : Int) - 1074 + spZ a
theorem mg_lt (r : Nat) : mg r < 9007199254740992 := by unfold mg; split <;> omega
theorem mg_ne {r : Nat} (h : r ≠ 0) : mg r ≠ 0 := by unfold mg; split <;> omega

end Go.Proofs.YtokfkooffbihcaaDoor
