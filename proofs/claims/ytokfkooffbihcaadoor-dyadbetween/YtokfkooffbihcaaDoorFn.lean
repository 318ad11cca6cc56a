/- The plain functions that the program's small functions compute, and the little arithmetic behind them. No condition but that a float is a word below 2^64. -/
import Derived.Test.YtokfkooffbihcaaDoorFl
import Derived.WalkKit
import Derived.WalkSpells
import Derived.WalkLawsBesides
namespace Go.Proofs.YtokfkooffbihcaaDoor
open Go.RowKit

theorem fmt64 : FloatKind.f64.format = Ieee.double := rfl
theorem ord_self (a : Nat) (ha : a < 18446744073709551616) : (FloatKind.f64.format.order a a != some .eq) = nanB a := by
  rw [fmt64, order_eq a a ha ha]
  cases nanB a
  · simp
  · rfl
theorem ord_num {a b : Nat} (ha : a < 18446744073709551616) (hb : b < 18446744073709551616) (na : nanB a = false) (nb : nanB b = false) :
    FloatKind.f64.format.order a b = some (compare (place a) (place b)) := by
  rw [fmt64, order_eq a b ha hb, na, nb]; rfl
theorem ord_nan {a b : Nat} (ha : a < 18446744073709551616) (hb : b < 18446744073709551616) (h : nanB a = true ∨ nanB b = true) :
    FloatKind.f64.format.order a b = none := by
  rw [fmt64, order_eq a b ha hb]
  rcases h with h | h <;> simp [h]
theorem cmp_lt (x y : Int) : (some (compare x y) == some Ordering.lt) = decide (x < y) := by
  rw [cmp_int]; (repeat' split) <;> simp <;> omega
theorem cmp_gt (x y : Int) : (some (compare x y) == some Ordering.gt) = decide (y < x) := by
  rw [cmp_int]; (repeat' split) <;> simp <;> omega
theorem cmp_eq (x y : Int) : (some (compare x y) == some Ordering.eq) = decide (x = y) := by
  rw [cmp_int]; (repeat' split) <;> simp <;> omega
theorem lt_num {a b : Nat} (ha : a < 18446744073709551616) (hb : b < 18446744073709551616) (na : nanB a = false) (nb : nanB b = false) :
    (FloatKind.f64.format.order a b == some .lt) = decide (place a < place b) := by rw [ord_num ha hb na nb, cmp_lt]
theorem gt_num {a b : Nat} (ha : a < 18446744073709551616) (hb : b < 18446744073709551616) (na : nanB a = false) (nb : nanB b = false) :
    (FloatKind.f64.format.order a b == some .gt) = decide (place b < place a) := by rw [ord_num ha hb na nb, cmp_gt]
theorem eq_num {a b : Nat} (ha : a < 18446744073709551616) (hb : b < 18446744073709551616) (na : nanB a = false) (nb : nanB b = false) :
    (FloatKind.f64.format.order a b == some .eq) = decide (place a = place b) := by rw [ord_num ha hb na nb, cmp_eq]

theorem end_bool {a b : Bool} (h : a = b) : Ending.returned (.bool a) = .returned (.bool b) := by subst h; rfl
theorem end_int {k : IntKind} {a b : Int} (h : a = b) : Ending.returned (.int k a) = .returned (.int k b) := by subst h; rfl
theorem end_flt {a b : Nat} (h : a = b) : Ending.returned (.float .f64 a) = .returned (.float .f64 b) := by subst h; rfl
theorem end_ib {k : IntKind} {a b : Int} {c d : Bool} (h : a = b) (g : c = d) : Ending.returned (.tuple #[.int k a, .bool c]) = .returned (.tuple #[.int k b, .bool d]) := by subst h; subst g; rfl
theorem end_fb {a b : Nat} {c d : Bool} (h : a = b) (g : c = d) : Ending.returned (.tuple #[.float .f64 a, .bool c]) = .returned (.tuple #[.float .f64 b, .bool d]) := by subst h; subst g; rfl

theorem and_two_pow' (a i : Nat) : a &&& 2 ^ i = (a.testBit i).toNat * 2 ^ i := by
  apply Nat.eq_of_testBit_eq
  intro j
  rw [Nat.testBit_and, Nat.testBit_two_pow]
  by_cases h : i = j
  · subst h
    cases e : a.testBit i <;> simp [Nat.testBit_two_pow_self]
  · cases e : a.testBit i <;> simp [h]
theorem and_sign (a : Nat) (ha : a < 18446744073709551616) : bits .and .u64 (a : Int) 9223372036854775808 = if sgn a then 9223372036854775808 else 0 := by
  have h := u64_and_nat a 9223372036854775808 ha (by omega)
  have e : ((9223372036854775808 : Nat) : Int) = 9223372036854775808 := rfl
  rw [e] at h
  rw [h]
  have := and_two_pow' a 63
  rw [show (2 : Nat) ^ 63 = 9223372036854775808 from rfl] at this
  rw [this, Nat.testBit_eq_decide_div_mod_eq, show (2 : Nat) ^ 63 = 9223372036854775808 from rfl]
  unfold sgn
  by_cases h1 : 9223372036854775808 ≤ a
  · have : a / 9223372036854775808 = 1 := by omega
    simp [this, h1]
  · have : a / 9223372036854775808 = 0 := by omega
    simp [this, h1]
theorem and_sign_ne (a : Nat) (ha : a < 18446744073709551616) : (bits .and .u64 (a : Int) 9223372036854775808 != 0) = sgn a := by
  rw [and_sign a ha]; cases sgn a <;> rfl
theorem andNot_sign (a : Nat) (ha : a < 18446744073709551616) : bits .andNot .u64 (a : Int) 9223372036854775808 = (rung a : Int) := by
  have h := u64_andNot_nat a 9223372036854775808 ha (by omega)
  have e : ((9223372036854775808 : Nat) : Int) = 9223372036854775808 := rfl
  rw [e] at h
  rw [h]
  have := Nat.and_two_pow_sub_one_eq_mod a 63
  rw [show (2 : Nat) ^ 63 - 1 = 18446744073709551615 - 9223372036854775808 from rfl] at this
  rw [this]
  rfl
theorem rung_lt (a : Nat) : rung a < 9223372036854775808 := by unfold rung; omega
theorem rung_of (a : Nat) (ha : a < 18446744073709551616) : a = if sgn a then 9223372036854775808 + rung a else rung a := by
  unfold sgn rung
  by_cases h : 9223372036854775808 ≤ a
  · simp [h]; omega
  · simp [h]; omega
theorem sgn_wrap (a : Nat) (ha : a < 18446744073709551616) : decide (wrap64 (a : Int) < 0) = sgn a := by
  unfold wrap64 sgn
  rw [decide_eq_decide]; omega
theorem place_neg {a : Nat} (h : sgn a = true) : wrap64 (-wrap64 (rung a : Int)) = place a := by
  have := rung_lt a
  unfold place wrap64; rw [h]; simp only [if_true]; omega
theorem place_pos {a : Nat} (ha : a < 18446744073709551616) (h : sgn a = false) : wrap64 (a : Int) = place a := by
  have := rung_lt a
  have e := rung_of a ha
  rw [h] at e
  unfold place wrap64; rw [h]
  simp only [Bool.false_eq_true, if_false] at e ⊢; omega
theorem place_bd (a : Nat) : -9223372036854775807 ≤ place a ∧ place a ≤ 9223372036854775807 := by
  have := rung_lt a
  unfold place; split <;> omega
theorem place_nan {a : Nat} (h : nanB a = false) : -9218868437227405312 ≤ place a ∧ place a ≤ 9218868437227405312 := by
  unfold nanB at h
  have : ¬ 9218868437227405312 < rung a := by simpa using h
  unfold place; split <;> omega

def plc (a : Nat) : Int := if nanB a then 0 else place a
def ordS (s t : Bool) : Int := if s && !t then -1 else if t && !s then 1 else 0
def ordF (a b : Nat) : Int := if nanB a && nanB b then 0 else if nanB a then 1 else if nanB b then -1 else if place a < place b then -1 else if place b < place a then 1 else ordS (sgn a) (sgn b)
def sameB (a b : Nat) : Bool := if nanB a then nanB b else decide (a = b)
def btwB (a b : Nat) : Bool := !nanB a && !nanB b && decide (place a ≤ place b)
def btwN (a b : Nat) : Int := if btwB a b then place b - place a else 0

theorem btw_wrap (x y : Int) (h1 : x ≤ y) (hx : -9223372036854775807 ≤ x) (hy : y ≤ 9223372036854775807) : IntKind.u64.wrap (IntKind.u64.wrap y - IntKind.u64.wrap x) = y - x := by
  rw [IntKind.wrap_u64, IntKind.wrap_u64, IntKind.wrap_u64]; omega

end Go.Proofs.YtokfkooffbihcaaDoor
