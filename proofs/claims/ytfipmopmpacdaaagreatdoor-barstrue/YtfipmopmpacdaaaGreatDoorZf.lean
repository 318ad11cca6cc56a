/- The plain functions behind Abs, finite, exponent, lastBit, At, Next and Split, and their arithmetic. No condition but that a float is a word below 2^64. -/
import Ieee.Arith
import Derived.WalkKit
import Derived.WalkSpells
import Derived.WalkLawsBesides
import Derived.Lib.TrailingZeros
namespace Go.Proofs.YtfipmopmpacdaaaGreatDoor
def rung (x : Nat) : Nat := x % 9223372036854775808
def sgn (x : Nat) : Bool := decide (9223372036854775808 ≤ x)
def nanB (x : Nat) : Bool := decide (9218868437227405312 < rung x)
def place (x : Nat) : Int := if sgn x then -(rung x : Int) else (rung x : Int)
def val (r : Nat) : Nat := if r < 4503599627370496 then r else (4503599627370496 + r % 4503599627370496) * 2 ^ (r / 4503599627370496 - 1)
theorem val_step (r : Nat) : val r < val (r + 1) := by
 unfold val
 by_cases h1 : r + 1 < 4503599627370496
 ·rw [if_pos (by omega), if_pos h1]; omega
 ·by_cases h2 : r < 4503599627370496
  ·rw [if_pos h2, if_neg h1]
   have e : r + 1 = 4503599627370496 := by omega
   rw [e]; simp; omega
  ·rw [if_neg h2, if_neg h1]
   by_cases h3 : r % 4503599627370496 + 1 < 4503599627370496
   ·have e1 : (r + 1) % 4503599627370496 = r % 4503599627370496 + 1 := by omega
    have e2 : (r + 1) / 4503599627370496 = r / 4503599627370496 := by omega
    rw [e1, e2]
    exact Nat.mul_lt_mul_of_pos_right (by omega) (Nat.two_pow_pos _)
   ·have e1 : (r + 1) % 4503599627370496 = 0 := by omega
    have e2 : (r + 1) / 4503599627370496 - 1 = (r / 4503599627370496 - 1) + 1 := by omega
    have e3 : r % 4503599627370496 = 4503599627370495 := by omega
    rw [e1, e2, e3, Nat.pow_succ]
    have := Nat.two_pow_pos (r / 4503599627370496 - 1)
    generalize 2 ^ (r / 4503599627370496 - 1) = t at *
    omega
theorem val_lt {r s : Nat} (h : r < s) : val r < val s := by
 induction s with
 | zero => omega
 | succ s ih =>
  by_cases e : r = s
  ·subst e; exact val_step r
  ·exact Nat.lt_trans (ih (by omega)) (val_step s)
theorem val_lt_iff (r s : Nat) : val r < val s ↔ r < s := by
 constructor
 ·intro h
  by_cases e : r < s
  ·exact e
  ·by_cases e2 : r = s
   ·subst e2; omega
   ·have := val_lt (show s < r by omega); omega
 ·exact val_lt
theorem val_inj {r s : Nat} (h : val r = val s) : r = s := by
 by_cases e : r < s
 ·have := val_lt e; omega
 ·by_cases e2 : s < r
  ·have := val_lt e2; omega
  ·omega
theorem val_zero : val 0 = 0 := by simp [val]
def mg (r : Nat) : Nat := if r < 4503599627370496 then r else 4503599627370496 + r % 4503599627370496
def up (r : Nat) : Nat := if r < 4503599627370496 then 0 else r / 4503599627370496 - 1
theorem mg_up (r : Nat) : mg r * 2 ^ up r = val r := by
 unfold mg up val
 split <;> simp
theorem read_eq (x : Nat) (hx : x < 18446744073709551616) : Ieee.double.read x =
  if rung x < 9218868437227405312 then .number (sgn x) (mg (rung x)) (-1074 + (up (rung x) : Nat))
  else if rung x = 9218868437227405312 then .infinity (sgn x) else .nan (sgn x) (rung x - 9218868437227405312) := by
 have s1 : Ieee.double.signWeight = 9223372036854775808 := by decide
 have s2 : Ieee.double.binade = 4503599627370496 := by decide
 have s3 : Ieee.double.infRung = 9218868437227405312 := by decide
 have s4 : Ieee.double.leastPlace = -1074 := by decide
 have hs : (x / 9223372036854775808 % 2 == 1) = sgn x := by
  unfold sgn
  by_cases h : 9223372036854775808 ≤ x
  ·have : x / 9223372036854775808 = 1 := by omega
   simp [this, h]
  ·have : x / 9223372036854775808 = 0 := by omega
   simp [this, h]
 unfold Ieee.Format.read
 simp only [s1, s2, s3, s4, hs]
 show (if rung x < _ then _ else _) = _
 unfold mg up
 by_cases h1 : rung x < 4503599627370496
 ·rw [if_pos h1, if_pos (by omega), if_pos h1, if_pos h1]; rfl
 ·rw [if_neg h1]
  by_cases h2 : rung x < 9218868437227405312
  ·rw [if_pos (show x % 9223372036854775808 < _ from h2), if_pos h2, if_neg h1, if_neg h1]; rfl
  ·rw [if_neg (show ¬ x % 9223372036854775808 < _ from h2), if_neg h2]; rfl
theorem cmp_int (a b : Int) : compare a b = if a < b then .lt else if a = b then .eq else .gt := rfl
theorem cmp_scale (a b : Int) (t : Nat) (ht : 0 < t) : compare a b = compare (a * t) (b * t) := by
 have h1 : a < b ↔ a * t < b * t := (Int.mul_lt_mul_right (by omega)).symm
 have h2 : a = b ↔ a * t = b * t := (Int.mul_eq_mul_right_iff (by omega)).symm
 rw [cmp_int, cmp_int]
 by_cases e1 : a < b
 ·rw [if_pos e1, if_pos (h1.1 e1)]
 ·rw [if_neg e1, if_neg (fun h => e1 (h1.2 h))]
  by_cases e2 : a = b
  ·rw [if_pos e2, if_pos (h2.1 e2)]
  ·rw [if_neg e2, if_neg (fun h => e2 (h2.2 h))]
theorem signed_mul (s : Bool) (m u t : Nat) : Ieee.signed s m u * (2 ^ t : Nat) = if s then -((m * 2 ^ (u + t) : Nat) : Int) else ((m * 2 ^ (u + t) : Nat) : Int) := by
 unfold Ieee.signed
 have e : ((m <<< u : Nat) : Int) * (2 ^ t : Nat) = ((m * 2 ^ (u + t) : Nat) : Int) := by
  rw [Nat.shiftLeft_eq, Nat.pow_add, ← Nat.mul_assoc]
  exact (Int.natCast_mul _ _).symm
 cases s
 ·simpa using e
 ·simp only [if_true]; rw [Int.neg_mul, e]
theorem cmp_vals (s t : Bool) (r q : Nat) :
  compare (if s then -((val r : Nat) : Int) else (val r : Int)) (if t then -((val q : Nat) : Int) else (val q : Int))
   = compare (if s then -(r : Int) else (r : Int)) (if t then -(q : Int) else (q : Int)) := by
 have h1 := val_lt_iff r q
 have h2 := val_lt_iff q r
 have h3 := val_lt_iff 0 r
 have h4 := val_lt_iff 0 q
 rw [val_zero] at h3 h4
 have h5 : val r = val q ↔ r = q := ⟨val_inj, fun h => by rw [h]⟩
 rw [cmp_int, cmp_int]
 cases s <;> cases t <;> simp only [if_true, if_false, Bool.false_eq_true] <;> (repeat' split) <;> first | rfl | omega
theorem order_eq (a b : Nat) (ha : a < 18446744073709551616) (hb : b < 18446744073709551616) :
  Ieee.double.order a b = if nanB a || nanB b then none else some (compare (place a) (place b)) := by
 unfold Ieee.Format.order
 rw [read_eq a ha, read_eq b hb]
 have ra : rung a < 9223372036854775808 := by unfold rung; omega
 have rb : rung b < 9223372036854775808 := by unfold rung; omega
 unfold nanB place
 generalize sgn a = s at *
 generalize sgn b = t at *
 generalize rung a = r at *
 generalize rung b = q at *
 by_cases a1 : r < 9218868437227405312
 ·rw [if_pos a1]
  have na : ¬ 9218868437227405312 < r := by omega
  by_cases b1 : q < 9218868437227405312
  ·rw [if_pos b1]
   have nb : ¬ 9218868437227405312 < q := by omega
   simp only [na, nb, decide_false, Bool.or_false, Bool.false_eq_true, if_false, Ieee.Datum.order]
   congr 1
   rw [← cmp_vals]
   have e1 : (-1074 + (up r : Int) - min (-1074 + (up r : Int)) (-1074 + (up q : Int))).toNat = up r - min (up r) (up q) := by omega
   have e2 : (-1074 + (up q : Int) - min (-1074 + (up r : Int)) (-1074 + (up q : Int))).toNat = up q - min (up r) (up q) := by omega
   rw [e1, e2, cmp_scale _ _ (2 ^ min (up r) (up q)) (Nat.two_pow_pos _), signed_mul, signed_mul]
   rw [show up r - min (up r) (up q) + min (up r) (up q) = up r by omega, show up q - min (up r) (up q) + min (up r) (up q) = up q by omega, mg_up, mg_up]
  ·rw [if_neg b1]
   by_cases b2 : q = 9218868437227405312
   ·rw [if_pos b2]; subst b2
    simp only [na, decide_false, Nat.lt_irrefl, Bool.or_false, Bool.false_eq_true, if_false, Ieee.Datum.order]
    rw [cmp_int]
    cases s <;> cases t <;> simp only [if_true, if_false, Bool.false_eq_true] <;> (repeat' split) <;> first | rfl | omega
   ·rw [if_neg b2]
    have nb : 9218868437227405312 < q := by omega
    simp [nb, Ieee.Datum.order]
 ·rw [if_neg a1]
  by_cases a2 : r = 9218868437227405312
  ·rw [if_pos a2]; subst a2
   by_cases b1 : q < 9218868437227405312
   ·rw [if_pos b1]
    have nb : ¬ 9218868437227405312 < q := by omega
    simp only [nb, decide_false, Nat.lt_irrefl, Bool.or_false, Bool.false_eq_true, if_false, Ieee.Datum.order]
    rw [cmp_int]
    cases s <;> cases t <;> simp only [if_true, if_false, Bool.false_eq_true] <;> (repeat' split) <;> first | rfl | omega
   ·rw [if_neg b1]
    by_cases b2 : q = 9218868437227405312
    ·rw [if_pos b2]; subst b2
     simp only [decide_false, Nat.lt_irrefl, Bool.or_false, Bool.false_eq_true, if_false, Ieee.Datum.order]
     rw [cmp_int]
     cases s <;> cases t <;> decide
    ·rw [if_neg b2]
     have nb : 9218868437227405312 < q := by omega
     simp [nb, Ieee.Datum.order]
  ·rw [if_neg a2]
   have na : 9218868437227405312 < r := by omega
   simp [na, Ieee.Datum.order]
open Go.RowKit
theorem fmt64 : FloatKind.f64.format = Ieee.double := rfl
theorem ord_self (a : Nat) (ha : a < 18446744073709551616) : (FloatKind.f64.format.order a a != some .eq) = nanB a := by
 rw [fmt64, order_eq a a ha ha]
 cases nanB a
 ·simp
 ·rfl
theorem ord_num {a b : Nat} (ha : a < 18446744073709551616) (hb : b < 18446744073709551616) (na : nanB a = false) (nb : nanB b = false) :
  FloatKind.f64.format.order a b = some (compare (place a) (place b)) := by
 rw [fmt64, order_eq a b ha hb, na, nb]; rfl
theorem ord_nan {a b : Nat} (ha : a < 18446744073709551616) (hb : b < 18446744073709551616) (h : nanB a = true ∨ nanB b = true) :
  FloatKind.f64.format.order a b = none := by
 rw [fmt64, order_eq a b ha hb]
 rcases h with h | h <;> simp [h]
theorem cmp_lt (x y : Int) : (some (compare x y) == some Ordering.lt) = decide (x < y) := by
 rw [cmp_int]; (repeat' split) <;> simp <;> omega
theorem cmp_gt (x y : Int) : (some (compare x y) == some Ordering.gt) = decide (y < x) := by
 rw [cmp_int]; (repeat' split) <;> simp <;> omega
theorem cmp_eq (x y : Int) : (some (compare x y) == some Ordering.eq) = decide (x = y) := by
 rw [cmp_int]; (repeat' split) <;> simp <;> omega
theorem lt_num {a b : Nat} (ha : a < 18446744073709551616) (hb : b < 18446744073709551616) (na : nanB a = false) (nb : nanB b = false) :
  (FloatKind.f64.format.order a b == some .lt) = decide (place a < place b) := by rw [ord_num ha hb na nb, cmp_lt]
theorem gt_num {a b : Nat} (ha : a < 18446744073709551616) (hb : b < 18446744073709551616) (na : nanB a = false) (nb : nanB b = false) :
  (FloatKind.f64.format.order a b == some .gt) = decide (place b < place a) := by rw [ord_num ha hb na nb, cmp_gt]
theorem eq_num {a b : Nat} (ha : a < 18446744073709551616) (hb : b < 18446744073709551616) (na : nanB a = false) (nb : nanB b = false) :
  (FloatKind.f64.format.order a b == some .eq) = decide (place a = place b) := by rw [ord_num ha hb na nb, cmp_eq]
theorem end_bool {a b : Bool} (h : a = b) : Ending.returned (.bool a) = .returned (.bool b) := by subst h; rfl
theorem end_int {k : IntKind} {a b : Int} (h : a = b) : Ending.returned (.int k a) = .returned (.int k b) := by subst h; rfl
theorem end_flt {a b : Nat} (h : a = b) : Ending.returned (.float .f64 a) = .returned (.float .f64 b) := by subst h; rfl
theorem end_ib {k : IntKind} {a b : Int} {c d : Bool} (h : a = b) (g : c = d) : Ending.returned (.tuple #[.int k a, .bool c]) = .returned (.tuple #[.int k b, .bool d]) := by subst h; subst g; rfl
theorem end_fb {a b : Nat} {c d : Bool} (h : a = b) (g : c = d) : Ending.returned (.tuple #[.float .f64 a, .bool c]) = .returned (.tuple #[.float .f64 b, .bool d]) := by subst h; subst g; rfl
theorem and_two_pow' (a i : Nat) : a &&& 2 ^ i = (a.testBit i).toNat * 2 ^ i := by
 apply Nat.eq_of_testBit_eq
 intro j
 rw [Nat.testBit_and, Nat.testBit_two_pow]
 by_cases h : i = j
 ·subst h
  cases e : a.testBit i <;> simp [Nat.testBit_two_pow_self]
 ·cases e : a.testBit i <;> simp [h]
theorem and_sign (a : Nat) (ha : a < 18446744073709551616) : bits .and .u64 (a : Int) 9223372036854775808 = if sgn a then 9223372036854775808 else 0 := by
 have h := u64_and_nat a 9223372036854775808 ha (by omega)
 have e : ((9223372036854775808 : Nat) : Int) = 9223372036854775808 := rfl
 rw [e] at h
 rw [h]
 have := and_two_pow' a 63
 rw [show (2 : Nat) ^ 63 = 9223372036854775808 from rfl] at this
 rw [this, Nat.testBit_eq_decide_div_mod_eq, show (2 : Nat) ^ 63 = 9223372036854775808 from rfl]
 unfold sgn
 by_cases h1 : 9223372036854775808 ≤ a
 ·have : a / 9223372036854775808 = 1 := by omega
  simp [this, h1]
 ·have : a / 9223372036854775808 = 0 := by omega
  simp [this, h1]
theorem and_sign_ne (a : Nat) (ha : a < 18446744073709551616) : (bits .and .u64 (a : Int) 9223372036854775808 != 0) = sgn a := by
 rw [and_sign a ha]; cases sgn a <;> rfl
theorem andNot_sign (a : Nat) (ha : a < 18446744073709551616) : bits .andNot .u64 (a : Int) 9223372036854775808 = (rung a : Int) := by
 have h := u64_andNot_nat a 9223372036854775808 ha (by omega)
 have e : ((9223372036854775808 : Nat) : Int) = 9223372036854775808 := rfl
 rw [e] at h
 rw [h]
 have := Nat.and_two_pow_sub_one_eq_mod a 63
 rw [show (2 : Nat) ^ 63 - 1 = 18446744073709551615 - 9223372036854775808 from rfl] at this
 rw [this]
 rfl
theorem rung_lt (a : Nat) : rung a < 9223372036854775808 := by unfold rung; omega
theorem rung_of (a : Nat) (ha : a < 18446744073709551616) : a = if sgn a then 9223372036854775808 + rung a else rung a := by
 unfold sgn rung
 by_cases h : 9223372036854775808 ≤ a
 ·simp [h]; omega
 ·simp [h]; omega
theorem sgn_wrap (a : Nat) (ha : a < 18446744073709551616) : decide (wrap64 (a : Int) < 0) = sgn a := by
 unfold wrap64 sgn
 rw [decide_eq_decide]; omega
theorem place_neg {a : Nat} (h : sgn a = true) : wrap64 (-wrap64 (rung a : Int)) = place a := by
 have := rung_lt a
 unfold place wrap64; rw [h]; simp only [if_true]; omega
theorem place_pos {a : Nat} (ha : a < 18446744073709551616) (h : sgn a = false) : wrap64 (a : Int) = place a := by
 have := rung_lt a
 have e := rung_of a ha
 rw [h] at e
 unfold place wrap64; rw [h]
 simp only [Bool.false_eq_true, if_false] at e ⊢; omega
theorem place_bd (a : Nat) : -9223372036854775807 ≤ place a ∧ place a ≤ 9223372036854775807 := by
 have := rung_lt a
 unfold place; split <;> omega
theorem place_nan {a : Nat} (h : nanB a = false) : -9218868437227405312 ≤ place a ∧ place a ≤ 9218868437227405312 := by
 unfold nanB at h
 have : ¬ 9218868437227405312 < rung a := by simpa using h
 unfold place; split <;> omega
def plc (a : Nat) : Int := if nanB a then 0 else place a
def ordS (s t : Bool) : Int := if s && !t then -1 else if t && !s then 1 else 0
def ordF (a b : Nat) : Int := if nanB a && nanB b then 0 else if nanB a then 1 else if nanB b then -1 else if place a < place b then -1 else if place b < place a then 1 else ordS (sgn a) (sgn b)
def finB (a : Nat) : Bool := decide (rung a < 9218868437227405312)
theorem rung_rung (a : Nat) : rung (rung a) = rung a := by unfold rung; omega
theorem rung_small {a : Nat} (h : a < 9223372036854775808) : rung a = a := by unfold rung; omega
theorem sgn_small {a : Nat} (h : a < 9223372036854775808) : sgn a = false := by unfold sgn; simp; omega
theorem place_small {a : Nat} (h : a < 9223372036854775808) : place a = a := by unfold place; rw [sgn_small h, rung_small h]; rfl
theorem nan_small {a : Nat} (h : a ≤ 9218868437227405312) : nanB a = false := by unfold nanB; rw [rung_small (by omega)]; simp; omega
theorem fin_le (a : Nat) : (FloatKind.f64.format.order (rung a) 9218868437227405311 == some .lt || FloatKind.f64.format.order (rung a) 9218868437227405311 == some .eq) = finB a := by
 have hr := rung_lt a
 have nm : nanB 9218868437227405311 = false := nan_small (by omega)
 cases na : nanB (rung a)
 ·rw [lt_num (by omega) (by omega) na nm, eq_num (by omega) (by omega) na nm, place_small hr, place_small (by omega)]
  unfold finB
  rw [Bool.eq_iff_iff]; simp; omega
 ·rw [ord_nan (by omega) (by omega) (Or.inl na)]
  unfold nanB at na
  rw [rung_rung] at na
  have : 9218868437227405312 < rung a := by simpa using na
  unfold finB
  rw [Bool.eq_iff_iff]; simp; omega
theorem expo_eq (a : Nat) : bits .and .u64 ((a : Int) / 4503599627370496) 2047 = ((a / 4503599627370496 % 2048 : Nat) : Int) ∨ 18446744073709551616 ≤ a := by
 by_cases ha : a < 18446744073709551616
 ·left
  have h := u64_and_nat (a / 4503599627370496) 2047 (by omega) (by omega)
  have e : ((a / 4503599627370496 : Nat) : Int) = (a : Int) / 4503599627370496 := Int.natCast_ediv _ _
  rw [e] at h
  have e2 : ((2047 : Nat) : Int) = 2047 := rfl
  rw [e2] at h
  rw [h]
  have := Nat.and_two_pow_sub_one_eq_mod (a / 4503599627370496) 11
  rw [show (2 : Nat) ^ 11 - 1 = 2047 from rfl, show (2 : Nat) ^ 11 = 2048 from rfl] at this
  rw [this]
 ·right; omega
def expo (a : Nat) : Nat := a / 4503599627370496 % 2048
theorem expo_wrap {a : Nat} (_ha : a < 18446744073709551616) : wrap64 (bits .and .u64 ((a : Int) / 4503599627370496) 2047) = (expo a : Int) := by
 rcases expo_eq a with h | h
 ·rw [h]; unfold wrap64 expo; omega
 ·omega
theorem expo_rung {a : Nat} (_ha : a < 18446744073709551616) : expo a = rung a / 4503599627370496 := by unfold expo rung; omega
theorem frac_and {a : Nat} (ha : a < 18446744073709551616) : bits .and .u64 (a : Int) 4503599627370495 = ((rung a % 4503599627370496 : Nat) : Int) := by
 have h := u64_and_nat a 4503599627370495 ha (by omega)
 have e2 : ((4503599627370495 : Nat) : Int) = 4503599627370495 := rfl
 rw [e2] at h
 rw [h]
 have := Nat.and_two_pow_sub_one_eq_mod a 52
 rw [show (2 : Nat) ^ 52 - 1 = 4503599627370495 from rfl, show (2 : Nat) ^ 52 = 4503599627370496 from rfl] at this
 rw [this]
 unfold rung; omega
theorem frac_or {n : Nat} (hn : n < 4503599627370496) : bits .or .u64 (n : Int) 4503599627370496 = ((4503599627370496 + n : Nat) : Int) := by
 have h := u64_or_nat n 4503599627370496 (by omega) (by omega)
 have e2 : ((4503599627370496 : Nat) : Int) = 4503599627370496 := rfl
 rw [e2] at h
 rw [h]
 have := Nat.two_pow_add_eq_or_of_lt (i := 52) (b := n) (by omega) 1
 rw [show (2 : Nat) ^ 52 * 1 = 4503599627370496 from rfl] at this
 rw [this, Nat.or_comm]
theorem or_sign {n : Nat} (hn : n < 9223372036854775808) : bits .or .u64 9223372036854775808 (n : Int) = ((9223372036854775808 + n : Nat) : Int) := by
 have h := u64_or_nat 9223372036854775808 n (by omega) (by omega)
 have e2 : ((9223372036854775808 : Nat) : Int) = 9223372036854775808 := rfl
 rw [e2] at h
 rw [h]
 have := Nat.two_pow_add_eq_or_of_lt (i := 63) (b := n) (by omega) 1
 rw [show (2 : Nat) ^ 63 * 1 = 9223372036854775808 from rfl] at this
 rw [this]
def atB (p : Int) : Bool := decide (-9218868437227405312 ≤ p ∧ p ≤ 9218868437227405312)
def atF (p : Int) : Nat := if atB p then (if p < 0 then 9223372036854775808 + (-p).toNat else p.toNat) else 0
def nextF (a : Nat) (up : Bool) : Nat := if nanB a then a else atF (if up then min (place a + 1) 9218868437227405312 else max (place a - 1) (-9218868437227405312))
theorem atB_in {p : Int} (h : -9218868437227405312 ≤ p ∧ p ≤ 9218868437227405312) : atB p = true := by unfold atB; simpa using h
theorem atB_out {p : Int} (h : p < -9218868437227405312 ∨ 9218868437227405312 < p) : atB p = false := by unfold atB; simp; omega
theorem at_out {p : Int} (h : p < -9218868437227405312 ∨ 9218868437227405312 < p) : 0 = atF p := by unfold atF; rw [atB_out h]; rfl
theorem at_pos {p : Int} (h : 0 ≤ p ∧ p ≤ 9218868437227405312) : p.toNat = atF p := by
 unfold atF; rw [atB_in (by omega), if_pos rfl, if_neg (by omega)]
theorem at_neg {p : Int} (h : -9218868437227405312 ≤ p ∧ p < 0) : (bits .or .u64 9223372036854775808 (-p)).toNat = atF p := by
 unfold atF; rw [atB_in (by omega), if_pos rfl, if_pos (by omega)]
 have e : -p = ((-p).toNat : Int) := by omega
 rw [e, or_sign (by omega)]
 omega
theorem atF_lt (p : Int) : atF p < 18446744073709551616 := by
 unfold atF atB
 split
 ·rename_i h; simp at h; split <;> omega
 ·omega
theorem lastBit_up {a : Nat} (ha : a < 18446744073709551616) : (up (rung a) : Int) = if (expo a : Int) < 1 then 0 else (expo a : Int) - 1 := by
 rw [expo_rung ha]
 unfold up
 (repeat' split) <;> omega
def spZ (a : Nat) : Nat := Lib.ctz 64 (mg (rung a))
def spF (a : Nat) : Nat := if rung a = 0 then 0 else mg (rung a) / 2 ^ spZ a
def spE (a : Nat) : Int := if rung a = 0 then 0 else (up (rung a) : Int) - 1074 + spZ a
theorem mg_lt (r : Nat) : mg r < 9007199254740992 := by unfold mg; split <;> omega
theorem mg_ne {r : Nat} (h : r ≠ 0) : mg r ≠ 0 := by unfold mg; split <;> omega
end Go.Proofs.YtfipmopmpacdaaaGreatDoor
