/- Floats of 64 bits as words: which are NaN, their places, and that comparing two floats is comparing their places. No condition but that a word is below 2^64. -/
import Ieee.Arith
namespace Go.Proofs.YtokfkooffbihcaaDoor

/-- The word without its sign bit. -/
def rung (x : Nat) : Nat := x % 9223372036854775808
def sgn (x : Nat) : Bool := decide (9223372036854775808 ≤ x)
def nanB (x : Nat) : Bool := decide (9218868437227405312 < rung x)
def place (x : Nat) : Int := if sgn x then -(rung x : Int) else (rung x : Int)

/-- What a rung below infinity's stands for, in units of 2^-1074. -/
def val (r : Nat) : Nat := if r < 4503599627370496 then r else (4503599627370496 + r % 4503599627370496) * 2 ^ (r / 4503599627370496 - 1)

theorem val_step (r : Nat) : val r < val (r + 1) := by
  unfold val
  by_cases h1 : r + 1 < 4503599627370496
  · rw [if_pos (by omega), if_pos h1]; omega
  · by_cases h2 : r < 4503599627370496
    · rw [if_pos h2, if_neg h1]
      have e : r + 1 = 4503599627370496 := by omega
      rw [e]; simp; omega
    · rw [if_neg h2, if_neg h1]
      by_cases h3 : r % 4503599627370496 + 1 < 4503599627370496
      · have e1 : (r + 1) % 4503599627370496 = r % 4503599627370496 + 1 := by omega
        have e2 : (r + 1) / 4503599627370496 = r / 4503599627370496 := by omega
        rw [e1, e2]
        exact Nat.mul_lt_mul_of_pos_right (by omega) (Nat.two_pow_pos _)
      · have e1 : (r + 1) % 4503599627370496 = 0 := by omega
        have e2 : (r + 1) / 4503599627370496 - 1 = (r / 4503599627370496 - 1) + 1 := by omega
        have e3 : r % 4503599627370496 = 4503599627370495 := by omega
        rw [e1, e2, e3, Nat.pow_succ]
        have := Nat.two_pow_pos (r / 4503599627370496 - 1)
        generalize 2 ^ (r / 4503599627370496 - 1) = t at *
        omega

theorem val_lt {r s : Nat} (h : r < s) : val r < val s := by
  induction s with
  | zero => omega
  | succ s ih =>
    by_cases e : r = s
    · subst e; exact val_step r
    · exact Nat.lt_trans (ih (by omega)) (val_step s)

theorem val_lt_iff (r s : Nat) : val r < val s ↔ r < s := by
  constructor
  · intro h
    by_cases e : r < s
    · exact e
    · by_cases e2 : r = s
      · subst e2; omega
      · have := val_lt (show s < r by omega); omega
  · exact val_lt

theorem val_inj {r s : Nat} (h : val r = val s) : r = s := by
  by_cases e : r < s
  · have := val_lt e; omega
  · by_cases e2 : s < r
    · have := val_lt e2; omega
    · omega

theorem val_zero : val 0 = 0 := by simp [val]

def mg (r : Nat) : Nat := if r < 4503599627370496 then r else 4503599627370496 + r % 4503599627370496
def up (r : Nat) : Nat := if r < 4503599627370496 then 0 else r / 4503599627370496 - 1

theorem mg_up (r : Nat) : mg r * 2 ^ up r = val r := by
  unfold mg up val
  split <;> simp

theorem read_eq (x : Nat) (hx : x < 18446744073709551616) : Ieee.double.read x =
    if rung x < 9218868437227405312 then .number (sgn x) (mg (rung x)) (-1074 + (up (rung x) : Nat))
    else if rung x = 9218868437227405312 then .infinity (sgn x) else .nan (sgn x) (rung x - 9218868437227405312) := by
  have s1 : Ieee.double.signWeight = 9223372036854775808 := by decide
  have s2 : Ieee.double.binade = 4503599627370496 := by decide
  have s3 : Ieee.double.infRung = 9218868437227405312 := by decide
  have s4 : Ieee.double.leastPlace = -1074 := by decide
  have hs : (x / 9223372036854775808 % 2 == 1) = sgn x := by
    unfold sgn
    by_cases h : 9223372036854775808 ≤ x
    · have : x / 9223372036854775808 = 1 := by omega
      simp [this, h]
    · have : x / 9223372036854775808 = 0 := by omega
      simp [this, h]
  unfold Ieee.Format.read
  simp only [s1, s2, s3, s4, hs]
  show (if rung x < _ then _ else _) = _
  unfold mg up
  by_cases h1 : rung x < 4503599627370496
  · rw [if_pos h1, if_pos (by omega), if_pos h1, if_pos h1]; rfl
  · rw [if_neg h1]
    by_cases h2 : rung x < 9218868437227405312
    · rw [if_pos (show x % 9223372036854775808 < _ from h2), if_pos h2, if_neg h1, if_neg h1]; rfl
    · rw [if_neg (show ¬ x % 9223372036854775808 < _ from h2), if_neg h2]; rfl

theorem cmp_int (a b : Int) : compare a b = if a < b then .lt else if a = b then .eq else .gt := rfl

theorem cmp_scale (a b : Int) (t : Nat) (ht : 0 < t) : compare a b = compare (a * t) (b * t) := by
  have h1 : a < b ↔ a * t < b * t := (Int.mul_lt_mul_right (by omega)).symm
  have h2 : a = b ↔ a * t = b * t := (Int.mul_eq_mul_right_iff (by omega)).symm
  rw [cmp_int, cmp_int]
  by_cases e1 : a < b
  · rw [if_pos e1, if_pos (h1.1 e1)]
  · rw [if_neg e1, if_neg (fun h => e1 (h1.2 h))]
    by_cases e2 : a = b
    · rw [if_pos e2, if_pos (h2.1 e2)]
    · rw [if_neg e2, if_neg (fun h => e2 (h2.2 h))]

theorem signed_mul (s : Bool) (m u t : Nat) : Ieee.signed s m u * (2 ^ t : Nat) = if s then -((m * 2 ^ (u + t) : Nat) : Int) else ((m * 2 ^ (u + t) : Nat) : Int) := by
  unfold Ieee.signed
  have e : ((m <<< u : Nat) : Int) * (2 ^ t : Nat) = ((m * 2 ^ (u + t) : Nat) : Int) := by
    rw [Nat.shiftLeft_eq, Nat.pow_add, ← Nat.mul_assoc]
    exact (Int.natCast_mul _ _).symm
  cases s
  · simpa using e
  · simp only [if_true]; rw [Int.neg_mul, e]

theorem cmp_vals (s t : Bool) (r q : Nat) :
    compare (if s then -((val r : Nat) : Int) else (val r : Int)) (if t then -((val q : Nat) : Int) else (val q : Int))
      = compare (if s then -(r : Int) else (r : Int)) (if t then -(q : Int) else (q : Int)) := by
  have h1 := val_lt_iff r q
  have h2 := val_lt_iff q r
  have h3 := val_lt_iff 0 r
  have h4 := val_lt_iff 0 q
  rw [val_zero] at h3 h4
  have h5 : val r = val q ↔ r = q := ⟨val_inj, fun h => by rw [h]⟩
  rw [cmp_int, cmp_int]
  cases s <;> cases t <;> simp only [if_true, if_false, Bool.false_eq_true] <;> (repeat' split) <;> first | rfl | omega

theorem order_eq (a b : Nat) (ha : a < 18446744073709551616) (hb : b < 18446744073709551616) :
    Ieee.double.order a b = if nanB a || nanB b then none else some (compare (place a) (place b)) := by
  unfold Ieee.Format.order
  rw [read_eq a ha, read_eq b hb]
  have ra : rung a < 9223372036854775808 := by unfold rung; omega
  have rb : rung b < 9223372036854775808 := by unfold rung; omega
  unfold nanB place
  generalize sgn a = s at *
  generalize sgn b = t at *
  generalize rung a = r at *
  generalize rung b = q at *
  by_cases a1 : r < 9218868437227405312
  · rw [if_pos a1]
    have na : ¬ 9218868437227405312 < r := by omega
    by_cases b1 : q < 9218868437227405312
    · rw [if_pos b1]
      have nb : ¬ 9218868437227405312 < q := by omega
      simp only [na, nb, decide_false, Bool.or_false, Bool.false_eq_true, if_false, Ieee.Datum.order]
      congr 1
      rw [← cmp_vals]
      have e1 : (-1074 + (up r : Int) - min (-1074 + (up r : Int)) (-1074 + (up q : Int))).toNat = up r - min (up r) (up q) := by omega
      have e2 : (-1074 + (up q : Int) - min (-1074 + (up r : Int)) (-1074 + (up q : Int))).toNat = up q - min (up r) (up q) := by omega
      rw [e1, e2, cmp_scale _ _ (2 ^ min (up r) (up q)) (Nat.two_pow_pos _), signed_mul, signed_mul]
      rw [show up r - min (up r) (up q) + min (up r) (up q) = up r by omega, show up q - min (up r) (up q) + min (up r) (up q) = up q by omega, mg_up, mg_up]
    · rw [if_neg b1]
      by_cases b2 : q = 9218868437227405312
      · rw [if_pos b2]; subst b2
        simp only [na, decide_false, Nat.lt_irrefl, Bool.or_false, Bool.false_eq_true, if_false, Ieee.Datum.order]
        rw [cmp_int]
        cases s <;> cases t <;> simp only [if_true, if_false, Bool.false_eq_true] <;> (repeat' split) <;> first | rfl | omega
      · rw [if_neg b2]
        have nb : 9218868437227405312 < q := by omega
        simp [nb, Ieee.Datum.order]
  · rw [if_neg a1]
    by_cases a2 : r = 9218868437227405312
    · rw [if_pos a2]; subst a2
      by_cases b1 : q < 9218868437227405312
      · rw [if_pos b1]
        have nb : ¬ 9218868437227405312 < q := by omega
        simp only [nb, decide_false, Nat.lt_irrefl, Bool.or_false, Bool.false_eq_true, if_false, Ieee.Datum.order]
        rw [cmp_int]
        cases s <;> cases t <;> simp only [if_true, if_false, Bool.false_eq_true] <;> (repeat' split) <;> first | rfl | omega
      · rw [if_neg b1]
        by_cases b2 : q = 9218868437227405312
        · rw [if_pos b2]; subst b2
          simp only [decide_false, Nat.lt_irrefl, Bool.or_false, Bool.false_eq_true, if_false, Ieee.Datum.order]
          rw [cmp_int]
          cases s <;> cases t <;> decide
        · rw [if_neg b2]
          have nb : 9218868437227405312 < q := by omega
          simp [nb, Ieee.Datum.order]
    · rw [if_neg a2]
      have na : 9218868437227405312 < r := by omega
      simp [na, Ieee.Datum.order]

end Go.Proofs.YtokfkooffbihcaaDoor
