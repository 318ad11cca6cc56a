/- Rounding any number to a float: which rung it comes to, told by the middles below it; as for narrow floats. -/
import Ieee.Arith
import Derived.Test.YtfipmopmpacdaaaGreatDoorZg
namespace Go.Proofs.YtfipmopmpacdaaaGreatDoor.S
def rung (x : Nat) : Nat := x % 2147483648
def sgn (x : Nat) : Bool := decide (2147483648 ≤ x)
def nanB (x : Nat) : Bool := decide (2139095040 < rung x)
def place (x : Nat) : Int := if sgn x then -(rung x : Int) else (rung x : Int)
def val (r : Nat) : Nat := if r < 8388608 then r else (8388608 + r % 8388608) * 2 ^ (r / 8388608 - 1)
theorem val_step (r : Nat) : val r < val (r + 1) := by
 unfold val
 by_cases h1 : r + 1 < 8388608
 ·rw [if_pos (by omega), if_pos h1]; omega
 ·by_cases h2 : r < 8388608
  ·rw [if_pos h2, if_neg h1]
   have e : r + 1 = 8388608 := by omega
   rw [e]; simp; omega
  ·rw [if_neg h2, if_neg h1]
   by_cases h3 : r % 8388608 + 1 < 8388608
   ·have e1 : (r + 1) % 8388608 = r % 8388608 + 1 := by omega
    have e2 : (r + 1) / 8388608 = r / 8388608 := by omega
    rw [e1, e2]
    exact Nat.mul_lt_mul_of_pos_right (by omega) (Nat.two_pow_pos _)
   ·have e1 : (r + 1) % 8388608 = 0 := by omega
    have e2 : (r + 1) / 8388608 - 1 = (r / 8388608 - 1) + 1 := by omega
    have e3 : r % 8388608 = 8388607 := by omega
    rw [e1, e2, e3, Nat.pow_succ]
    have := Nat.two_pow_pos (r / 8388608 - 1)
    generalize 2 ^ (r / 8388608 - 1) = t at *
    omega
theorem val_lt {r s : Nat} (h : r < s) : val r < val s := by
 induction s with
 | zero => omega
 | succ s ih =>
  by_cases e : r = s
  ·subst e; exact val_step r
  ·exact Nat.lt_trans (ih (by omega)) (val_step s)
theorem val_lt_iff (r s : Nat) : val r < val s ↔ r < s := by
 constructor
 ·intro h
  by_cases e : r < s
  ·exact e
  ·by_cases e2 : r = s
   ·subst e2; omega
   ·have := val_lt (show s < r by omega); omega
 ·exact val_lt
theorem val_inj {r s : Nat} (h : val r = val s) : r = s := by
 by_cases e : r < s
 ·have := val_lt e; omega
 ·by_cases e2 : s < r
  ·have := val_lt e2; omega
  ·omega
theorem val_zero : val 0 = 0 := by simp [val]
def mg (r : Nat) : Nat := if r < 8388608 then r else 8388608 + r % 8388608
def up (r : Nat) : Nat := if r < 8388608 then 0 else r / 8388608 - 1
theorem mg_up (r : Nat) : mg r * 2 ^ up r = val r := by
 unfold mg up val
 split <;> simp
theorem read_eq (x : Nat) (hx : x < 4294967296) : Ieee.single.read x =
  if rung x < 2139095040 then .number (sgn x) (mg (rung x)) (-149 + (up (rung x) : Nat))
  else if rung x = 2139095040 then .infinity (sgn x) else .nan (sgn x) (rung x - 2139095040) := by
 have s1 : Ieee.single.signWeight = 2147483648 := by decide
 have s2 : Ieee.single.binade = 8388608 := by decide
 have s3 : Ieee.single.infRung = 2139095040 := by decide
 have s4 : Ieee.single.leastPlace = -149 := by decide
 have hs : (x / 2147483648 % 2 == 1) = sgn x := by
  unfold sgn
  by_cases h : 2147483648 ≤ x
  ·have : x / 2147483648 = 1 := by omega
   simp [this, h]
  ·have : x / 2147483648 = 0 := by omega
   simp [this, h]
 unfold Ieee.Format.read
 simp only [s1, s2, s3, s4, hs]
 show (if rung x < _ then _ else _) = _
 unfold mg up
 by_cases h1 : rung x < 8388608
 ·rw [if_pos h1, if_pos (by omega), if_pos h1, if_pos h1]; rfl
 ·rw [if_neg h1]
  by_cases h2 : rung x < 2139095040
  ·rw [if_pos (show x % 2147483648 < _ from h2), if_pos h2, if_neg h1, if_neg h1]; rfl
  ·rw [if_neg (show ¬ x % 2147483648 < _ from h2), if_neg h2]; rfl
theorem cmp_int (a b : Int) : compare a b = if a < b then .lt else if a = b then .eq else .gt := rfl
theorem cmp_scale (a b : Int) (t : Nat) (ht : 0 < t) : compare a b = compare (a * t) (b * t) := by
 have h1 : a < b ↔ a * t < b * t := (Int.mul_lt_mul_right (by omega)).symm
 have h2 : a = b ↔ a * t = b * t := (Int.mul_eq_mul_right_iff (by omega)).symm
 rw [cmp_int, cmp_int]
 by_cases e1 : a < b
 ·rw [if_pos e1, if_pos (h1.1 e1)]
 ·rw [if_neg e1, if_neg (fun h => e1 (h1.2 h))]
  by_cases e2 : a = b
  ·rw [if_pos e2, if_pos (h2.1 e2)]
  ·rw [if_neg e2, if_neg (fun h => e2 (h2.2 h))]
theorem signed_mul (s : Bool) (m u t : Nat) : Ieee.signed s m u * (2 ^ t : Nat) = if s then -((m * 2 ^ (u + t) : Nat) : Int) else ((m * 2 ^ (u + t) : Nat) : Int) := by
 unfold Ieee.signed
 have e : ((m <<< u : Nat) : Int) * (2 ^ t : Nat) = ((m * 2 ^ (u + t) : Nat) : Int) := by
  rw [Nat.shiftLeft_eq, Nat.pow_add, ← Nat.mul_assoc]
  exact (Int.natCast_mul _ _).symm
 cases s
 ·simpa using e
 ·simp only [if_true]; rw [Int.neg_mul, e]
theorem cmp_vals (s t : Bool) (r q : Nat) :
  compare (if s then -((val r : Nat) : Int) else (val r : Int)) (if t then -((val q : Nat) : Int) else (val q : Int))
   = compare (if s then -(r : Int) else (r : Int)) (if t then -(q : Int) else (q : Int)) := by
 have h1 := val_lt_iff r q
 have h2 := val_lt_iff q r
 have h3 := val_lt_iff 0 r
 have h4 := val_lt_iff 0 q
 rw [val_zero] at h3 h4
 have h5 : val r = val q ↔ r = q := ⟨val_inj, fun h => by rw [h]⟩
 rw [cmp_int, cmp_int]
 cases s <;> cases t <;> simp only [if_true, if_false, Bool.false_eq_true] <;> (repeat' split) <;> first | rfl | omega
theorem order_eq (a b : Nat) (ha : a < 4294967296) (hb : b < 4294967296) :
  Ieee.single.order a b = if nanB a || nanB b then none else some (compare (place a) (place b)) := by
 unfold Ieee.Format.order
 rw [read_eq a ha, read_eq b hb]
 have ra : rung a < 2147483648 := by unfold rung; omega
 have rb : rung b < 2147483648 := by unfold rung; omega
 unfold nanB place
 generalize sgn a = s at *
 generalize sgn b = t at *
 generalize rung a = r at *
 generalize rung b = q at *
 by_cases a1 : r < 2139095040
 ·rw [if_pos a1]
  have na : ¬ 2139095040 < r := by omega
  by_cases b1 : q < 2139095040
  ·rw [if_pos b1]
   have nb : ¬ 2139095040 < q := by omega
   simp only [na, nb, decide_false, Bool.or_false, Bool.false_eq_true, if_false, Ieee.Datum.order]
   congr 1
   rw [← cmp_vals]
   have e1 : (-149 + (up r : Int) - min (-149 + (up r : Int)) (-149 + (up q : Int))).toNat = up r - min (up r) (up q) := by omega
   have e2 : (-149 + (up q : Int) - min (-149 + (up r : Int)) (-149 + (up q : Int))).toNat = up q - min (up r) (up q) := by omega
   rw [e1, e2, cmp_scale _ _ (2 ^ min (up r) (up q)) (Nat.two_pow_pos _), signed_mul, signed_mul]
   rw [show up r - min (up r) (up q) + min (up r) (up q) = up r by omega, show up q - min (up r) (up q) + min (up r) (up q) = up q by omega, mg_up, mg_up]
  ·rw [if_neg b1]
   by_cases b2 : q = 2139095040
   ·rw [if_pos b2]; subst b2
    simp only [na, decide_false, Nat.lt_irrefl, Bool.or_false, Bool.false_eq_true, if_false, Ieee.Datum.order]
    rw [cmp_int]
    cases s <;> cases t <;> simp only [if_true, if_false, Bool.false_eq_true] <;> (repeat' split) <;> first | rfl | omega
   ·rw [if_neg b2]
    have nb : 2139095040 < q := by omega
    simp [nb, Ieee.Datum.order]
 ·rw [if_neg a1]
  by_cases a2 : r = 2139095040
  ·rw [if_pos a2]; subst a2
   by_cases b1 : q < 2139095040
   ·rw [if_pos b1]
    have nb : ¬ 2139095040 < q := by omega
    simp only [nb, decide_false, Nat.lt_irrefl, Bool.or_false, Bool.false_eq_true, if_false, Ieee.Datum.order]
    rw [cmp_int]
    cases s <;> cases t <;> simp only [if_true, if_false, Bool.false_eq_true] <;> (repeat' split) <;> first | rfl | omega
   ·rw [if_neg b1]
    by_cases b2 : q = 2139095040
    ·rw [if_pos b2]; subst b2
     simp only [decide_false, Nat.lt_irrefl, Bool.or_false, Bool.false_eq_true, if_false, Ieee.Datum.order]
     rw [cmp_int]
     cases s <;> cases t <;> decide
    ·rw [if_neg b2]
     have nb : 2139095040 < q := by omega
     simp [nb, Ieee.Datum.order]
  ·rw [if_neg a2]
   have na : 2139095040 < r := by omega
   simp [na, Ieee.Datum.order]
def finB (a : Nat) : Bool := decide (rung a < 2139095040)
theorem log2_eq {n k : Nat} (h1 : 2 ^ k ≤ n) (h2 : n < 2 ^ (k + 1)) : n.log2 = k := by
 have hn : n ≠ 0 := by have := Nat.two_pow_pos k; omega
 have a1 : k ≤ n.log2 := (Nat.le_log2 hn).2 h1
 have a2 : n.log2 < k + 1 := (Nat.log2_lt hn).2 h2
 omega
theorem log2_mul {n d : Nat} (hn : n ≠ 0) : (n * 2 ^ d).log2 = n.log2 + d := by
 have h1 := Nat.log2_self_le hn
 have h2 := Nat.lt_log2_self (n := n)
 refine log2_eq ?_ ?_
 ·rw [Nat.pow_add]; exact Nat.mul_le_mul_right _ h1
 ·rw [show n.log2 + d + 1 = n.log2 + 1 + d by omega, Nat.pow_add]
  exact Nat.mul_lt_mul_of_pos_right h2 (Nat.two_pow_pos _)
theorem cut_exact (neg : Bool) (M d : Nat) (hM : M ≠ 0) : Ieee.Toward.even.cut neg (M * 2 ^ d) d = M := by
 unfold Ieee.Toward.cut
 have hl := log2_mul (d := d) hM
 have hm : min d ((M * 2 ^ d).log2 + 2) = d := by omega
 have hp := Nat.two_pow_pos d
 simp only [hm, Nat.one_shiftLeft]
 rw [Nat.mul_div_cancel _ hp, Nat.mul_mod_left]
 have : ¬ (2 ^ d < 2 * 0) := by omega
 have h3 : (2 ^ d == 2 * 0) = false := by simp
 simp [h3]
theorem nearest_val (neg : Bool) (m : Nat) (p : Int) (M U : Nat) (hM : M < 16777216) (hM0 : M ≠ 0) (hU : U = 0 ∨ 8388608 ≤ M)
  (h : (∃ d : Nat, p = (U : Int) - 149 + d ∧ m * 2 ^ d = M) ∨ (∃ d : Nat, p + d = (U : Int) - 149 ∧ m = M * 2 ^ d)) :
  Ieee.single.nearest neg m p = Ieee.single.word neg (min (U * 8388608 + M) 2139095040) := by
 have s2 : Ieee.single.binade = 8388608 := by decide
 have s3 : Ieee.single.infRung = 2139095040 := by decide
 have s4 : Ieee.single.leastPlace = -149 := by decide
 have s5 : (Ieee.single.fractionBits : Int) = 23 := by decide
 have hlM : M.log2 < 24 := (Nat.log2_lt hM0).2 (by omega)
 have hlM2 : U = 0 ∨ M.log2 = 23 := by
  rcases hU with h | h
  ·exact Or.inl h
  ·exact Or.inr (log2_eq (by omega) (by omega))
 unfold Ieee.Format.nearest
 simp only [s2, s3, s4, s5]
 rcases h with ⟨d, hp, hm⟩ | ⟨d, hp, hm⟩
 ·have hm0 : m ≠ 0 := by intro e; rw [e] at hm; omega
  have hl : M.log2 = m.log2 + d := by rw [← hm]; exact log2_mul hm0
  rw [if_neg hm0]
  have hlast : max (p + (m.log2 : Int) - 23) (-149) = (U : Int) - 149 := by omega
  rw [hlast]
  have e1 : (p - ((U : Int) - 149)).toNat = d := by omega
  have e2 : ((U : Int) - 149 - p).toNat = 0 := by omega
  have e3 : ((U : Int) - 149 - -149).toNat = U := by omega
  rw [e1, e2, e3, Nat.shiftLeft_eq, hm]
  have := cut_exact neg M 0 hM0
  rw [Nat.pow_zero, Nat.mul_one] at this
  rw [this]
 ·have hm0 : m ≠ 0 := by
   intro e; rw [e] at hm
   have := Nat.mul_pos (Nat.pos_of_ne_zero hM0) (Nat.two_pow_pos d)
   omega
  have hl : m.log2 = M.log2 + d := by rw [hm]; exact log2_mul hM0
  rw [if_neg hm0]
  have hlast : max (p + (m.log2 : Int) - 23) (-149) = (U : Int) - 149 := by omega
  rw [hlast]
  have e1 : (p - ((U : Int) - 149)).toNat = 0 := by omega
  have e2 : ((U : Int) - 149 - p).toNat = d := by omega
  have e3 : ((U : Int) - 149 - -149).toNat = U := by omega
  rw [e1, e2, e3, Nat.shiftLeft_zero, hm, cut_exact neg M d hM0]
theorem word_pos (r : Nat) : Ieee.single.word false r = r := rfl
theorem word_neg (r : Nat) : Ieee.single.word true r = 2147483648 + r := by
 have s1 : Ieee.single.signWeight = 2147483648 := by decide
 unfold Ieee.Format.word; rw [s1]; rfl
theorem mg_of {U M : Nat} (hM : M < 16777216) (hU : U = 0 ∨ 8388608 ≤ M) : mg (U * 8388608 + M) = M ∧ up (U * 8388608 + M) = U := by
 unfold mg up
 rcases hU with h | h
 ·subst h; (repeat' split) <;> omega
 ·(repeat' split) <;> omega
theorem read_fin {x : Nat} (hx : x < 4294967296) (hf : finB x = true) : Ieee.single.read x = .number (sgn x) (mg (rung x)) (-149 + (up (rung x) : Nat)) := by
 rw [read_eq x hx, if_pos (by simpa [finB] using hf)]
end Go.Proofs.YtfipmopmpacdaaaGreatDoor.S
namespace Go.Proofs.YtfipmopmpacdaaaGreatDoor
open Go.RowKit
def wd (r : Nat) : Nat := if r = 0 then 0 else (S.up r + 873 + (S.mg r).log2) * 4503599627370496 + S.mg r * 2 ^ (52 - (S.mg r).log2)
def wr (r : Nat) : Nat := if r = 2139095040 then 9218868437227405312 else wd r
def bk (b : Nat) : Nat := Ieee.double.word (S.sgn b) (wr (S.rung b))
theorem cut_even (neg : Bool) (n d : Nat) : Ieee.Toward.even.cut neg n d = n / 2 ^ d + (decide (2 ^ d < 2 * (n % 2 ^ d)) || (decide (2 ^ d = 2 * (n % 2 ^ d)) && n / 2 ^ d % 2 == 1)).toNat := by
 unfold Ieee.Toward.cut
 by_cases hd : d ≤ n.log2 + 2
 ·simp only [Nat.min_eq_left hd, Nat.one_shiftLeft]
  congr 2
 ·simp only [Nat.min_eq_right (show n.log2 + 2 ≤ d by omega), Nat.one_shiftLeft]
  have hn : n < 2 ^ (n.log2 + 1) := Nat.lt_log2_self
  have h2 : (2 : Nat) ^ (n.log2 + 2) = 2 * 2 ^ (n.log2 + 1) := by rw [Nat.pow_succ, Nat.mul_comm]
  have h3 : (2 : Nat) ^ (n.log2 + 2) ≤ 2 ^ d := Nat.pow_le_pow_right (by omega) (by omega)
  have e1 : n / 2 ^ (n.log2 + 2) = 0 := Nat.div_eq_of_lt (by omega)
  have e2 : n % 2 ^ (n.log2 + 2) = n := Nat.mod_eq_of_lt (by omega)
  have e3 : n / 2 ^ d = 0 := Nat.div_eq_of_lt (by omega)
  have e4 : n % 2 ^ d = n := Nat.mod_eq_of_lt (by omega)
  rw [e1, e2, e3, e4]
  have a1 : ¬ 2 ^ (n.log2 + 2) < 2 * n := by omega
  have a2 : ¬ 2 ^ d < 2 * n := by omega
  have a3 : ¬ 2 ^ d = 2 * n := by omega
  simp [a1, a2, a3]
def nU (R : Nat) : Nat := up R + (mg R).log2 - 948
theorem above_parts {n d k0 A T : Nat} (hk : k0 = n / 2 ^ d) (hA : A * 2 ^ d = n * T) : k0 * T ≤ A ∧ (0 < T → A < (k0 + 1) * T) ∧ ((2 * k0 + 1) * T < 2 * A ↔ 0 < T ∧ 2 ^ d < 2 * (n % 2 ^ d)) ∧ (0 < T → ((2 * k0 + 1) * T = 2 * A ↔ 2 ^ d = 2 * (n % 2 ^ d))) := by
 have hp := Nat.two_pow_pos d
 have hn : n = 2 ^ d * k0 + n % 2 ^ d := by rw [hk]; exact (Nat.div_add_mod _ _).symm
 have hr : n % 2 ^ d < 2 ^ d := Nat.mod_lt _ hp
 generalize n % 2 ^ d = r at *
 generalize 2 ^ d = D at *
 have e1 : n * T = k0 * T * D + r * T := by rw [hn, Nat.add_mul, Nat.mul_comm D k0, Nat.mul_assoc, Nat.mul_comm D T, ← Nat.mul_assoc]
 rw [e1] at hA
 refine ⟨?_, fun hT => ?_, ?_, fun hT => ?_⟩
 ·refine Nat.le_of_mul_le_mul_right (c := D) ?_ hp
  omega
 ·refine Nat.lt_of_mul_lt_mul_right (a := D) ?_
  have h2 : r * T < D * T := Nat.mul_lt_mul_of_pos_right hr hT
  have h3 : (k0 + 1) * T * D = k0 * T * D + D * T := by rw [Nat.add_mul, Nat.one_mul, Nat.add_mul, Nat.mul_comm T D]
  omega
 ·have h3 : (2 * k0 + 1) * T * D = 2 * (k0 * T * D) + D * T := by rw [Nat.add_mul, Nat.one_mul, Nat.add_mul, Nat.mul_assoc 2 k0 T, Nat.mul_assoc 2, Nat.mul_comm T D]
  have h4 : 2 * A * D = 2 * (k0 * T * D) + 2 * (r * T) := by rw [Nat.mul_assoc, hA]; omega
  rw [← Nat.mul_lt_mul_right hp, h3, h4]
  have h5 : 2 * (r * T) = 2 * r * T := (Nat.mul_assoc 2 r T).symm
  rw [h5]
  constructor
  ·intro h
   have h6 : D * T < 2 * r * T := by omega
   have hT : 0 < T := by
    rcases Nat.eq_zero_or_pos T with h | h
    ·rw [h] at h6; simp at h6
    ·exact h
   exact ⟨hT, Nat.lt_of_mul_lt_mul_right h6⟩
  ·rintro ⟨hT, h⟩
   have := Nat.mul_lt_mul_of_pos_right h hT
   omega
 ·have h3 : (2 * k0 + 1) * T * D = 2 * (k0 * T * D) + D * T := by rw [Nat.add_mul, Nat.one_mul, Nat.add_mul, Nat.mul_assoc 2 k0 T, Nat.mul_assoc 2, Nat.mul_comm T D]
  have h4 : 2 * A * D = 2 * (k0 * T * D) + 2 * (r * T) := by rw [Nat.mul_assoc, hA]; omega
  have h5 : 2 * (r * T) = 2 * r * T := (Nat.mul_assoc 2 r T).symm
  constructor
  ·intro h
   have h6 : (2 * k0 + 1) * T * D = 2 * A * D := by rw [h]
   rw [h3, h4, h5] at h6
   exact Nat.eq_of_mul_eq_mul_right hT (by omega)
  ·intro h
   refine Nat.eq_of_mul_eq_mul_right hp ?_
   rw [h3, h4, h5, h]
theorem d_val_kept {U k : Nat} (hk : k < 9007199254740992) (hU : U = 0 ∨ 4503599627370496 ≤ k) : val (U * 4503599627370496 + k) = k * 2 ^ U ∧ val (U * 4503599627370496 + k + 1) = (k + 1) * 2 ^ U := by
 have one : ∀ k, k < 9007199254740992 → (U = 0 ∨ 4503599627370496 ≤ k) → val (U * 4503599627370496 + k) = k * 2 ^ U := fun k h1 h2 => by
  have := mg_of h1 h2
  rw [← mg_up, this.1, this.2]
 refine ⟨one k hk hU, ?_⟩
 by_cases h : k + 1 < 9007199254740992
 ·rw [Nat.add_assoc]; exact one (k + 1) h (hU.imp id (fun h => by omega))
 ·have hk' : k = 9007199254740991 := by omega
  subst hk'
  have e : U * 4503599627370496 + 9007199254740991 + 1 = (U + 1) * 4503599627370496 + 4503599627370496 := by omega
  have := mg_of (U := U + 1) (M := 4503599627370496) (by omega) (Or.inr (Nat.le_refl _))
  rw [e, ← mg_up, this.1, this.2, Nat.pow_succ]
  generalize 2 ^ U = t
  omega
theorem val_le_D {r q : Nat} (h : r ≤ q) : val r ≤ val q := by
 rcases Nat.lt_or_ge r q with h1 | h1
 ·exact Nat.le_of_lt (val_lt h1)
 ·rw [show r = q by omega]; exact Nat.le_refl _
def aboveD (K A r : Nat) : Prop := (val r + val (r + 1)) * 2 ^ K < 2 * A ∨ ((val r + val (r + 1)) * 2 ^ K = 2 * A ∧ r % 2 = 1)
theorem near_anyD (s : Bool) {m : Nat} (p : Int) (K : Nat) (hm : m ≠ 0) (hK : 0 ≤ p + 1074 + K) :
  ∃ k, Ieee.double.nearest s m p = Ieee.double.word s k ∧ k ≤ 9218868437227405312 ∧ ∀ r, r < 9218868437227405312 → (r < k ↔ aboveD K (m * 2 ^ (p + 1074 + K).toNat) r) := by
 have s2 : Ieee.double.binade = 4503599627370496 := by decide
 have s3 : Ieee.double.infRung = 9218868437227405312 := by decide
 have s4 : Ieee.double.leastPlace = -1074 := by decide
 have s5 : (Ieee.double.fractionBits : Int) = 52 := by decide
 obtain ⟨last, hlast⟩ : ∃ l, max (p + (m.log2 : Int) - 52) (-1074) = l := ⟨_, rfl⟩
 obtain ⟨U, hU⟩ : ∃ U : Nat, (last + 1074).toNat = U := ⟨_, rfl⟩
 obtain ⟨n, hn⟩ : ∃ n, m <<< (p - last).toNat = n := ⟨_, rfl⟩
 obtain ⟨d, hd⟩ : ∃ d, (last - p).toNat = d := ⟨_, rfl⟩
 obtain ⟨k0, hk0⟩ : ∃ k0, n / 2 ^ d = k0 := ⟨_, rfl⟩
 obtain ⟨A, hA⟩ : ∃ A, m * 2 ^ (p + 1074 + K).toNat = A := ⟨_, rfl⟩
 have hlog := Nat.log2_self_le hm
 have hlog2 := Nat.lt_log2_self (n := m)
 have hnA : A * 2 ^ d = n * 2 ^ (U + K) := by
  rw [← hA, ← hn, Nat.shiftLeft_eq, Nat.mul_assoc, Nat.mul_assoc, ← Nat.pow_add, ← Nat.pow_add]
  congr 2
  omega
 have hnl : n.log2 = m.log2 + (p - last).toNat := by rw [← hn, Nat.shiftLeft_eq]; exact log2_mul hm
 have hn0 : n ≠ 0 := by
  rw [← hn, Nat.shiftLeft_eq]
  have := Nat.mul_pos (Nat.pos_of_ne_zero hm) (Nat.two_pow_pos (p - last).toNat)
  omega
 have hkb : k0 < 9007199254740992 ∧ (U = 0 ∨ 4503599627370496 ≤ k0) := by
  have h1 := Nat.log2_self_le hn0
  have h2 := Nat.lt_log2_self (n := n)
  have hp := Nat.two_pow_pos d
  by_cases hU0 : U = 0
  ·refine ⟨?_, Or.inl hU0⟩
   have hdd : n.log2 + 1 ≤ d + 53 := by omega
   have h3 : n < 2 ^ (d + 53) := Nat.lt_of_lt_of_le h2 (Nat.pow_le_pow_right (by omega) hdd)
   rw [Nat.pow_add, Nat.mul_comm] at h3
   rw [← hk0]
   exact Nat.div_lt_of_lt_mul (by rw [Nat.mul_comm]; exact h3)
  ·have hdd : n.log2 = d + 52 := by omega
   rw [hdd] at h1 h2
   rw [← hk0]
   constructor
   ·rw [show d + 52 + 1 = 53 + d by omega, Nat.pow_add] at h2
    exact Nat.div_lt_of_lt_mul (by rw [Nat.mul_comm]; exact h2)
   ·right
    rw [Nat.le_div_iff_mul_le hp]
    rw [show d + 52 = 52 + d by omega, Nat.pow_add] at h1
    exact h1
 obtain ⟨v1, v2⟩ := d_val_kept hkb.1 hkb.2
 obtain ⟨a1, a2, a3, a4⟩ := above_parts hk0.symm hnA
 have hT := Nat.two_pow_pos (U + K)
 have a2 := a2 hT
 have a4 := a4 hT
 obtain ⟨f, hf⟩ : ∃ f, U * 4503599627370496 + k0 = f := ⟨_, rfl⟩
 rw [hf] at v1 v2
 have hpar : f % 2 = k0 % 2 := by omega
 refine ⟨min (f + (decide (2 ^ d < 2 * (n % 2 ^ d)) || (decide (2 ^ d = 2 * (n % 2 ^ d)) && k0 % 2 == 1)).toNat) 9218868437227405312, ?_, by omega, ?_⟩
 ·unfold Ieee.Format.nearest
  simp only [s2, s3, s4, s5]
  rw [if_neg hm, hlast, hn, hd, show (last - -1074).toNat = U by omega, cut_even s n d, hk0, ← hf, Nat.add_assoc]
 ·intro r hr
  have hfv : val f * 2 ^ K = k0 * 2 ^ (U + K) := by rw [v1, Nat.mul_assoc, ← Nat.pow_add]
  have hfv2 : val (f + 1) * 2 ^ K = (k0 + 1) * 2 ^ (U + K) := by rw [v2, Nat.mul_assoc, ← Nat.pow_add]
  have hmid : (val f + val (f + 1)) * 2 ^ K = (2 * k0 + 1) * 2 ^ (U + K) := by
   rw [Nat.add_mul, hfv, hfv2, ← Nat.add_mul]; congr 1; omega
  have hKp := Nat.two_pow_pos K
  rw [hA]
  have low : r < f → aboveD K A r := fun h => by
   left
   have x1 := val_le_D (show r ≤ f by omega)
   have x2 := val_le_D (show r + 1 ≤ f by omega)
   have x3 : val r < val f := (val_lt_iff r f).2 h
   have x4 : (val r + val (r + 1)) * 2 ^ K < (val f + val f) * 2 ^ K := Nat.mul_lt_mul_of_pos_right (by omega) hKp
   rw [Nat.add_mul (val f)] at x4
   omega
  have high : f < r → ¬ aboveD K A r := fun h => by
   have x1 := val_le_D (show f + 1 ≤ r by omega)
   have x3 : val r < val (r + 1) := val_step r
   have x4 : (val (f + 1) + val (f + 1)) * 2 ^ K < (val r + val (r + 1)) * 2 ^ K := Nat.mul_lt_mul_of_pos_right (by omega) hKp
   rw [Nat.add_mul (val (f + 1))] at x4
   rintro (h | ⟨h, _⟩) <;> omega
  rcases Nat.lt_trichotomy r f with h | h | h
  ·exact ⟨fun _ => low h, fun _ => by omega⟩
  ·subst h
   unfold aboveD
   rw [hmid, a3, a4, hpar]
   have hbt : (decide (2 ^ d < 2 * (n % 2 ^ d)) || (decide (2 ^ d = 2 * (n % 2 ^ d)) && k0 % 2 == 1)) = true ↔ (0 < 2 ^ (U + K) ∧ 2 ^ d < 2 * (n % 2 ^ d)) ∨ (2 ^ d = 2 * (n % 2 ^ d) ∧ k0 % 2 = 1) := by
    simp only [Bool.or_eq_true, Bool.and_eq_true, decide_eq_true_eq, beq_iff_eq]
    constructor
    ·rintro (h | h)
     ·exact Or.inl ⟨hT, h⟩
     ·exact Or.inr h
    ·rintro (h | h)
     ·exact Or.inl h.2
     ·exact Or.inr h
   rw [← hbt]
   generalize (decide (2 ^ d < 2 * (n % 2 ^ d)) || (decide (2 ^ d = 2 * (n % 2 ^ d)) && k0 % 2 == 1)) = bb
   have hbb : bb.toNat = if bb = true then 1 else 0 := by cases bb <;> rfl
   rw [hbb]
   by_cases hc : bb = true
   ·rw [if_pos hc]; exact ⟨fun _ => hc, fun _ => Nat.lt_min.2 ⟨Nat.lt_succ_self _, hr⟩⟩
   ·rw [if_neg hc]; exact ⟨fun h => absurd (Nat.lt_of_lt_of_le h (Nat.min_le_left _ _)) (Nat.lt_irrefl _), fun h => absurd h hc⟩
  ·refine ⟨fun hh => ?_, fun hh => absurd hh (high h)⟩
   exfalso
   have : ∀ b : Bool, b.toNat ≤ 1 := fun b => by cases b <;> simp
   have := this (decide (2 ^ d < 2 * (n % 2 ^ d)) || (decide (2 ^ d = 2 * (n % 2 ^ d)) && k0 % 2 == 1))
   omega
end Go.Proofs.YtfipmopmpacdaaaGreatDoor
