/- Narrow floats, of 32 bits, as words: which are NaN, their places, that comparing two is comparing their places; rounding to them is exact where the number is one of them. No condition but that a word is below 2^32. -/
import Ieee.Arith
namespace Go.Proofs.YtlmmjbllbjeoiaaGreatDoor.S

/-- The word without its sign bit. -/
def rung (x : Nat) : Nat := x % 2147483648
def sgn (x : Nat) : Bool := decide (2147483648 ≤ x)
def nanB (x : Nat) : Bool := decide (2139095040 < rung x)
def place (x : Nat) : Int := if sgn x then -(rung x : Int) else (rung x : Int)

/-- What a rung below infinity's stands for, in units of 2^-149. -/
def val (r : Nat) : Nat := if r < 8388608 then r else (8388608 + r % 8388608) * 2 ^ (r / 8388608 - 1)

theorem val_step (r : Nat) : val r < val (r + 1) := by
  unfold val
  by_cases h1 : r + 1 < 8388608
  · rw [if_pos (by omega), if_pos h1]; omega
  · by_cases h2 : r < 8388608
    · rw [if_pos h2, if_neg h1]
      have e : r + 1 = 8388608 := by omega
      rw [e]; simp; omega
    · rw [if_neg h2, if_neg h1]
      by_cases h3 : r % 8388608 + 1 < 8388608
      · have e1 : (r + 1) % 8388608 = r % 8388608 + 1 := by omega
        have e2 : (r + 1) / 8388608 = r / 8388608 := by omega
        rw [e1, e2]
        exact Nat.mul_lt_mul_of_pos_right (by omega) (Nat.two_pow_pos _)
      · have e1 : (r + 1) % 8388608 = 0 := by omega
        have e2 : (r + 1) / 8388608 - 1 = (r / 8388608 - 1) + 1 := by omega
        have e3 : r % 8388608 = 8388607 := by omega
        rw [e1, e2, e3, Nat.pow_succ]
        have := Nat.two_pow_pos (r / 8388608 - 1)
        generalize 2 ^ (r / 8388608 - 1) = t at *
        omega

theorem val_lt {r s : Nat} (h : r < s) : val r < val s := by
  induction s with
  | zero => omega
  | succ s ih =>
    by_cases e : r = s
    · subst e; exact val_step r
    · exact Nat.lt_trans (ih (by omega)) (val_step s)

theorem val_lt_iff (r s : Nat) : val r < val s ↔ r < s := by
  constructor
  · intro h
    by_cases e : r < s
    · exact e
    · by_cases e2 : r = s
      · subst e2; omega
      · have := val_lt (show s < r by omega); omega
  · exact val_lt

theorem val_inj {r s : Nat} (h : val r = val s) : r = s := by
  by_cases e : r < s
  · have := val_lt e; omega
  · by_cases e2 : s < r
    · have := val_lt e2; omega
    · omega

theorem val_zero : val 0 = 0 := by simp [val]

def mg (r : Nat) : Nat := if r < 8388608 then r else 8388608 + r % 8388608
def up (r : Nat) : Nat := if r < 8388608 then 0 else r / 8388608 - 1

theorem mg_up (r : Nat) : mg r * 2 ^ up r = val r := by
  unfold mg up val
  split <;> simp

theorem read_eq (x : Nat) (hx : x < 4294967296) : Ieee.single.read x =
    if rung x < 2139095040 then .number (sgn x) (mg (rung x)) (-149 + (up (rung x) : Nat))
    else if rung x = 2139095040 then .infinity (sgn x) else .nan (sgn x) (rung x - 2139095040) := by
  have s1 : Ieee.single.signWeight = 2147483648 := by decide
  have s2 : Ieee.single.binade = 8388608 := by decide
  have s3 : Ieee.single.infRung = 2139095040 := by decide
  have s4 : Ieee.single.leastPlace = -149 := by decide
  have hs : (x / 2147483648 % 2 == 1) = sgn x := by
    unfold sgn
    by_cases h : 2147483648 ≤ x
    · have : x / 2147483648 = 1 := by omega
      simp [this, h]
    · have : x / 2147483648 = 0 := by omega
      simp [this, h]
  unfold Ieee.Format.read
  simp only [s1, s2, s3, s4, hs]
  show (if rung x < _ then _ else _) = _
  unfold mg up
  by_cases h1 : rung x < 8388608
  · rw [if_pos h1, if_pos (by omega), if_pos h1, if_pos h1]; rfl
  · rw [if_neg h1]
    by_cases h2 : rung x < 2139095040
    · rw [if_pos (show x % 2147483648 < _ from h2), if_pos h2, if_neg h1, if_neg h1]; rfl
    · rw [if_neg (show ¬ x % 2147483648 < _ from h2), if_neg h2]; rfl

theorem cmp_int (a b : Int) : compare a b = if a < b then .lt else if a = b then .eq else .gt := rfl

theorem cmp_scale (a b : Int) (t : Nat) (ht : 0 < t) : compare a b = compare (a * t) (b * t) := by
  have h1 : a < b ↔ a * t < b * t := (Int.mul_lt_mul_right (by omega)).symm
  have h2 : a = b ↔ a * t = b * t := (Int.mul_eq_mul_right_iff (by omega)).symm
  rw [cmp_int, cmp_int]
  by_cases e1 : a < b
  · rw [if_pos e1, if_pos (h1.1 e1)]
  · rw [if_neg e1, if_neg (fun h => e1 (h1.2 h))]
    by_cases e2 : a = b
    · rw [if_pos e2, if_pos (h2.1 e2)]
    · rw [if_neg e2, if_neg (fun h => e2 (h2.2 h))]

theorem signed_mul (s : Bool) (m u t : Nat) : Ieee.signed s m u * (2 ^ t : Nat) = if s then -((m * 2 ^ (u + t) : Nat) : Int) else ((m * 2 ^ (u + t) : Nat) : Int) := by
  unfold Ieee.signed
  have e : ((m <<< u : Nat) : Int) * (2 ^ t : Nat) = ((m * 2 ^ (u + t) : Nat) : Int) := by
    rw [Nat.shiftLeft_eq, Nat.pow_add, ← Nat.mul_assoc]
    exact (Int.natCast_mul _ _).symm
  cases s
  · simpa using e
  · simp only [if_true]; rw [Int.neg_mul, e]

theorem cmp_vals (s t : Bool) (r q : Nat) :
    compare (if s then -((val r : Nat) : Int) else (val r : Int)) (if t then -((val q : Nat) : Int) else (val q : Int))
      = compare (if s then -(r : Int) else (r : Int)) (if t then -(q : Int) else (q : Int)) := by
  have h1 := val_lt_iff r q
  have h2 := val_lt_iff q r
  have h3 := val_lt_iff 0 r
  have h4 := val_lt_iff 0 q
  rw [val_zero] at h3 h4
  have h5 : val r = val q ↔ r = q := ⟨val_inj, fun h => by rw [h]⟩
  rw [cmp_int, cmp_int]
  cases s <;> cases t <;> simp only [if_true, if_false, Bool.false_eq_true] <;> (repeat' split) <;> first | rfl | omega

theorem order_eq (a b : Nat) (ha : a < 4294967296) (hb : b < 4294967296) :
    Ieee.single.order a b = if nanB a || nanB b then none else some (compare (place a) (place b)) := by
  unfold Ieee.Format.order
  rw [read_eq a ha, read_eq b hb]
  have ra : rung a < 2147483648 := by unfold rung; omega
  have rb : rung b < 2147483648 := by unfold rung; omega
  unfold nanB place
  generalize sgn a = s at *
  generalize sgn b = t at *
  generalize rung a = r at *
  generalize rung b = q at *
  by_cases a1 : r < 2139095040
  · rw [if_pos a1]
    have na : ¬ 2139095040 < r := by omega
    by_cases b1 : q < 2139095040
    · rw [if_pos b1]
      have nb : ¬ 2139095040 < q := by omega
      simp only [na, nb, decide_false, Bool.or_false, Bool.false_eq_true, if_false, Ieee.Datum.order]
      congr 1
      rw [← cmp_vals]
      have e1 : (-149 + (up r : Int) - min (-149 + (up r : Int)) (-149 + (up q : Int))).toNat = up r - min (up r) (up q) := by omega
      have e2 : (-149 + (up q : Int) - min (-149 + (up r : Int)) (-149 + (up q : Int))).toNat = up q - min (up r) (up q) := by omega
      rw [e1, e2, cmp_scale _ _ (2 ^ min (up r) (up q)) (Nat.two_pow_pos _), signed_mul, signed_mul]
      rw [show up r - min (up r) (up q) + min (up r) (up q) = up r by omega, show up q - min (up r) (up q) + min (up r) (up q) = up q by omega, mg_up, mg_up]
    · rw [if_neg b1]
      by_cases b2 : q = 2139095040
      · rw [if_pos b2]; subst b2
        simp only [na, decide_false, Nat.lt_irrefl, Bool.or_false, Bool.false_eq_true, if_false, Ieee.Datum.order]
        rw [cmp_int]
        cases s <;> cases t <;> simp only [if_true, if_false, Bool.false_eq_true] <;> (repeat' split) <;> first | rfl | omega
      · rw [if_neg b2]
        have nb : 2139095040 < q := by omega
        simp [nb, Ieee.Datum.order]
  · rw [if_neg a1]
    by_cases a2 : r = 2139095040
    · rw [if_pos a2]; subst a2
      by_cases b1 : q < 2139095040
      · rw [if_pos b1]
        have nb : ¬ 2139095040 < q := by omega
        simp only [nb, decide_false, Nat.lt_irrefl, Bool.or_false, Bool.false_eq_true, if_false, Ieee.Datum.order]
        rw [cmp_int]
        cases s <;> cases t <;> simp only [if_true, if_false, Bool.false_eq_true] <;> (repeat' split) <;> first | rfl | omega
      · rw [if_neg b1]
        by_cases b2 : q = 2139095040
        · rw [if_pos b2]; subst b2
          simp only [decide_false, Nat.lt_irrefl, Bool.or_false, Bool.false_eq_true, if_false, Ieee.Datum.order]
          rw [cmp_int]
          cases s <;> cases t <;> decide
        · rw [if_neg b2]
          have nb : 2139095040 < q := by omega
          simp [nb, Ieee.Datum.order]
    · rw [if_neg a2]
      have na : 2139095040 < r := by omega
      simp [na, Ieee.Datum.order]

def finB (a : Nat) : Bool := decide (rung a < 2139095040)

theorem log2_eq {n k : Nat} (h1 : 2 ^ k ≤ n) (h2 : n < 2 ^ (k + 1)) : n.log2 = k := by
  have hn : n ≠ 0 := by have := Nat.two_pow_pos k; omega
  have a1 : k ≤ n.log2 := (Nat.le_log2 hn).2 h1
  have a2 : n.log2 < k + 1 := (Nat.log2_lt hn).2 h2
  omega
theorem log2_mul {n d : Nat} (hn : n ≠ 0) : (n * 2 ^ d).log2 = n.log2 + d := by
  have h1 := Nat.log2_self_le hn
  have h2 := Nat.lt_log2_self (n := n)
  refine log2_eq ?_ ?_
  · rw [Nat.pow_add]; exact Nat.mul_le_mul_right _ h1
  · rw [show n.log2 + d + 1 = n.log2 + 1 + d by omega, Nat.pow_add]
    exact Nat.mul_lt_mul_of_pos_right h2 (Nat.two_pow_pos _)
theorem cut_exact (neg : Bool) (M d : Nat) (hM : M ≠ 0) : Ieee.Toward.even.cut neg (M * 2 ^ d) d = M := by
  unfold Ieee.Toward.cut
  have hl := log2_mul (d := d) hM
  have hm : min d ((M * 2 ^ d).log2 + 2) = d := by omega
  have hp := Nat.two_pow_pos d
  simp only [hm, Nat.one_shiftLeft]
  rw [Nat.mul_div_cancel _ hp, Nat.mul_mod_left]
  have : ¬ (2 ^ d < 2 * 0) := by omega
  have h3 : (2 ^ d == 2 * 0) = false := by simp
  simp [h3]

/-- The number M 2^(U - 149), M of at most 24 bits, and of just 24 unless U is 0: its rung, or infinity's. -/
theorem nearest_val (neg : Bool) (m : Nat) (p : Int) (M U : Nat) (hM : M < 16777216) (hM0 : M ≠ 0) (hU : U = 0 ∨ 8388608 ≤ M)
    (h : (∃ d : Nat, p = (U : Int) - 149 + d ∧ m * 2 ^ d = M) ∨ (∃ d : Nat, p + d = (U : Int) - 149 ∧ m = M * 2 ^ d)) :
    Ieee.single.nearest neg m p = Ieee.single.word neg (min (U * 8388608 + M) 2139095040) := by
  have s2 : Ieee.single.binade = 8388608 := by decide
  have s3 : Ieee.single.infRung = 2139095040 := by decide
  have s4 : Ieee.single.leastPlace = -149 := by decide
  have s5 : (Ieee.single.fractionBits : Int) = 23 := by decide
  have hlM : M.log2 < 24 := (Nat.log2_lt hM0).2 (by omega)
  have hlM2 : U = 0 ∨ M.log2 = 23 := by
    rcases hU with h | h
    · exact Or.inl h
    · exact Or.inr (log2_eq (by omega) (by omega))
  unfold Ieee.Format.nearest
  simp only [s2, s3, s4, s5]
  rcases h with ⟨d, hp, hm⟩ | ⟨d, hp, hm⟩
  · have hm0 : m ≠ 0 := by intro e; rw [e] at hm; omega
    have hl : M.log2 = m.log2 + d := by rw [← hm]; exact log2_mul hm0
    rw [if_neg hm0]
    have hlast : max (p + (m.log2 : Int) - 23) (-149) = (U : Int) - 149 := by omega
    rw [hlast]
    have e1 : (p - ((U : Int) - 149)).toNat = d := by omega
    have e2 : ((U : Int) - 149 - p).toNat = 0 := by omega
    have e3 : ((U : Int) - 149 - -149).toNat = U := by omega
    rw [e1, e2, e3, Nat.shiftLeft_eq, hm]
    have := cut_exact neg M 0 hM0
    rw [Nat.pow_zero, Nat.mul_one] at this
    rw [this]
  · have hm0 : m ≠ 0 := by
      intro e; rw [e] at hm
      have := Nat.mul_pos (Nat.pos_of_ne_zero hM0) (Nat.two_pow_pos d)
      omega
    have hl : m.log2 = M.log2 + d := by rw [hm]; exact log2_mul hM0
    rw [if_neg hm0]
    have hlast : max (p + (m.log2 : Int) - 23) (-149) = (U : Int) - 149 := by omega
    rw [hlast]
    have e1 : (p - ((U : Int) - 149)).toNat = 0 := by omega
    have e2 : ((U : Int) - 149 - p).toNat = d := by omega
    have e3 : ((U : Int) - 149 - -149).toNat = U := by omega
    rw [e1, e2, e3, Nat.shiftLeft_zero, hm, cut_exact neg M d hM0]

theorem word_pos (r : Nat) : Ieee.single.word false r = r := rfl
theorem word_neg (r : Nat) : Ieee.single.word true r = 2147483648 + r := by
  have s1 : Ieee.single.signWeight = 2147483648 := by decide
  unfold Ieee.Format.word; rw [s1]; rfl

/-- A rung by its magnitude and its binade. -/
theorem rung_mg (r : Nat) : r = up r * 8388608 + mg r := by unfold up mg; split <;> omega
theorem mg_up_ok (r : Nat) : up r = 0 ∨ 8388608 ≤ mg r := by unfold up mg; split <;> omega
theorem mg_of {U M : Nat} (hM : M < 16777216) (hU : U = 0 ∨ 8388608 ≤ M) : mg (U * 8388608 + M) = M ∧ up (U * 8388608 + M) = U := by
  unfold mg up
  rcases hU with h | h
  · subst h; (repeat' split) <;> omega
  · (repeat' split) <;> omega

/-- What a finite word stands for. -/
theorem read_fin {x : Nat} (hx : x < 4294967296) (hf : finB x = true) : Ieee.single.read x = .number (sgn x) (mg (rung x)) (-149 + (up (rung x) : Nat)) := by
  rw [read_eq x hx, if_pos (by simpa [finB] using hf)]
end Go.Proofs.YtlmmjbllbjeoiaaGreatDoor.S
