/- Rounding any number to a float: which rung it comes to, told by the middles below it; as for narrow floats. -/
import Ieee.Arith
import Derived.Test.YtlhoidkfphellaaDoorZg
namespace Go.Proofs.YtlhoidkfphellaaDoor.S

/-- The word without its sign bit. -/
def rung (x : Nat) : Nat := x % 2147483648
def sgn (x : Nat) : Bool := decide (2147483648 ≤ x)
def nanB (x : Nat) : Bool := decide (2139095040 < rung x)
def place (x : Nat) : Int := if sgn x then -(rung x : Int) else (rung x : Int)

/-- What a rung below infinity's stands for, in units of 2^-149. -/
def val (r : Nat) : Nat := if r < 8388608 then r else (8388608 + r % 8388608) * 2 ^ (r / 8388608 - 1)

theorem val_step (r : Nat) : val r < val (r + 1) := by
  unfold val
  by_cases h1 : r + 1 < 8388608
  · rw [if_pos (by omega), if_pos h1]; omega
  · by_cases h2 : r < 8388608
    · rw [if_pos h2, if_neg h1]
      have e : r + 1 = 8388608 := by omega
      rw [e]; simp; omega
    · rw [if_neg h2, if_neg h1]
      by_cases h3 : r % 8388608 + 1 < 8388608
      · have e1 : (r + 1) % 8388608 = r % 8388608 + 1 := by omega
        have e2 : (r + 1) / 8388608 = r / 8388608 := by omega
        rw [e1, e2]
        exact Nat.mul_lt_mul_of_pos_right (by omega) (Nat.two_pow_pos _)
      · have e1 : (r + 1) % 8388608 = 0 := by omega
        have e2 : (r + 1) / 8388608 - 1 = (r / 8388608 - 1) + 1 := by omega
        have e3 : r % 8388608 = 8388607 := by omega
        rw [e1, e2, e3, Nat.pow_succ]
        have := Nat.two_pow_pos (r / 8388608 - 1)
        generalize 2 ^ (r / 8388608 - 1) = t at *
        omega

theorem val_lt {r s : Nat} (h : r < s) : val r < val s := by
  induction s with
  | zero => omega
  | succ s ih =>
    by_cases e : r = s
    · subst e; exact val_step r
    · exact Nat.lt_trans (ih (by omega)) (val_step s)

theorem val_lt_iff (r s : Nat) : val r < val s ↔ r < s := by
  constructor
  · intro h
    by_cases e : r < s
    · exact e
    · by_cases e2 : r = s
      · subst e2; omega
      · have := val_lt (show s < r by omega); omega
  · exact val_lt

theorem val_inj {r s : Nat} (h : val r = val s) : r = s := by
  by_cases e : r < s
  · have := val_lt e; omega
  · by_cases e2 : s < r
    · have := val_lt e2; omega
    · omega

theorem val_zero : val 0 = 0 := by simp [val]

def mg (r : Nat) : Nat := if r < 8388608 then r else 8388608 + r % 8388608
def up (r : Nat) : Nat := if r < 8388608 then 0 else r / 8388608 - 1

theorem mg_up (r : Nat) : mg r * 2 ^ up r = val r := by
  unfold mg up val
  split <;> simp

theorem read_eq (x : Nat) (hx : x < 4294967296) : Ieee.single.read x =
    if rung x < 2139095040 then .number (sgn x) (mg (rung x)) (-149 + (up (rung x) : Nat))
    else if rung x = 2139095040 then .infinity (sgn x) else .nan (sgn x) (rung x - 2139095040) := by
  have s1 : Ieee.single.signWeight = 2147483648 := by decide
  have s2 : Ieee.single.binade = 8388608 := by decide
  have s3 : Ieee.single.infRung = 2139095040 := by decide
  have s4 : Ieee.single.leastPlace = -149 := by decide
  have hs : (x / 2147483648 % 2 == 1) = sgn x := by
    unfold sgn
    by_cases h : 2147483648 ≤ x
    · have : x / 2147483648 = 1 := by omega
      simp [this, h]
    · have : x / 2147483648 = 0 := by omega
      simp [this, h]
  unfold Ieee.Format.read
  simp only [s1, s2, s3, s4, hs]
  show (if rung x < _ then _ else _) = _
  unfold mg up
  by_cases h1 : rung x < 8388608
  · rw [if_pos h1, if_pos (by omega), if_pos h1, if_pos h1]; rfl
  · rw [if_neg h1]
    by_cases h2 : rung x < 2139095040
    · rw [if_pos (show x % 2147483648 < _ from h2), if_pos h2, if_neg h1, if_neg h1]; rfl
    · rw [if_neg (show ¬ x % 2147483648 < _ from h2), if_neg h2]; rfl

theorem cmp_int (a b : Int) : compare a b = if a < b then .lt else if a = b then .eq else .gt := rfl

theorem cmp_scale (a b : Int) (t : Nat) (ht : 0 < t) : compare a b = compare (a * t) (b * t) := by
  have h1 : a < b ↔ a * t < b * t := (Int.mul_lt_mul_right (by omega)).symm
  have h2 : a = b ↔ a * t = b * t := (Int.mul_eq_mul_right_iff (by omega)).symm
  rw [cmp_int, cmp_int]
  by_cases e1 : a < b
  · rw [if_pos e1, if_pos (h1.1 e1)]
  · rw [if_neg e1, if_neg (fun h => e1 (h1.2 h))]
    by_cases e2 : a = b
    · rw [if_pos e2, if_pos (h2.1 e2)]
    · rw [if_neg e2, if_neg (fun h => e2 (h2.2 h))]

theorem signed_mul (s : Bool) (m u t : Nat) : Ieee.signed s m u * (2 ^ t : Nat) = if s then -((m * 2 ^ (u + t) : Nat) : Int) else ((m * 2 ^ (u + t) : Nat) : Int) := by
  unfold Ieee.signed
  have e : ((m <<< u : Nat) : Int) * (2 ^ t : Nat) = ((m * 2 ^ (u + t) : Nat) : Int) := by
    rw [Nat.shiftLeft_eq, Nat.pow_add, ← Nat.mul_assoc]
    exact (Int.natCast_mul _ _).symm
  cases s
  · simpa using e
  · simp only [if_true]; rw [Int.neg_mul, e]

theorem cmp_vals (s t : Bool) (r q : Nat) :
    compare (if s then -((val r : Nat) : Int) else (val r : Int)) (if t then -((val q : Nat) : Int) else (val q : Int))
      = compare (if s then -(r : Int) else (r : Int)) (if t then -(q : Int) else (q : Int)) := by
  have h1 := val_lt_iff r q
  have h2 := val_lt_iff q r
  have h3 := val_lt_iff 0 r
  have h4 := val_lt_iff 0 q
  rw [val_zero] at h3 h4
  have h5 : val r = val q ↔ r = q := ⟨val_inj, fun h => by rw [h]⟩
  rw [cmp_int, cmp_int]
  cases s <;> cases t <;> simp only [if_true, if_false, Bool.false_eq_true] <;> (repeat' split) <;> first | rfl | omega

theorem order_eq (a b : Nat) (ha : a < 4294967296) (hb : b < 4294967296) :
    Ieee.single.order a b = if nanB a || nanB b then none else some (compare (place a) (place b)) := by
  unfold Ieee.Format.order
  rw [read_eq a ha, read_eq b hb]
  have ra : rung a < 2147483648 := by unfold rung; omega
  have rb : rung b < 2147483648 := by unfold rung; omega
  unfold nanB place
  generalize sgn a = s at *
  generalize sgn b = t at *
  generalize rung a = r at *
  generalize rung b = q at *
  by_cases a1 : r < 2139095040
  · rw [if_pos a1]
    have na : ¬ 2139095040 < r := by omega
    by_cases b1 : q < 2139095040
    · rw [if_pos b1]
      have nb : ¬ 2139095040 < q := by omega
      simp only [na, nb, decide_false, Bool.or_false, Bool.false_eq_true, if_false, Ieee.Datum.order]
      congr 1
      rw [← cmp_vals]
      have e1 : (-149 + (up r : Int) - min (-149 + (up r : Int)) (-149 + (up q : Int))).toNat = up r - min (up r) (up q) := by omega
      have e2 : (-149 + (up q : Int) - min (-149 + (up r : Int)) (-149 + (up q : Int))).toNat = up q - min (up r) (up q) := by omega
      rw [e1, e2, cmp_scale _ _ (2 ^ min (up r) (up q)) (Nat.two_pow_pos _), signed_mul, signed_mul]
      rw [show up r - min (up r) (up q) + min (up r) (up q) = up r by omega, show up q - min (up r) (up q) + min (up r) (up q) = up q by omega, mg_up, mg_up]
    · rw [if_neg b1]
      by_cases b2 : q = 2139095040
      · rw [if_pos b2]; subst b2
        simp only [na, decide_false, Nat.lt_irrefl, Bool.or_false, Bool.false_eq_true, if_false, Ieee.Datum.order]
        rw [cmp_int]
        cases s <;> cases t <;> simp only [if_true, if_false, Bool.false_eq_true] <;> (repeat' split) <;> first | rfl | omega
      · rw [if_neg b2]
        have nb : 2139095040 < q := by omega
        simp [nb, Ieee.Datum.order]
  · rw [if_neg a1]
    by_cases a2 : r = 2139095040
    · rw [if_pos a2]; subst a2
      by_cases b1 : q < 2139095040
      · rw [if_pos b1]
        have nb : ¬ 2139095040 < q := by omega
        simp only [nb, decide_false, Nat.lt_irrefl, Bool.or_false, Bool.false_eq_true, if_false, Ieee.Datum.order]
        rw [cmp_int]
        cases s <;> cases t <;> simp only [if_true, if_false, Bool.false_eq_true] <;> (repeat' split) <;> first | rfl | omega
      · rw [if_neg b1]
        by_cases b2 : q = 2139095040
        · rw [if_pos b2]; subst b2
          simp only [decide_false, Nat.lt_irrefl, Bool.or_false, Bool.false_eq_true, if_false, Ieee.Datum.order]
          rw [cmp_int]
          cases s <;> cases t <;> decide
        · rw [if_neg b2]
          have nb : 2139095040 < q := by omega
          simp [nb, Ieee.Datum.order]
    · rw [if_neg a2]
      have na : 2139095040 < r := by omega
      simp [na, Ieee.Datum.order]

def finB (a : Nat) : Bool := decide (rung a < 2139095040)

theorem log2_eq {n k : Nat} (h1 : 2 ^ k ≤ n) (h2 : n < 2 ^ (k + 1)) : n.log2 = k := by
  have hn : n ≠ 0 := by have := Nat.two_pow_pos k; omega
  have a1 : k ≤ n.log2 := (Nat.le_log2 hn).2 h1
  have a2 : n.log2 < k + 1 := (Nat.log2_lt hn).2 h2
  omega
theorem log2_mul {n d : Nat} (hn : n ≠ 0) : (n * 2 ^ d).log2 = n.log2 + d := by
  have h1 := Nat.log2_self_le hn
  have h2 := Nat.lt_log2_self (n := n)
  refine log2_eq ?_ ?_
  · rw [Nat.pow_add]; exact Nat.mul_le_mul_right _ h1
  · rw [show n.log2 + d + 1 = n.log2 + 1 + d by omega, Nat.pow_add]
    exact Nat.mul_lt_mul_of_pos_right h2 (Nat.two_pow_pos _)
theorem cut_exact (neg : Bool) (M d : Nat) (hM : M ≠ 0) : Ieee.Toward.even.cut neg (M * 2 ^ d) d = M := by
  unfold Ieee.Toward.cut
  have hl := log2_mul (d := d) hM
  have hm : min d ((M * 2 ^ d).log2 + 2) = d := by omega
  have hp := Nat.two_pow_pos d
  simp only [hm, Nat.one_shiftLeft]
  rw [Nat.mul_div_cancel _ hp, Nat.mul_mod_left]
  have : ¬ (2 ^ d < 2 * 0) := by omega
  have h3 : (2 ^ d == 2 * 0) = false := by simp
  simp [h3]

/-- The number M 2^(U - 149), M of at most 24 bits, and of just 24 unless U is 0: its rung, or infinity's. -/
theorem nearest_val (neg : Bool) (m : Nat) (p : Int) (M U : Nat) (hM : M < 16777216) (hM0 : M ≠ 0) (hU : U = 0 ∨ 8388608 ≤ M)
    (h : (∃ d : Nat, p = (U : Int) - 149 + d ∧ m * 2 ^ d = M) ∨ (∃ d : Nat, p + d = (U : Int) - 149 ∧ m = M * 2 ^ d)) :
    Ieee.single.nearest neg m p = Ieee.single.word neg (min (U * 8388608 + M) 2139095040) := by
  have s2 : Ieee.single.binade = 8388608 := by decide
  have s3 : Ieee.single.infRung = 2139095040 := by decide
  have s4 : Ieee.single.leastPlace = -149 := by decide
  have s5 : (Ieee.single.fractionBits : Int) = 23 := by decide
  have hlM : M.log2 < 24 := (Nat.log2_lt hM0).2 (by omega)
  have hlM2 : U = 0 ∨ M.log2 = 23 := by
    rcases hU with h | h
    · exact Or.inl h
    · exact Or.inr (log2_eq (by omega) (by omega))
  unfold Ieee.Format.nearest
  simp only [s2, s3, s4, s5]
  rcases h with ⟨d, hp, hm⟩ | ⟨d, hp, hm⟩
  · have hm0 : m ≠ 0 := by intro e; rw [e] at hm; omega
    have hl : M.log2 = m.log2 + d := by rw [← hm]; exact log2_mul hm0
    rw [if_neg hm0]
    have hlast : max (p + (m.log2 : Int) - 23) (-149) = (U : Int) - 149 := by omega
    rw [hlast]
    have e1 : (p - ((U : Int) - 149)).toNat = d := by omega
    have e2 : ((U : Int) - 149 - p).toNat = 0 := by omega
    have e3 : ((U : Int) - 149 - -149).toNat = U := by omega
    rw [e1, e2, e3, Nat.shiftLeft_eq, hm]
    have := cut_exact neg M 0 hM0
    rw [Nat.pow_zero, Nat.mul_one] at this
    rw [this]
  · have hm0 : m ≠ 0 := by
      intro e; rw [e] at hm
      have := Nat.mul_pos (Nat.pos_of_ne_zero hM0) (Nat.two_pow_pos d)
      omega
    have hl : m.log2 = M.log2 + d := by rw [hm]; exact log2_mul hM0
    rw [if_neg hm0]
    have hlast : max (p + (m.log2 : Int) - 23) (-149) = (U : Int) - 149 := by omega
    rw [hlast]
    have e1 : (p - ((U : Int) - 149)).toNat = 0 := by omega
    have e2 : ((U : Int) - 149 - p).toNat = d := by omega
    have e3 : ((U : Int) - 149 - -149).toNat = U := by omega
    rw [e1, e2, e3, Nat.shiftLeft_zero, hm, cut_exact neg M d hM0]

theorem word_pos (r : Nat) : Ieee.single.word false r = r := rfl
theorem word_neg (r : Nat) : Ieee.single.word true r = 2147483648 + r := by
  have s1 : Ieee.single.signWeight = 2147483648 := by decide
  unfold Ieee.Format.word; rw [s1]; rfl

/-- A rung by its magnitude and its binade. -/
theorem rung_mg (r : Nat) : r = up r * 8388608 + mg r := by unfold up mg; split <;> omega
theorem mg_up_ok (r : Nat) : up r = 0 ∨ 8388608 ≤ mg r := by unfold up mg; split <;> omega
theorem mg_of {U M : Nat} (hM : M < 16777216) (hU : U = 0 ∨ 8388608 ≤ M) : mg (U * 8388608 + M) = M ∧ up (U * 8388608 + M) = U := by
  unfold mg up
  rcases hU with h | h
  · subst h; (repeat' split) <;> omega
  · (repeat' split) <;> omega

/-- What a finite word stands for. -/
theorem read_fin {x : Nat} (hx : x < 4294967296) (hf : finB x = true) : Ieee.single.read x = .number (sgn x) (mg (rung x)) (-149 + (up (rung x) : Nat)) := by
  rw [read_eq x hx, if_pos (by simpa [finB] using hf)]
end Go.Proofs.YtlhoidkfphellaaDoor.S

namespace Go.Proofs.YtlhoidkfphellaaDoor
open Go.RowKit

/-- The rung, among floats, of what a rung of narrow floats stands for. -/
def wd (r : Nat) : Nat := if r = 0 then 0 else (S.up r + 873 + (S.mg r).log2) * 4503599627370496 + S.mg r * 2 ^ (52 - (S.mg r).log2)
theorem s_mg_lt (r : Nat) : S.mg r < 16777216 := by unfold S.mg; split <;> omega
theorem s_mg_ne {r : Nat} (h : r ≠ 0) : S.mg r ≠ 0 := by unfold S.mg; split <;> omega
theorem s_log {r : Nat} (h : r ≠ 0) : (S.mg r).log2 ≤ 23 := by
  have := (Nat.log2_lt (s_mg_ne h)).2 (show S.mg r < 2 ^ 24 from s_mg_lt r)
  omega
theorem s_full {r : Nat} (h : r ≠ 0) : 4503599627370496 ≤ S.mg r * 2 ^ (52 - (S.mg r).log2) ∧ S.mg r * 2 ^ (52 - (S.mg r).log2) < 9007199254740992 := by
  have h1 := Nat.log2_self_le (s_mg_ne h)
  have h2 := Nat.lt_log2_self (n := S.mg r)
  have hl := s_log h
  have e : (2 : Nat) ^ (S.mg r).log2 * 2 ^ (52 - (S.mg r).log2) = 4503599627370496 := by
    rw [← Nat.pow_add, show (S.mg r).log2 + (52 - (S.mg r).log2) = 52 by omega]
  have hp := Nat.two_pow_pos (52 - (S.mg r).log2)
  constructor
  · rw [← e]; exact Nat.mul_le_mul_right _ h1
  · have e2 : (2 : Nat) ^ ((S.mg r).log2 + 1) * 2 ^ (52 - (S.mg r).log2) = 9007199254740992 := by
      rw [Nat.pow_succ, Nat.mul_right_comm, e]
    rw [← e2]; exact Nat.mul_lt_mul_of_pos_right h2 hp
theorem wd_mg {r : Nat} (h : r ≠ 0) : mg (wd r) = S.mg r * 2 ^ (52 - (S.mg r).log2) ∧ up (wd r) = S.up r + 873 + (S.mg r).log2 := by
  obtain ⟨h1, h2⟩ := s_full h
  have e : wd r = (S.up r + 873 + (S.mg r).log2) * 4503599627370496 + S.mg r * 2 ^ (52 - (S.mg r).log2) := by unfold wd; rw [if_neg h]
  rw [e]
  exact mg_of h2 (Or.inr h1)
def gapS : Nat := 925
theorem wd_val (r : Nat) : val (wd r) = S.val r * 2 ^ gapS := by
  have hg : gapS = 925 := rfl
  by_cases h : r = 0
  · subst h
    rw [show wd 0 = 0 from rfl, val_zero, S.val_zero, Nat.zero_mul]
  · obtain ⟨h1, h2⟩ := wd_mg h
    have hl := s_log h
    rw [← mg_up, ← S.mg_up, h1, h2, Nat.mul_assoc, Nat.mul_assoc, ← Nat.pow_add, ← Nat.pow_add]
    congr 2
    omega
theorem wd_lt_iff (r q : Nat) : wd r < wd q ↔ r < q := by
  rw [← val_lt_iff, wd_val, wd_val, ← S.val_lt_iff r q]
  have hp := Nat.two_pow_pos gapS
  generalize 2 ^ gapS = t at *
  exact Nat.mul_lt_mul_right hp
theorem wd_inj {r q : Nat} (h : wd r = wd q) : r = q := by
  have h1 := wd_lt_iff r q
  have h2 := wd_lt_iff q r
  omega
theorem wd_zero : wd 0 = 0 := rfl
theorem wd_fin {r : Nat} (h : r < 2139095040) : wd r < 5205706080661602304 := by
  by_cases h0 : r = 0
  · subst h0; decide
  · obtain ⟨h1, h2⟩ := s_full h0
    have hl := s_log h0
    have hu : S.up r ≤ 253 := by unfold S.up; split <;> omega
    unfold wd
    rw [if_neg h0]
    have : (S.up r + 873 + (S.mg r).log2) * 4503599627370496 ≤ 1149 * 4503599627370496 := Nat.mul_le_mul_right _ (by omega)
    omega
/-- The rung of what stands at a narrow rung, the infinity's too. -/
def wr (r : Nat) : Nat := if r = 2139095040 then 9218868437227405312 else wd r
theorem wr_lt_iff {r q : Nat} (hr : r ≤ 2139095040) (hq : q ≤ 2139095040) : wr r < wr q ↔ r < q := by
  have h := wd_lt_iff r q
  unfold wr
  by_cases e1 : r = 2139095040
  · rw [if_pos e1]
    by_cases e2 : q = 2139095040
    · rw [if_pos e2]; omega
    · rw [if_neg e2]
      have := wd_fin (show q < 2139095040 by omega)
      omega
  · rw [if_neg e1]
    have := wd_fin (show r < 2139095040 by omega)
    by_cases e2 : q = 2139095040
    · rw [if_pos e2]; omega
    · rw [if_neg e2]; exact h
theorem wr_le {r : Nat} (hr : r ≤ 2139095040) : wr r ≤ 9218868437227405312 := by
  unfold wr
  split
  · omega
  · have := wd_fin (show r < 2139095040 by omega); omega
theorem wr_zero : wr 0 = 0 := rfl
/-- The float that a narrow one is, NaN left aside. -/
def bk (b : Nat) : Nat := Ieee.double.word (S.sgn b) (wr (S.rung b))
theorem s_rung_lt (a : Nat) : S.rung a < 2147483648 := by unfold S.rung; omega
theorem s_rung_of (a : Nat) (ha : a < 4294967296) : a = if S.sgn a then 2147483648 + S.rung a else S.rung a := by
  unfold S.sgn S.rung
  by_cases h : 2147483648 ≤ a
  · simp [h]; omega
  · simp [h]; omega
theorem s_nan_le {b : Nat} (h : S.nanB b = false) : S.rung b ≤ 2139095040 := by
  unfold S.nanB at h; simpa using h
theorem bk_parts {b : Nat} (h : S.nanB b = false) : rung (bk b) = wr (S.rung b) ∧ sgn (bk b) = S.sgn b ∧ bk b < 18446744073709551616 ∧ nanB (bk b) = false := by
  have hw := wr_le (s_nan_le h)
  unfold bk
  cases S.sgn b
  · rw [word_pos]
    have e : rung (wr (S.rung b)) = wr (S.rung b) := by unfold rung; omega
    refine ⟨e, ?_, by omega, ?_⟩
    · unfold sgn; simp; omega
    · unfold nanB; rw [e]; simp; omega
  · rw [word_neg]
    have e : rung (9223372036854775808 + wr (S.rung b)) = wr (S.rung b) := by unfold rung; omega
    refine ⟨e, ?_, by omega, ?_⟩
    · unfold sgn; simp
    · unfold nanB; rw [e]; simp; omega
theorem bk_fin {b : Nat} (h : S.nanB b = false) : finB (bk b) = S.finB b := by
  unfold finB S.finB
  rw [(bk_parts h).1]
  have := wr_lt_iff (s_nan_le h) (Nat.le_refl 2139095040)
  rw [decide_eq_decide, ← this]
  unfold wr; simp
theorem bk_place {a b : Nat} (ha : S.nanB a = false) (hb : S.nanB b = false) : place (bk a) < place (bk b) ↔ S.place a < S.place b := by
  obtain ⟨a1, a2, _, _⟩ := bk_parts ha
  obtain ⟨b1, b2, _, _⟩ := bk_parts hb
  have la := s_nan_le ha
  have lb := s_nan_le hb
  have h1 := wr_lt_iff la lb
  have h2 := wr_lt_iff lb la
  have h3 := wr_lt_iff (Nat.zero_le 2139095040) la
  have h4 := wr_lt_iff (Nat.zero_le 2139095040) lb
  rw [wr_zero] at h3 h4
  unfold place S.place
  rw [a1, a2, b1, b2]
  cases S.sgn a <;> cases S.sgn b <;> simp only [if_true, if_false, Bool.false_eq_true] <;> omega
theorem bk_place_eq {a b : Nat} (ha : S.nanB a = false) (hb : S.nanB b = false) : place (bk a) = place (bk b) ↔ S.place a = S.place b := by
  have h1 := bk_place ha hb
  have h2 := bk_place hb ha
  omega
/-- What a finite narrow word stands for. -/
theorem s_read_fin {x : Nat} (hx : x < 4294967296) (hf : S.finB x = true) : Ieee.single.read x = .number (S.sgn x) (S.mg (S.rung x)) (-149 + (S.up (S.rung x) : Nat)) := S.read_fin hx hf
/-- A finite narrow float, told as a float. -/
theorem wide_fin {x : Nat} (hf : S.finB x = true) : Ieee.double.nearest (S.sgn x) (S.mg (S.rung x)) (-149 + (S.up (S.rung x) : Nat)) = bk x := by
  have hlt : S.rung x < 2139095040 := by simpa [S.finB] using hf
  have hw : wr (S.rung x) = wd (S.rung x) := by unfold wr; rw [if_neg (by omega)]
  unfold bk
  rw [hw]
  by_cases h0 : S.rung x = 0
  · rw [h0, show S.mg 0 = 0 from rfl, wd_zero]
    unfold Ieee.Format.nearest
    rw [if_pos rfl]
  · obtain ⟨h1, h2⟩ := s_full h0
    have hl := s_log h0
    have hwf := wd_fin hlt
    have e : wd (S.rung x) = (S.up (S.rung x) + 873 + (S.mg (S.rung x)).log2) * 4503599627370496 + S.mg (S.rung x) * 2 ^ (52 - (S.mg (S.rung x)).log2) := by unfold wd; rw [if_neg h0]
    rw [nearest_val (S.sgn x) _ _ (S.mg (S.rung x) * 2 ^ (52 - (S.mg (S.rung x)).log2)) (S.up (S.rung x) + 873 + (S.mg (S.rung x)).log2) h2 (by omega) (Or.inr h1) (Or.inl ⟨52 - (S.mg (S.rung x)).log2, by omega, rfl⟩), ← e, Nat.min_eq_left (by omega)]
/-- Rounding the float of a narrow float gives it back. -/
theorem narrow_bk {x : Nat} (hx : x < 4294967296) (hf : S.finB x = true) : Ieee.single.nearest (sgn (bk x)) (mg (rung (bk x))) (-1074 + (up (rung (bk x)) : Nat)) = x := by
  have hlt : S.rung x < 2139095040 := by simpa [S.finB] using hf
  have hn : S.nanB x = false := by unfold S.nanB; simp; omega
  obtain ⟨p1, p2, _, _⟩ := bk_parts hn
  have hw : wr (S.rung x) = wd (S.rung x) := by unfold wr; rw [if_neg (by omega)]
  have hx' : Ieee.single.word (S.sgn x) (S.rung x) = x := by
    have h := s_rung_of x hx
    have s1 : Ieee.single.signWeight = 2147483648 := by decide
    unfold Ieee.Format.word
    rw [s1]
    exact h.symm
  rw [p1, p2, hw]
  by_cases h0 : S.rung x = 0
  · rw [h0, wd_zero, show mg 0 = 0 from rfl]
    unfold Ieee.Format.nearest
    rw [if_pos rfl]
    rw [h0] at hx'
    exact hx'
  · obtain ⟨h1, h2⟩ := wd_mg h0
    have hl := s_log h0
    rw [h1, h2, S.nearest_val (S.sgn x) _ _ (S.mg (S.rung x)) (S.up (S.rung x)) (s_mg_lt _) (s_mg_ne h0) (S.mg_up_ok _) (Or.inr ⟨52 - (S.mg (S.rung x)).log2, by omega, rfl⟩), ← S.rung_mg, Nat.min_eq_left (by omega)]
    exact hx'
end Go.Proofs.YtlhoidkfphellaaDoor

namespace Go.Proofs.YtlhoidkfphellaaDoor
open Go.RowKit

/-- What 'cut' keeps, by its exact gap. -/
theorem cut_even (neg : Bool) (n d : Nat) : Ieee.Toward.even.cut neg n d = n / 2 ^ d + (decide (2 ^ d < 2 * (n % 2 ^ d)) || (decide (2 ^ d = 2 * (n % 2 ^ d)) && n / 2 ^ d % 2 == 1)).toNat := by
  unfold Ieee.Toward.cut
  by_cases hd : d ≤ n.log2 + 2
  · simp only [Nat.min_eq_left hd, Nat.one_shiftLeft]
    congr 2
  · simp only [Nat.min_eq_right (show n.log2 + 2 ≤ d by omega), Nat.one_shiftLeft]
    have hn : n < 2 ^ (n.log2 + 1) := Nat.lt_log2_self
    have h2 : (2 : Nat) ^ (n.log2 + 2) = 2 * 2 ^ (n.log2 + 1) := by rw [Nat.pow_succ, Nat.mul_comm]
    have h3 : (2 : Nat) ^ (n.log2 + 2) ≤ 2 ^ d := Nat.pow_le_pow_right (by omega) (by omega)
    have e1 : n / 2 ^ (n.log2 + 2) = 0 := Nat.div_eq_of_lt (by omega)
    have e2 : n % 2 ^ (n.log2 + 2) = n := Nat.mod_eq_of_lt (by omega)
    have e3 : n / 2 ^ d = 0 := Nat.div_eq_of_lt (by omega)
    have e4 : n % 2 ^ d = n := Nat.mod_eq_of_lt (by omega)
    rw [e1, e2, e3, e4]
    have a1 : ¬ 2 ^ (n.log2 + 2) < 2 * n := by omega
    have a2 : ¬ 2 ^ d < 2 * n := by omega
    have a3 : ¬ 2 ^ d = 2 * n := by omega
    simp [a1, a2, a3]
/-- The place of the last digit that is kept of a float's size, above 2^-149; and how many digits are dropped. -/
def nU (R : Nat) : Nat := up R + (mg R).log2 - 948
def nD (R : Nat) : Nat := nU R + 925 - up R
theorem n_up (R : Nat) : up R = 0 ∨ (mg R).log2 = 52 := by
  rcases mg_up_ok R with h | h
  · exact Or.inl h
  · exact Or.inr (log2_eq (by omega) (by have := mg_lt R; omega))
theorem n_log {R : Nat} (h0 : R ≠ 0) : (mg R).log2 ≤ 52 := by
  have := (Nat.log2_lt (mg_ne h0)).2 (show mg R < 2 ^ 53 from mg_lt R)
  omega
/-- The narrow rung at or right below a size; is the next one taken? -/
def flr (R : Nat) : Nat := nU R * 8388608 + mg R / 2 ^ nD R
def mor (R : Nat) : Bool := decide (2 ^ nD R < 2 * (mg R % 2 ^ nD R)) || (decide (2 ^ nD R = 2 * (mg R % 2 ^ nD R)) && mg R / 2 ^ nD R % 2 == 1)
theorem near_narrow (s : Bool) {R : Nat} (h0 : R ≠ 0) : Ieee.single.nearest s (mg R) (-1074 + (up R : Nat)) = Ieee.single.word s (min (flr R + (mor R).toNat) 2139095040) := by
  have s2 : Ieee.single.binade = 8388608 := by decide
  have s3 : Ieee.single.infRung = 2139095040 := by decide
  have s4 : Ieee.single.leastPlace = -149 := by decide
  have s5 : (Ieee.single.fractionBits : Int) = 23 := by decide
  have hm := mg_ne h0
  have hu := n_up R
  have hl := n_log h0
  unfold Ieee.Format.nearest
  simp only [s2, s3, s4, s5]
  rw [if_neg hm]
  have hlast : max (-1074 + ((up R : Nat) : Int) + ((mg R).log2 : Int) - 23) (-149) = (nU R : Int) - 149 := by unfold nU; omega
  rw [hlast]
  have e1 : (-1074 + ((up R : Nat) : Int) - ((nU R : Int) - 149)).toNat = 0 := by unfold nU; omega
  have e2 : ((nU R : Int) - 149 - (-1074 + ((up R : Nat) : Int))).toNat = nD R := by unfold nD nU; omega
  have e3 : ((nU R : Int) - 149 - -149).toNat = nU R := by omega
  rw [e1, e2, e3, Nat.shiftLeft_zero, cut_even s _ _]
  unfold flr mor
  rw [Nat.add_assoc]
theorem n_kept {R : Nat} (h0 : R ≠ 0) : mg R / 2 ^ nD R < 16777216 ∧ (nU R = 0 ∨ 8388608 ≤ mg R / 2 ^ nD R) := by
  have hm := mg_ne h0
  have hu := n_up R
  have hl := n_log h0
  have h1 := Nat.log2_self_le hm
  have h2 := Nat.lt_log2_self (n := mg R)
  have hp := Nat.two_pow_pos (nD R)
  by_cases hU : nU R = 0
  · refine ⟨?_, Or.inl hU⟩
    have hd : (mg R).log2 + 1 ≤ nD R + 24 := by unfold nD nU at *; omega
    have h3 : mg R < 2 ^ (nD R + 24) := Nat.lt_of_lt_of_le h2 (Nat.pow_le_pow_right (by omega) hd)
    rw [Nat.pow_add, Nat.mul_comm] at h3
    exact Nat.div_lt_of_lt_mul (by rw [Nat.mul_comm]; exact h3)
  · have hd : (mg R).log2 = nD R + 23 := by unfold nD nU at *; omega
    rw [hd] at h1 h2
    constructor
    · rw [show nD R + 23 + 1 = 24 + nD R by omega, Nat.pow_add] at h2
      exact Nat.div_lt_of_lt_mul (by rw [Nat.mul_comm]; exact h2)
    · right
      rw [Nat.le_div_iff_mul_le hp]
      rw [show nD R + 23 = 23 + nD R by omega, Nat.pow_add] at h1
      exact h1
/-- What stands at a rung that is told by its kept digits, and at the next one. -/
theorem s_val_kept {U k : Nat} (hk : k < 16777216) (hU : U = 0 ∨ 8388608 ≤ k) : S.val (U * 8388608 + k) = k * 2 ^ U ∧ S.val (U * 8388608 + k + 1) = (k + 1) * 2 ^ U := by
  have one : ∀ k, k < 16777216 → (U = 0 ∨ 8388608 ≤ k) → S.val (U * 8388608 + k) = k * 2 ^ U := fun k h1 h2 => by
    have := S.mg_of h1 h2
    rw [← S.mg_up, this.1, this.2]
  refine ⟨one k hk hU, ?_⟩
  by_cases h : k + 1 < 16777216
  · rw [Nat.add_assoc]; exact one (k + 1) h (hU.imp id (fun h => by omega))
  · have hk' : k = 16777215 := by omega
    subst hk'
    have e : U * 8388608 + 16777215 + 1 = (U + 1) * 8388608 + 8388608 := by omega
    have := S.mg_of (U := U + 1) (M := 8388608) (by omega) (Or.inr (Nat.le_refl _))
    rw [e, ← S.mg_up, this.1, this.2, Nat.pow_succ]
    generalize 2 ^ U = t
    omega
/-- A float's size stands at its lower narrow rung or above it, and below the next one. -/
theorem flr_between {R : Nat} (h0 : R ≠ 0) : S.val (flr R) * 2 ^ gapS ≤ val R ∧ val R < S.val (flr R + 1) * 2 ^ gapS := by
  have hg : gapS = 925 := rfl
  obtain ⟨h1, h2⟩ := n_kept h0
  obtain ⟨v1, v2⟩ := s_val_kept h1 h2
  have hu := n_up R
  have hl := n_log h0
  have e : nU R + gapS = nD R + up R := by unfold nD nU; omega
  unfold flr
  rw [v1, v2, Nat.mul_assoc, Nat.mul_assoc, ← Nat.pow_add, e, Nat.pow_add, ← mg_up, ← Nat.mul_assoc, ← Nat.mul_assoc]
  have hp := Nat.two_pow_pos (nD R)
  constructor
  · exact Nat.mul_le_mul_right _ (Nat.div_mul_le_self _ _)
  · refine Nat.mul_lt_mul_of_pos_right ?_ (Nat.two_pow_pos _)
    have := Nat.lt_mul_div_succ (mg R) hp
    rw [Nat.mul_comm]
    exact this
theorem flr_one {R q : Nat} (h0 : R ≠ 0) (h1 : S.val q * 2 ^ gapS ≤ val R) (h2 : val R < S.val (q + 1) * 2 ^ gapS) : flr R = q := by
  obtain ⟨a, b⟩ := flr_between h0
  have hp := Nat.two_pow_pos gapS
  have x1 : S.val q * 2 ^ gapS < S.val (flr R + 1) * 2 ^ gapS := by omega
  have x2 : S.val (flr R) * 2 ^ gapS < S.val (q + 1) * 2 ^ gapS := by omega
  generalize 2 ^ gapS = t at *
  have y1 := Nat.lt_of_mul_lt_mul_right x1
  have y2 := Nat.lt_of_mul_lt_mul_right x2
  have z1 := (S.val_lt_iff q (flr R + 1)).1 y1
  have z2 := (S.val_lt_iff (flr R) (q + 1)).1 y2
  omega
/-- A greater size has no lesser lower rung. -/
theorem flr_mono {R Q : Nat} (h0 : R ≠ 0) (h : R ≤ Q) : flr R ≤ flr Q := by
  obtain ⟨a, _⟩ := flr_between h0
  obtain ⟨_, b⟩ := flr_between (show Q ≠ 0 by omega)
  have hv : val R ≤ val Q := by
    rcases Nat.lt_or_ge R Q with h1 | h1
    · exact Nat.le_of_lt (val_lt h1)
    · rw [show R = Q by omega]; exact Nat.le_refl _
  have x : S.val (flr R) * 2 ^ gapS < S.val (flr Q + 1) * 2 ^ gapS := by omega
  generalize 2 ^ gapS = t at *
  have := (S.val_lt_iff _ _).1 (Nat.lt_of_mul_lt_mul_right x)
  omega
/-- The next rung is taken just where a size is nearer to it, or in the middle and the lower one odd. -/
theorem mor_mid {R : Nat} (h0 : R ≠ 0) : mor R = (decide ((S.val (flr R) + S.val (flr R + 1)) * 2 ^ gapS < 2 * val R) || (decide ((S.val (flr R) + S.val (flr R + 1)) * 2 ^ gapS = 2 * val R) && flr R % 2 == 1)) := by
  have hg : gapS = 925 := rfl
  obtain ⟨h1, h2⟩ := n_kept h0
  obtain ⟨v1, v2⟩ := s_val_kept h1 h2
  have hu := n_up R
  have hl := n_log h0
  have e : nU R + gapS = nD R + up R := by unfold nD nU; omega
  have hp := Nat.two_pow_pos (nD R)
  have hq := Nat.two_pow_pos (up R)
  have hpar : flr R % 2 = mg R / 2 ^ nD R % 2 := by unfold flr; omega
  have hs : (S.val (flr R) + S.val (flr R + 1)) * 2 ^ gapS = (2 * (mg R / 2 ^ nD R) + 1) * 2 ^ nD R * 2 ^ up R := by
    unfold flr
    generalize mg R / 2 ^ nD R = k at *
    rw [v1, v2, ← Nat.add_mul, show k + (k + 1) = 2 * k + 1 by omega, Nat.mul_assoc, ← Nat.pow_add, e, Nat.pow_add, Nat.mul_assoc]
  have hv : 2 * val R = 2 * mg R * 2 ^ up R := by rw [← mg_up, Nat.mul_assoc]
  have hm : mg R = 2 ^ nD R * (mg R / 2 ^ nD R) + mg R % 2 ^ nD R := (Nat.div_add_mod _ _).symm
  have hc : 2 * mg R = 2 * (mg R / 2 ^ nD R) * 2 ^ nD R + 2 * (mg R % 2 ^ nD R) := by
    conv => lhs; rw [hm]
    rw [Nat.mul_add, Nat.mul_assoc, Nat.mul_comm (mg R / 2 ^ nD R)]
  have hd : (2 * (mg R / 2 ^ nD R) + 1) * 2 ^ nD R = 2 * (mg R / 2 ^ nD R) * 2 ^ nD R + 2 ^ nD R := by rw [Nat.add_mul, Nat.one_mul]
  rw [hpar, hs, hv]
  unfold mor
  have q1 : (2 * (mg R / 2 ^ nD R) + 1) * 2 ^ nD R * 2 ^ up R < 2 * mg R * 2 ^ up R ↔ 2 ^ nD R < 2 * (mg R % 2 ^ nD R) := by
    rw [Nat.mul_lt_mul_right hq, hc, hd]; omega
  have q2 : (2 * (mg R / 2 ^ nD R) + 1) * 2 ^ nD R * 2 ^ up R = 2 * mg R * 2 ^ up R ↔ 2 ^ nD R = 2 * (mg R % 2 ^ nD R) := by
    constructor
    · intro h
      have := Nat.eq_of_mul_eq_mul_right hq h
      rw [hc, hd] at this; omega
    · intro h
      have : (2 * (mg R / 2 ^ nD R) + 1) * 2 ^ nD R = 2 * mg R := by rw [hc, hd]; omega
      rw [this]
  rw [decide_eq_decide.2 q1, decide_eq_decide.2 q2]
/-- The narrow rung that a size is rounded to: greater sizes have no lesser one. -/
def nwr (R : Nat) : Nat := min (flr R + (mor R).toNat) 2139095040
theorem nwr_mono {R Q : Nat} (h0 : R ≠ 0) (h : R ≤ Q) : nwr R ≤ nwr Q := by
  have hf := flr_mono h0 h
  have hb : ∀ b : Bool, b.toNat ≤ 1 := fun b => by cases b <;> simp
  have key : flr R + (mor R).toNat ≤ flr Q + (mor Q).toNat := by
    by_cases he : flr R = flr Q
    · have m1 := mor_mid h0
      have m2 := mor_mid (show Q ≠ 0 by omega)
      have hv : val R ≤ val Q := by
        rcases Nat.lt_or_ge R Q with h1 | h1
        · exact Nat.le_of_lt (val_lt h1)
        · rw [show R = Q by omega]; exact Nat.le_refl _
      rw [he] at m1 ⊢
      generalize (S.val (flr Q) + S.val (flr Q + 1)) * 2 ^ gapS = t at *
      cases hm : mor R
      · simp
      · have : mor Q = true := by
          rw [hm] at m1
          rw [m2]
          by_cases c1 : t < 2 * val Q
          · simp [c1]
          · have c2 : t = 2 * val Q := by
              by_cases c3 : t < 2 * val R
              · omega
              · simp [c3] at m1; omega
            have c4 : ¬ t < 2 * val R := by omega
            simp [c4] at m1
            simp [c2, m1.2]
        rw [this]
        simp
    · have := hb (mor R)
      omega
  unfold nwr
  omega
theorem near_nwr (s : Bool) {R : Nat} (h0 : R ≠ 0) : Ieee.single.nearest s (mg R) (-1074 + (up R : Nat)) = Ieee.single.word s (nwr R) := near_narrow s h0
end Go.Proofs.YtlhoidkfphellaaDoor

namespace Go.Proofs.YtlhoidkfphellaaDoor
open Go.RowKit

theorem val_le_S {r q : Nat} (h : r ≤ q) : S.val r ≤ S.val q := by
  rcases Nat.lt_or_ge r q with h1 | h1
  · exact Nat.le_of_lt (S.val_lt h1)
  · rw [show r = q by omega]; exact Nat.le_refl _
/-- A stands above the middle behind rung r, or at it and r is odd. -/
def aboveS (K A r : Nat) : Prop := (S.val r + S.val (r + 1)) * 2 ^ K < 2 * A ∨ ((S.val r + S.val (r + 1)) * 2 ^ K = 2 * A ∧ r % 2 = 1)
theorem above_parts {n d k0 A T : Nat} (hk : k0 = n / 2 ^ d) (hA : A * 2 ^ d = n * T) : k0 * T ≤ A ∧ (0 < T → A < (k0 + 1) * T) ∧ ((2 * k0 + 1) * T < 2 * A ↔ 0 < T ∧ 2 ^ d < 2 * (n % 2 ^ d)) ∧ (0 < T → ((2 * k0 + 1) * T = 2 * A ↔ 2 ^ d = 2 * (n % 2 ^ d))) := by
  have hp := Nat.two_pow_pos d
  have hn : n = 2 ^ d * k0 + n % 2 ^ d := by rw [hk]; exact (Nat.div_add_mod _ _).symm
  have hr : n % 2 ^ d < 2 ^ d := Nat.mod_lt _ hp
  generalize n % 2 ^ d = r at *
  generalize 2 ^ d = D at *
  have e1 : n * T = k0 * T * D + r * T := by rw [hn, Nat.add_mul, Nat.mul_comm D k0, Nat.mul_assoc, Nat.mul_comm D T, ← Nat.mul_assoc]
  rw [e1] at hA
  refine ⟨?_, fun hT => ?_, ?_, fun hT => ?_⟩
  · refine Nat.le_of_mul_le_mul_right (c := D) ?_ hp
    omega
  · refine Nat.lt_of_mul_lt_mul_right (a := D) ?_
    have h2 : r * T < D * T := Nat.mul_lt_mul_of_pos_right hr hT
    have h3 : (k0 + 1) * T * D = k0 * T * D + D * T := by rw [Nat.add_mul, Nat.one_mul, Nat.add_mul, Nat.mul_comm T D]
    omega
  · have h3 : (2 * k0 + 1) * T * D = 2 * (k0 * T * D) + D * T := by rw [Nat.add_mul, Nat.one_mul, Nat.add_mul, Nat.mul_assoc 2 k0 T, Nat.mul_assoc 2, Nat.mul_comm T D]
    have h4 : 2 * A * D = 2 * (k0 * T * D) + 2 * (r * T) := by rw [Nat.mul_assoc, hA]; omega
    rw [← Nat.mul_lt_mul_right hp, h3, h4]
    have h5 : 2 * (r * T) = 2 * r * T := (Nat.mul_assoc 2 r T).symm
    rw [h5]
    constructor
    · intro h
      have h6 : D * T < 2 * r * T := by omega
      have hT : 0 < T := by
        rcases Nat.eq_zero_or_pos T with h | h
        · rw [h] at h6; simp at h6
        · exact h
      exact ⟨hT, Nat.lt_of_mul_lt_mul_right h6⟩
    · rintro ⟨hT, h⟩
      have := Nat.mul_lt_mul_of_pos_right h hT
      omega
  · have h3 : (2 * k0 + 1) * T * D = 2 * (k0 * T * D) + D * T := by rw [Nat.add_mul, Nat.one_mul, Nat.add_mul, Nat.mul_assoc 2 k0 T, Nat.mul_assoc 2, Nat.mul_comm T D]
    have h4 : 2 * A * D = 2 * (k0 * T * D) + 2 * (r * T) := by rw [Nat.mul_assoc, hA]; omega
    have h5 : 2 * (r * T) = 2 * r * T := (Nat.mul_assoc 2 r T).symm
    constructor
    · intro h
      have h6 : (2 * k0 + 1) * T * D = 2 * A * D := by rw [h]
      rw [h3, h4, h5] at h6
      exact Nat.eq_of_mul_eq_mul_right hT (by omega)
    · intro h
      refine Nat.eq_of_mul_eq_mul_right hp ?_
      rw [h3, h4, h5, h]
/-- Rounding to nearest, by the middles. -/
theorem near_any (s : Bool) {m : Nat} (p : Int) (K : Nat) (hm : m ≠ 0) (hK : 0 ≤ p + 149 + K) :
    ∃ k, Ieee.single.nearest s m p = Ieee.single.word s k ∧ k ≤ 2139095040 ∧ ∀ r, r < 2139095040 → (r < k ↔ aboveS K (m * 2 ^ (p + 149 + K).toNat) r) := by
  have s2 : Ieee.single.binade = 8388608 := by decide
  have s3 : Ieee.single.infRung = 2139095040 := by decide
  have s4 : Ieee.single.leastPlace = -149 := by decide
  have s5 : (Ieee.single.fractionBits : Int) = 23 := by decide
  obtain ⟨last, hlast⟩ : ∃ l, max (p + (m.log2 : Int) - 23) (-149) = l := ⟨_, rfl⟩
  obtain ⟨U, hU⟩ : ∃ U : Nat, (last + 149).toNat = U := ⟨_, rfl⟩
  obtain ⟨n, hn⟩ : ∃ n, m <<< (p - last).toNat = n := ⟨_, rfl⟩
  obtain ⟨d, hd⟩ : ∃ d, (last - p).toNat = d := ⟨_, rfl⟩
  obtain ⟨k0, hk0⟩ : ∃ k0, n / 2 ^ d = k0 := ⟨_, rfl⟩
  obtain ⟨A, hA⟩ : ∃ A, m * 2 ^ (p + 149 + K).toNat = A := ⟨_, rfl⟩
  have hlog := Nat.log2_self_le hm
  have hlog2 := Nat.lt_log2_self (n := m)
  have hnA : A * 2 ^ d = n * 2 ^ (U + K) := by
    rw [← hA, ← hn, Nat.shiftLeft_eq, Nat.mul_assoc, Nat.mul_assoc, ← Nat.pow_add, ← Nat.pow_add]
    congr 2
    omega
  have hnl : n.log2 = m.log2 + (p - last).toNat := by rw [← hn, Nat.shiftLeft_eq]; exact log2_mul hm
  have hn0 : n ≠ 0 := by
    rw [← hn, Nat.shiftLeft_eq]
    have := Nat.mul_pos (Nat.pos_of_ne_zero hm) (Nat.two_pow_pos (p - last).toNat)
    omega
  have hkb : k0 < 16777216 ∧ (U = 0 ∨ 8388608 ≤ k0) := by
    have h1 := Nat.log2_self_le hn0
    have h2 := Nat.lt_log2_self (n := n)
    have hp := Nat.two_pow_pos d
    by_cases hU0 : U = 0
    · refine ⟨?_, Or.inl hU0⟩
      have hdd : n.log2 + 1 ≤ d + 24 := by omega
      have h3 : n < 2 ^ (d + 24) := Nat.lt_of_lt_of_le h2 (Nat.pow_le_pow_right (by omega) hdd)
      rw [Nat.pow_add, Nat.mul_comm] at h3
      rw [← hk0]
      exact Nat.div_lt_of_lt_mul (by rw [Nat.mul_comm]; exact h3)
    · have hdd : n.log2 = d + 23 := by omega
      rw [hdd] at h1 h2
      rw [← hk0]
      constructor
      · rw [show d + 23 + 1 = 24 + d by omega, Nat.pow_add] at h2
        exact Nat.div_lt_of_lt_mul (by rw [Nat.mul_comm]; exact h2)
      · right
        rw [Nat.le_div_iff_mul_le hp]
        rw [show d + 23 = 23 + d by omega, Nat.pow_add] at h1
        exact h1
  obtain ⟨v1, v2⟩ := s_val_kept hkb.1 hkb.2
  obtain ⟨a1, a2, a3, a4⟩ := above_parts hk0.symm hnA
  have hT := Nat.two_pow_pos (U + K)
  have a2 := a2 hT
  have a4 := a4 hT
  obtain ⟨f, hf⟩ : ∃ f, U * 8388608 + k0 = f := ⟨_, rfl⟩
  rw [hf] at v1 v2
  have hpar : f % 2 = k0 % 2 := by omega
  refine ⟨min (f + (decide (2 ^ d < 2 * (n % 2 ^ d)) || (decide (2 ^ d = 2 * (n % 2 ^ d)) && k0 % 2 == 1)).toNat) 2139095040, ?_, by omega, ?_⟩
  · unfold Ieee.Format.nearest
    simp only [s2, s3, s4, s5]
    rw [if_neg hm, hlast, hn, hd, show (last - -149).toNat = U by omega, cut_even s n d, hk0, ← hf, Nat.add_assoc]
  · intro r hr
    have hfv : S.val f * 2 ^ K = k0 * 2 ^ (U + K) := by rw [v1, Nat.mul_assoc, ← Nat.pow_add]
    have hfv2 : S.val (f + 1) * 2 ^ K = (k0 + 1) * 2 ^ (U + K) := by rw [v2, Nat.mul_assoc, ← Nat.pow_add]
    have hmid : (S.val f + S.val (f + 1)) * 2 ^ K = (2 * k0 + 1) * 2 ^ (U + K) := by
      rw [Nat.add_mul, hfv, hfv2, ← Nat.add_mul]; congr 1; omega
    have hKp := Nat.two_pow_pos K
    rw [hA]
    have low : r < f → aboveS K A r := fun h => by
      left
      have x1 := val_le_S (show r ≤ f by omega)
      have x2 := val_le_S (show r + 1 ≤ f by omega)
      have x3 : S.val r < S.val f := (S.val_lt_iff r f).2 h
      have x4 : (S.val r + S.val (r + 1)) * 2 ^ K < (S.val f + S.val f) * 2 ^ K := Nat.mul_lt_mul_of_pos_right (by omega) hKp
      rw [Nat.add_mul (S.val f)] at x4
      omega
    have high : f < r → ¬ aboveS K A r := fun h => by
      have x1 := val_le_S (show f + 1 ≤ r by omega)
      have x3 : S.val r < S.val (r + 1) := S.val_step r
      have x4 : (S.val (f + 1) + S.val (f + 1)) * 2 ^ K < (S.val r + S.val (r + 1)) * 2 ^ K := Nat.mul_lt_mul_of_pos_right (by omega) hKp
      rw [Nat.add_mul (S.val (f + 1))] at x4
      rintro (h | ⟨h, _⟩) <;> omega
    rcases Nat.lt_trichotomy r f with h | h | h
    · exact ⟨fun _ => low h, fun _ => by omega⟩
    · subst h
      unfold aboveS
      rw [hmid, a3, a4, hpar]
      have hbt : (decide (2 ^ d < 2 * (n % 2 ^ d)) || (decide (2 ^ d = 2 * (n % 2 ^ d)) && k0 % 2 == 1)) = true ↔ (0 < 2 ^ (U + K) ∧ 2 ^ d < 2 * (n % 2 ^ d)) ∨ (2 ^ d = 2 * (n % 2 ^ d) ∧ k0 % 2 = 1) := by
        simp only [Bool.or_eq_true, Bool.and_eq_true, decide_eq_true_eq, beq_iff_eq]
        constructor
        · rintro (h | h)
          · exact Or.inl ⟨hT, h⟩
          · exact Or.inr h
        · rintro (h | h)
          · exact Or.inl h.2
          · exact Or.inr h
      rw [← hbt]
      generalize (decide (2 ^ d < 2 * (n % 2 ^ d)) || (decide (2 ^ d = 2 * (n % 2 ^ d)) && k0 % 2 == 1)) = bb
      have hbb : bb.toNat = if bb = true then 1 else 0 := by cases bb <;> rfl
      rw [hbb]
      by_cases hc : bb = true
      · rw [if_pos hc]; exact ⟨fun _ => hc, fun _ => Nat.lt_min.2 ⟨Nat.lt_succ_self _, hr⟩⟩
      · rw [if_neg hc]; exact ⟨fun h => absurd (Nat.lt_of_lt_of_le h (Nat.min_le_left _ _)) (Nat.lt_irrefl _), fun h => absurd h hc⟩
    · refine ⟨fun hh => ?_, fun hh => absurd hh (high h)⟩
      exfalso
      have : ∀ b : Bool, b.toNat ≤ 1 := fun b => by cases b <;> simp
      have := this (decide (2 ^ d < 2 * (n % 2 ^ d)) || (decide (2 ^ d = 2 * (n % 2 ^ d)) && k0 % 2 == 1))
      omega
end Go.Proofs.YtlhoidkfphellaaDoor

namespace Go.Proofs.YtlhoidkfphellaaDoor
open Go.RowKit

/-- What stands at a rung that is told by its kept digits, and at the next one. -/
theorem d_val_kept {U k : Nat} (hk : k < 9007199254740992) (hU : U = 0 ∨ 4503599627370496 ≤ k) : val (U * 4503599627370496 + k) = k * 2 ^ U ∧ val (U * 4503599627370496 + k + 1) = (k + 1) * 2 ^ U := by
  have one : ∀ k, k < 9007199254740992 → (U = 0 ∨ 4503599627370496 ≤ k) → val (U * 4503599627370496 + k) = k * 2 ^ U := fun k h1 h2 => by
    have := mg_of h1 h2
    rw [← mg_up, this.1, this.2]
  refine ⟨one k hk hU, ?_⟩
  by_cases h : k + 1 < 9007199254740992
  · rw [Nat.add_assoc]; exact one (k + 1) h (hU.imp id (fun h => by omega))
  · have hk' : k = 9007199254740991 := by omega
    subst hk'
    have e : U * 4503599627370496 + 9007199254740991 + 1 = (U + 1) * 4503599627370496 + 4503599627370496 := by omega
    have := mg_of (U := U + 1) (M := 4503599627370496) (by omega) (Or.inr (Nat.le_refl _))
    rw [e, ← mg_up, this.1, this.2, Nat.pow_succ]
    generalize 2 ^ U = t
    omega
theorem val_le_D {r q : Nat} (h : r ≤ q) : val r ≤ val q := by
  rcases Nat.lt_or_ge r q with h1 | h1
  · exact Nat.le_of_lt (val_lt h1)
  · rw [show r = q by omega]; exact Nat.le_refl _
/-- A stands above the middle behind rung r, or at it and r is odd. -/
def aboveD (K A r : Nat) : Prop := (val r + val (r + 1)) * 2 ^ K < 2 * A ∨ ((val r + val (r + 1)) * 2 ^ K = 2 * A ∧ r % 2 = 1)
/-- Rounding to nearest, by the middles. -/
theorem near_anyD (s : Bool) {m : Nat} (p : Int) (K : Nat) (hm : m ≠ 0) (hK : 0 ≤ p + 1074 + K) :
    ∃ k, Ieee.double.nearest s m p = Ieee.double.word s k ∧ k ≤ 9218868437227405312 ∧ ∀ r, r < 9218868437227405312 → (r < k ↔ aboveD K (m * 2 ^ (p + 1074 + K).toNat) r) := by
  have s2 : Ieee.double.binade = 4503599627370496 := by decide
  have s3 : Ieee.double.infRung = 9218868437227405312 := by decide
  have s4 : Ieee.double.leastPlace = -1074 := by decide
  have s5 : (Ieee.double.fractionBits : Int) = 52 := by decide
  obtain ⟨last, hlast⟩ : ∃ l, max (p + (m.log2 : Int) - 52) (-1074) = l := ⟨_, rfl⟩
  obtain ⟨U, hU⟩ : ∃ U : Nat, (last + 1074).toNat = U := ⟨_, rfl⟩
  obtain ⟨n, hn⟩ : ∃ n, m <<< (p - last).toNat = n := ⟨_, rfl⟩
  obtain ⟨d, hd⟩ : ∃ d, (last - p).toNat = d := ⟨_, rfl⟩
  obtain ⟨k0, hk0⟩ : ∃ k0, n / 2 ^ d = k0 := ⟨_, rfl⟩
  obtain ⟨A, hA⟩ : ∃ A, m * 2 ^ (p + 1074 + K).toNat = A := ⟨_, rfl⟩
  have hlog := Nat.log2_self_le hm
  have hlog2 := Nat.lt_log2_self (n := m)
  have hnA : A * 2 ^ d = n * 2 ^ (U + K) := by
    rw [← hA, ← hn, Nat.shiftLeft_eq, Nat.mul_assoc, Nat.mul_assoc, ← Nat.pow_add, ← Nat.pow_add]
    congr 2
    omega
  have hnl : n.log2 = m.log2 + (p - last).toNat := by rw [← hn, Nat.shiftLeft_eq]; exact log2_mul hm
  have hn0 : n ≠ 0 := by
    rw [← hn, Nat.shiftLeft_eq]
    have := Nat.mul_pos (Nat.pos_of_ne_zero hm) (Nat.two_pow_pos (p - last).toNat)
    omega
  have hkb : k0 < 9007199254740992 ∧ (U = 0 ∨ 4503599627370496 ≤ k0) := by
    have h1 := Nat.log2_self_le hn0
    have h2 := Nat.lt_log2_self (n := n)
    have hp := Nat.two_pow_pos d
    by_cases hU0 : U = 0
    · refine ⟨?_, Or.inl hU0⟩
      have hdd : n.log2 + 1 ≤ d + 53 := by omega
      have h3 : n < 2 ^ (d + 53) := Nat.lt_of_lt_of_le h2 (Nat.pow_le_pow_right (by omega) hdd)
      rw [Nat.pow_add, Nat.mul_comm] at h3
      rw [← hk0]
      exact Nat.div_lt_of_lt_mul (by rw [Nat.mul_comm]; exact h3)
    · have hdd : n.log2 = d + 52 := by omega
      rw [hdd] at h1 h2
      rw [← hk0]
      constructor
      · rw [show d + 52 + 1 = 53 + d by omega, Nat.pow_add] at h2
        exact Nat.div_lt_of_lt_mul (by rw [Nat.mul_comm]; exact h2)
      · right
        rw [Nat.le_div_iff_mul_le hp]
        rw [show d + 52 = 52 + d by omega, Nat.pow_add] at h1
        exact h1
  obtain ⟨v1, v2⟩ := d_val_kept hkb.1 hkb.2
  obtain ⟨a1, a2, a3, a4⟩ := above_parts hk0.symm hnA
  have hT := Nat.two_pow_pos (U + K)
  have a2 := a2 hT
  have a4 := a4 hT
  obtain ⟨f, hf⟩ : ∃ f, U * 4503599627370496 + k0 = f := ⟨_, rfl⟩
  rw [hf] at v1 v2
  have hpar : f % 2 = k0 % 2 := by omega
  refine ⟨min (f + (decide (2 ^ d < 2 * (n % 2 ^ d)) || (decide (2 ^ d = 2 * (n % 2 ^ d)) && k0 % 2 == 1)).toNat) 9218868437227405312, ?_, by omega, ?_⟩
  · unfold Ieee.Format.nearest
    simp only [s2, s3, s4, s5]
    rw [if_neg hm, hlast, hn, hd, show (last - -1074).toNat = U by omega, cut_even s n d, hk0, ← hf, Nat.add_assoc]
  · intro r hr
    have hfv : val f * 2 ^ K = k0 * 2 ^ (U + K) := by rw [v1, Nat.mul_assoc, ← Nat.pow_add]
    have hfv2 : val (f + 1) * 2 ^ K = (k0 + 1) * 2 ^ (U + K) := by rw [v2, Nat.mul_assoc, ← Nat.pow_add]
    have hmid : (val f + val (f + 1)) * 2 ^ K = (2 * k0 + 1) * 2 ^ (U + K) := by
      rw [Nat.add_mul, hfv, hfv2, ← Nat.add_mul]; congr 1; omega
    have hKp := Nat.two_pow_pos K
    rw [hA]
    have low : r < f → aboveD K A r := fun h => by
      left
      have x1 := val_le_D (show r ≤ f by omega)
      have x2 := val_le_D (show r + 1 ≤ f by omega)
      have x3 : val r < val f := (val_lt_iff r f).2 h
      have x4 : (val r + val (r + 1)) * 2 ^ K < (val f + val f) * 2 ^ K := Nat.mul_lt_mul_of_pos_right (by omega) hKp
      rw [Nat.add_mul (val f)] at x4
      omega
    have high : f < r → ¬ aboveD K A r := fun h => by
      have x1 := val_le_D (show f + 1 ≤ r by omega)
      have x3 : val r < val (r + 1) := val_step r
      have x4 : (val (f + 1) + val (f + 1)) * 2 ^ K < (val r + val (r + 1)) * 2 ^ K := Nat.mul_lt_mul_of_pos_right (by omega) hKp
      rw [Nat.add_mul (val (f + 1))] at x4
      rintro (h | ⟨h, _⟩) <;> omega
    rcases Nat.lt_trichotomy r f with h | h | h
    · exact ⟨fun _ => low h, fun _ => by omega⟩
    · subst h
      unfold aboveD
      rw [hmid, a3, a4, hpar]
      have hbt : (decide (2 ^ d < 2 * (n % 2 ^ d)) || (decide (2 ^ d = 2 * (n % 2 ^ d)) && k0 % 2 == 1)) = true ↔ (0 < 2 ^ (U + K) ∧ 2 ^ d < 2 * (n % 2 ^ d)) ∨ (2 ^ d = 2 * (n % 2 ^ d) ∧ k0 % 2 = 1) := by
        simp only [Bool.or_eq_true, Bool.and_eq_true, decide_eq_true_eq, beq_iff_eq]
        constructor
        · rintro (h | h)
          · exact Or.inl ⟨hT, h⟩
          · exact Or.inr h
        · rintro (h | h)
          · exact Or.inl h.2
          · exact Or.inr h
      rw [← hbt]
      generalize (decide (2 ^ d < 2 * (n % 2 ^ d)) || (decide (2 ^ d = 2 * (n % 2 ^ d)) && k0 % 2 == 1)) = bb
      have hbb : bb.toNat = if bb = true then 1 else 0 := by cases bb <;> rfl
      rw [hbb]
      by_cases hc : bb = true
      · rw [if_pos hc]; exact ⟨fun _ => hc, fun _ => Nat.lt_min.2 ⟨Nat.lt_succ_self _, hr⟩⟩
      · rw [if_neg hc]; exact ⟨fun h => absurd (Nat.lt_of_lt_of_le h (Nat.min_le_left _ _)) (Nat.lt_irrefl _), fun h => absurd h hc⟩
    · refine ⟨fun hh => ?_, fun hh => absurd hh (high h)⟩
      exfalso
      have : ∀ b : Bool, b.toNat ≤ 1 := fun b => by cases b <;> simp
      have := this (decide (2 ^ d < 2 * (n % 2 ^ d)) || (decide (2 ^ d = 2 * (n % 2 ^ d)) && k0 % 2 == 1))
      omega
end Go.Proofs.YtlhoidkfphellaaDoor
