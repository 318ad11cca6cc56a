/- Halving and doubling of floats are exact where both are floats; what a float leaves taken off itself, off its neighbour; the middle of two neighbours is one of them. -/
import Derived.Test.YtmcnnnmlacpppaaDoorZg
namespace Go.Proofs.YtmcnnnmlacpppaaDoor
open Go.RowKit

theorem word_lt64 (s : Bool) {r : Nat} (h : r < 9223372036854775808) : Ieee.double.word s r < 18446744073709551616 := by
  cases s
  · rw [word_pos]; omega
  · rw [word_neg]; omega
theorem word_rung (s : Bool) {r : Nat} (h : r < 9223372036854775808) : rung (Ieee.double.word s r) = r ∧ sgn (Ieee.double.word s r) = s := by
  cases s
  · rw [word_pos]; exact ⟨rung_small h, sgn_small h⟩
  · rw [word_neg]; unfold rung sgn; constructor
    · omega
    · simp
theorem word_of {a : Nat} (ha : a < 18446744073709551616) : a = Ieee.double.word (sgn a) (rung a) := by
  have := rung_of a ha
  cases hs : sgn a
  · rw [word_pos]; rw [hs] at this; simpa using this
  · rw [word_neg]; rw [hs] at this; simpa using this
theorem read_word (s : Bool) {r : Nat} (h : r < 9218868437227405312) : Ieee.double.read (Ieee.double.word s r) = .number s (mg r) (-1074 + (up r : Nat)) := by
  obtain ⟨h1, h2⟩ := word_rung s (r := r) (by omega)
  rw [read_fin (word_lt64 s (by omega)) (by unfold finB; rw [h1]; simpa using h), h1, h2]
theorem read_two : Ieee.double.read 4611686018427387904 = .number false 4503599627370496 (-51) := by decide +kernel

/-- From one number told in two ways to 'nearest_val'. -/
theorem pow_cancel {a b k l : Nat} (h : a * 2 ^ k = b * 2 ^ l) (hkl : k ≤ l) : a = b * 2 ^ (l - k) := by
  have : b * 2 ^ l = b * 2 ^ (l - k) * 2 ^ k := by rw [Nat.mul_assoc, ← Nat.pow_add]; congr 2; omega
  rw [this] at h
  exact Nat.eq_of_mul_eq_mul_right (Nat.two_pow_pos k) h

theorem half_exact (s : Bool) {r q : Nat} (hr : r < 9218868437227405312) (hq : q < 9218868437227405312) (hr0 : r ≠ 0) (hq0 : q ≠ 0) (hu1 : up q ≤ up r) (hu2 : up r ≤ up q + 1) (hv : val r = 2 * val q) :
    floatBits .quo .f64 (Ieee.double.word s r) 4611686018427387904 = some (Ieee.double.word s q) := by
  have hm0 := mg_ne hr0
  have hl : (mg r).log2 < 53 := log2_lt53 hm0 (mg_lt r)
  have hl2 : Nat.log2 4503599627370496 = 52 := by decide
  unfold floatBits
  simp only [fmt64, Ieee.Format.div]
  rw [read_word s hr, read_two]
  have hd : Ieee.double.fractionBits + 2 = 54 := rfl
  simp only [Ieee.Datum.quotient, hd, hl2]
  rw [if_neg (by omega)]
  simp only [Option.map_some, Ieee.Format.write, Option.some.injEq, Bool.xor_false, Nat.shiftLeft_eq]
  have e1 : mg r * 2 ^ (54 + 52 - (mg r).log2) = mg r * 2 ^ (54 - (mg r).log2) * 4503599627370496 := by
    rw [show (4503599627370496 : Nat) = 2 ^ 52 from rfl, Nat.mul_assoc, ← Nat.pow_add, show 54 - (mg r).log2 + 52 = 54 + 52 - (mg r).log2 by omega]
  rw [e1, Nat.mul_div_cancel _ (by omega), Nat.mul_mod_left]
  have e2 : ((0 : Nat) != 0).toNat = 0 := rfl
  rw [e2, Nat.add_zero]
  have := nearest_val s (2 * (mg r * 2 ^ (54 - (mg r).log2))) (-1074 + (up r : Int) - -51 - ((54 + 52 - (mg r).log2 : Nat) : Int) - 1) (mg q) (up q) (mg_lt q) (mg_ne hq0) (mg_up_ok q) ?_
  · rw [this, ← rung_mg q, show min q 9218868437227405312 = q by omega]
  · right
    refine ⟨up q + 56 - (mg r).log2 - up r, by omega, ?_⟩
    have h1 : mg r * 2 ^ up r = 2 * (mg q * 2 ^ up q) := by rw [mg_up, mg_up]; exact hv
    have h2 : 2 * (mg r * 2 ^ (54 - (mg r).log2)) * 2 ^ up r = mg q * 2 ^ (up q + 56 - (mg r).log2) := by
      calc 2 * (mg r * 2 ^ (54 - (mg r).log2)) * 2 ^ up r = 2 * 2 ^ (54 - (mg r).log2) * (mg r * 2 ^ up r) := by
            ac_rfl
        _ = mg q * 2 ^ (up q + 56 - (mg r).log2) := by
            rw [h1, show up q + 56 - (mg r).log2 = up q + (54 - (mg r).log2) + 1 + 1 by omega, Nat.pow_succ, Nat.pow_succ, Nat.pow_add]
            ac_rfl
    exact pow_cancel h2 (by omega)

theorem double_exact (s : Bool) {r q : Nat} (hr : r < 9218868437227405312) (hq : q < 9218868437227405312) (hq0 : q ≠ 0) (hu1 : up r ≤ up q) (hv : val q = 2 * val r) :
    floatBits .mul .f64 (Ieee.double.word s r) 4611686018427387904 = some (Ieee.double.word s q) := by
  unfold floatBits
  simp only [fmt64, Ieee.Format.mul]
  rw [read_word s hr, read_two]
  simp only [Ieee.Datum.product, Option.map_some, Ieee.Format.write, Option.some.injEq, Bool.xor_false]
  have := nearest_val s (mg r * 4503599627370496) (-1074 + (up r : Int) + -51) (mg q) (up q) (mg_lt q) (mg_ne hq0) (mg_up_ok q) ?_
  · rw [this, ← rung_mg q, show min q 9218868437227405312 = q by omega]
  · right
    refine ⟨up q + 51 - up r, by omega, ?_⟩
    have h1 : mg q * 2 ^ up q = 2 * (mg r * 2 ^ up r) := by rw [mg_up, mg_up]; exact hv
    have h2 : mg r * 4503599627370496 * 2 ^ up r = mg q * 2 ^ (up q + 51) := by
      calc mg r * 4503599627370496 * 2 ^ up r = 2 ^ 51 * (2 * (mg r * 2 ^ up r)) := by
            rw [show (4503599627370496 : Nat) = 2 ^ 51 * 2 from rfl]; ac_rfl
        _ = mg q * 2 ^ (up q + 51) := by rw [← h1, Nat.pow_add]; ac_rfl
    exact pow_cancel h2 (by omega)

theorem sum_val (s t : Bool) (r q : Nat) : Ieee.Datum.sum (.number s (mg r) (-1074 + (up r : Nat))) (.number t (mg q) (-1074 + (up q : Nat))) =
    some (.number (if Ieee.signed s (mg r) (up r - min (up r) (up q)) + Ieee.signed t (mg q) (up q - min (up r) (up q)) = 0 then s && t else decide (Ieee.signed s (mg r) (up r - min (up r) (up q)) + Ieee.signed t (mg q) (up q - min (up r) (up q)) < 0))
      (Ieee.signed s (mg r) (up r - min (up r) (up q)) + Ieee.signed t (mg q) (up q - min (up r) (up q))).natAbs (-1074 + (min (up r) (up q) : Nat))) := by
  have e1 : (-1074 + (up r : Int) - (-1074 + ((min (up r) (up q) : Nat) : Int))).toNat = up r - min (up r) (up q) := by omega
  have e2 : (-1074 + (up q : Int) - (-1074 + ((min (up r) (up q) : Nat) : Int))).toNat = up q - min (up r) (up q) := by omega
  have e3 : min (-1074 + (up r : Int)) (-1074 + (up q : Int)) = -1074 + ((min (up r) (up q) : Nat) : Int) := by omega
  simp only [Ieee.Datum.sum, e3, e1, e2]

theorem sub_self {a : Nat} (ha : a < 18446744073709551616) (hf : finB a = true) : floatBits .sub .f64 a a = some 0 := by
  unfold floatBits
  simp only [fmt64, Ieee.Format.sub]
  rw [read_fin ha hf]
  simp only [Ieee.Datum.opposite]
  rw [sum_val]
  have h0 : ∀ s, Ieee.signed s (mg (rung a)) (up (rung a) - min (up (rung a)) (up (rung a))) + Ieee.signed (!s) (mg (rung a)) (up (rung a) - min (up (rung a)) (up (rung a))) = 0 := by
    intro s; cases s <;> simp [Ieee.signed] <;> omega
  rw [h0, if_pos rfl]
  simp only [Option.map_some, Ieee.Format.write, Int.natAbs_zero, Bool.and_not_self]
  unfold Ieee.Format.nearest
  rw [if_pos rfl]
  rfl

/-- The next rung's value. -/
theorem val_succ (r : Nat) : val (r + 1) = (mg r + 1) * 2 ^ up r := by
  unfold val mg up
  by_cases h1 : r + 1 < 4503599627370496
  · rw [if_pos h1, if_pos (by omega), if_pos (by omega)]; simp
  · by_cases h2 : r < 4503599627370496
    · rw [if_neg h1, if_pos h2, if_pos h2, show r + 1 = 4503599627370496 by omega]
    · rw [if_neg h1, if_neg h2, if_neg h2]
      by_cases h3 : r % 4503599627370496 + 1 < 4503599627370496
      · rw [show (r + 1) % 4503599627370496 = r % 4503599627370496 + 1 by omega, show (r + 1) / 4503599627370496 = r / 4503599627370496 by omega]
        congr 1
      · rw [show (r + 1) % 4503599627370496 = 0 by omega, show (r + 1) / 4503599627370496 - 1 = (r / 4503599627370496 - 1) + 1 by omega, show r % 4503599627370496 = 4503599627370495 by omega, Nat.pow_succ]
        generalize 2 ^ (r / 4503599627370496 - 1) = t
        omega
theorem up_succ (r : Nat) : up r ≤ up (r + 1) ∧ up (r + 1) ≤ up r + 1 := by unfold up; (repeat' split) <;> omega

theorem diff_one (r : Nat) : mg (r + 1) * 2 ^ (up (r + 1) - up r) = mg r + 1 := by
  have h1 := mg_up (r + 1)
  rw [val_succ] at h1
  have h2 := up_succ r
  have h3 : (mg r + 1) * 2 ^ up r = mg (r + 1) * 2 ^ up (r + 1) := h1.symm
  exact (pow_cancel h3 h2.1).symm

theorem sub_next {r : Nat} (h : r + 1 < 9218868437227405312) : floatBits .sub .f64 (r + 1) r = some (pw ((up r : Int) - 1074)) := by
  have hu := up_succ r
  have hd := diff_one r
  have hur : up r < 2046 := by unfold up; split <;> omega
  unfold floatBits
  simp only [fmt64, Ieee.Format.sub]
  rw [read_pos h, read_pos (r := r) (by omega)]
  simp only [Ieee.Datum.opposite]
  rw [sum_val, show min (up (r + 1)) (up r) = up r by omega]
  have ht : Ieee.signed false (mg (r + 1)) (up (r + 1) - up r) + Ieee.signed (!false) (mg r) (up r - up r) = 1 := by
    simp only [Ieee.signed, Bool.false_eq_true, if_false, Bool.not_false, if_true, Nat.shiftLeft_eq, hd]
    rw [Nat.sub_self, Nat.pow_zero, Nat.mul_one]; omega
  rw [ht]
  simp only [Option.map_some, Ieee.Format.write, Option.some.injEq]
  rw [if_neg (by omega), show decide ((1 : Int) < 0) = false by decide, show (1 : Int).natAbs = 1 from rfl]
  obtain ⟨p1, p2, p3⟩ := pw_ok (e := (up r : Int) - 1074) (by omega) (by omega)
  have hne : pw ((up r : Int) - 1074) ≠ 0 := by
    intro h0
    rw [h0] at p2
    have : mg 0 = 0 := by decide
    rw [this] at p2
    split at p2
    · have := Nat.two_pow_pos ((up r : Int) - 1074 + 1074).toNat; omega
    · omega
  have := nearest_val false 1 (-1074 + (up r : Nat)) (mg (pw ((up r : Int) - 1074))) (up (pw ((up r : Int) - 1074))) (mg_lt _) (mg_ne hne) (mg_up_ok _) ?_
  · rw [this, word_pos, ← rung_mg, show min (pw ((up r : Int) - 1074)) 9218868437227405312 = pw ((up r : Int) - 1074) by omega]
  · left
    rw [p2, p3]
    by_cases hc : (up r : Int) - 1074 < -1022
    · simp only [if_pos hc]
      exact ⟨((up r : Int) - 1074 + 1074).toNat, by omega, by rw [Nat.one_mul]⟩
    · simp only [if_neg hc]
      exact ⟨52, by omega, rfl⟩

/-- Half way between two neighbours of 53 bits. -/
theorem nearest_half (neg : Bool) {R U : Nat} (h1 : 4503599627370496 ≤ R) (h2 : R < 9007199254740992) (hU : 1 ≤ U) :
    ∃ k, (k = R ∨ k = R + 1) ∧ Ieee.double.nearest neg (2 * R + 1) (-1074 + ((U - 1 : Nat) : Int)) = Ieee.double.word neg (min (U * 4503599627370496 + k) 9218868437227405312) := by
  have s2 : Ieee.double.binade = 4503599627370496 := by decide
  have s3 : Ieee.double.infRung = 9218868437227405312 := by decide
  have s4 : Ieee.double.leastPlace = -1074 := by decide
  have s5 : (Ieee.double.fractionBits : Int) = 52 := by decide
  have hl : (2 * R + 1).log2 = 53 := log2_eq (by omega) (by omega)
  unfold Ieee.Format.nearest
  simp only [s2, s3, s4, s5, hl]
  rw [if_neg (by omega)]
  have hlast : max (-1074 + ((U - 1 : Nat) : Int) + ((53 : Nat) : Int) - 52) (-1074) = (U : Int) - 1074 := by omega
  rw [hlast]
  have e1 : (-1074 + ((U - 1 : Nat) : Int) - ((U : Int) - 1074)).toNat = 0 := by omega
  have e2 : ((U : Int) - 1074 - (-1074 + ((U - 1 : Nat) : Int))).toNat = 1 := by omega
  have e3 : ((U : Int) - 1074 - -1074).toNat = U := by omega
  rw [e1, e2, e3, Nat.shiftLeft_zero]
  refine ⟨Ieee.Toward.even.cut neg (2 * R + 1) 1, ?_, rfl⟩
  unfold Ieee.Toward.cut
  simp only [hl]
  have hm : min 1 (53 + 2) = 1 := rfl
  simp only [hm, Nat.one_shiftLeft, Nat.pow_one]
  rw [show (2 * R + 1) / 2 = R by omega, show (2 * R + 1) % 2 = 1 by omega]
  cases h : (decide (2 < 2 * 1) || (2 == 2 * 1 && R % 2 == 1))
  · left; rfl
  · right; rfl
end Go.Proofs.YtmcnnnmlacpppaaDoor
