/- Narrow floats among floats: the float that a narrow one is (wd, bk), that it keeps the order, and that rounding it to a narrow one gives it back. -/
import Derived.Test.YtlmmjbllbjeoiaaGreatDoorXa
import Derived.Test.YtlmmjbllbjeoiaaGreatDoorZg
namespace Go.Proofs.YtlmmjbllbjeoiaaGreatDoor
open Go.RowKit

/-- The rung, among floats, of what a rung of narrow floats stands for. -/
def wd (r : Nat) : Nat := if r = 0 then 0 else (S.up r + 873 + (S.mg r).log2) * 4503599627370496 + S.mg r * 2 ^ (52 - (S.mg r).log2)
theorem s_mg_lt (r : Nat) : S.mg r < 16777216 := by unfold S.mg; split <;> omega
theorem s_mg_ne {r : Nat} (h : r ≠ 0) : S.mg r ≠ 0 := by unfold S.mg; split <;> omega
theorem s_log {r : Nat} (h : r ≠ 0) : (S.mg r).log2 ≤ 23 := by
  have := (Nat.log2_lt (s_mg_ne h)).2 (show S.mg r < 2 ^ 24 from s_mg_lt r)
  omega
theorem s_full {r : Nat} (h : r ≠ 0) : 4503599627370496 ≤ S.mg r * 2 ^ (52 - (S.mg r).log2) ∧ S.mg r * 2 ^ (52 - (S.mg r).log2) < 9007199254740992 := by
  have h1 := Nat.log2_self_le (s_mg_ne h)
  have h2 := Nat.lt_log2_self (n := S.mg r)
  have hl := s_log h
  have e : (2 : Nat) ^ (S.mg r).log2 * 2 ^ (52 - (S.mg r).log2) = 4503599627370496 := by
    rw [← Nat.pow_add, show (S.mg r).log2 + (52 - (S.mg r).log2) = 52 by omega]
  have hp := Nat.two_pow_pos (52 - (S.mg r).log2)
  constructor
  · rw [← e]; exact Nat.mul_le_mul_right _ h1
  · have e2 : (2 : Nat) ^ ((S.mg r).log2 + 1) * 2 ^ (52 - (S.mg r).log2) = 9007199254740992 := by
      rw [Nat.pow_succ, Nat.mul_right_comm, e]
    rw [← e2]; exact Nat.mul_lt_mul_of_pos_right h2 hp
theorem wd_mg {r : Nat} (h : r ≠ 0) : mg (wd r) = S.mg r * 2 ^ (52 - (S.mg r).log2) ∧ up (wd r) = S.up r + 873 + (S.mg r).log2 := by
  obtain ⟨h1, h2⟩ := s_full h
  have e : wd r = (S.up r + 873 + (S.mg r).log2) * 4503599627370496 + S.mg r * 2 ^ (52 - (S.mg r).log2) := by unfold wd; rw [if_neg h]
  rw [e]
  exact mg_of h2 (Or.inr h1)
def gapS : Nat := 925
theorem wd_val (r : Nat) : val (wd r) = S.val r * 2 ^ gapS := by
  have hg : gapS = 925 := rfl
  by_cases h : r = 0
  · subst h
    rw [show wd 0 = 0 from rfl, val_zero, S.val_zero, Nat.zero_mul]
  · obtain ⟨h1, h2⟩ := wd_mg h
    have hl := s_log h
    rw [← mg_up, ← S.mg_up, h1, h2, Nat.mul_assoc, Nat.mul_assoc, ← Nat.pow_add, ← Nat.pow_add]
    congr 2
    omega
theorem wd_lt_iff (r q : Nat) : wd r < wd q ↔ r < q := by
  rw [← val_lt_iff, wd_val, wd_val, ← S.val_lt_iff r q]
  have hp := Nat.two_pow_pos gapS
  generalize 2 ^ gapS = t at *
  exact Nat.mul_lt_mul_right hp
theorem wd_inj {r q : Nat} (h : wd r = wd q) : r = q := by
  have h1 := wd_lt_iff r q
  have h2 := wd_lt_iff q r
  omega
theorem wd_zero : wd 0 = 0 := rfl
theorem wd_fin {r : Nat} (h : r < 2139095040) : wd r < 5205706080661602304 := by
  by_cases h0 : r = 0
  · subst h0; decide
  · obtain ⟨h1, h2⟩ := s_full h0
    have hl := s_log h0
    have hu : S.up r ≤ 253 := by unfold S.up; split <;> omega
    unfold wd
    rw [if_neg h0]
    have : (S.up r + 873 + (S.mg r).log2) * 4503599627370496 ≤ 1149 * 4503599627370496 := Nat.mul_le_mul_right _ (by omega)
    omega
/-- The rung of what stands at a narrow rung, the infinity's too. -/
def wr (r : Nat) : Nat := if r = 2139095040 then 9218868437227405312 else wd r
theorem wr_lt_iff {r q : Nat} (hr : r ≤ 2139095040) (hq : q ≤ 2139095040) : wr r < wr q ↔ r < q := by
  have h := wd_lt_iff r q
  unfold wr
  by_cases e1 : r = 2139095040
  · rw [if_pos e1]
    by_cases e2 : q = 2139095040
    · rw [if_pos e2]; omega
    · rw [if_neg e2]
      have := wd_fin (show q < 2139095040 by omega)
      omega
  · rw [if_neg e1]
    have := wd_fin (show r < 2139095040 by omega)
    by_cases e2 : q = 2139095040
    · rw [if_pos e2]; omega
    · rw [if_neg e2]; exact h
theorem wr_le {r : Nat} (hr : r ≤ 2139095040) : wr r ≤ 9218868437227405312 := by
  unfold wr
  split
  · omega
  · have := wd_fin (show r < 2139095040 by omega); omega
theorem wr_zero : wr 0 = 0 := rfl
/-- The float that a narrow one is, NaN left aside. -/
def bk (b : Nat) : Nat := Ieee.double.word (S.sgn b) (wr (S.rung b))
theorem s_rung_lt (a : Nat) : S.rung a < 2147483648 := by unfold S.rung; omega
theorem s_rung_of (a : Nat) (ha : a < 4294967296) : a = if S.sgn a then 2147483648 + S.rung a else S.rung a := by
  unfold S.sgn S.rung
  by_cases h : 2147483648 ≤ a
  · simp [h]; omega
  · simp [h]; omega
theorem s_nan_le {b : Nat} (h : S.nanB b = false) : S.rung b ≤ 2139095040 := by
  unfold S.nanB at h; simpa using h
theorem bk_parts {b : Nat} (h : S.nanB b = false) : rung (bk b) = wr (S.rung b) ∧ sgn (bk b) = S.sgn b ∧ bk b < 18446744073709551616 ∧ nanB (bk b) = false := by
  have hw := wr_le (s_nan_le h)
  unfold bk
  cases S.sgn b
  · rw [word_pos]
    have e : rung (wr (S.rung b)) = wr (S.rung b) := by unfold rung; omega
    refine ⟨e, ?_, by omega, ?_⟩
    · unfold sgn; simp; omega
    · unfold nanB; rw [e]; simp; omega
  · rw [word_neg]
    have e : rung (9223372036854775808 + wr (S.rung b)) = wr (S.rung b) := by unfold rung; omega
    refine ⟨e, ?_, by omega, ?_⟩
    · unfold sgn; simp
    · unfold nanB; rw [e]; simp; omega
theorem bk_fin {b : Nat} (h : S.nanB b = false) : finB (bk b) = S.finB b := by
  unfold finB S.finB
  rw [(bk_parts h).1]
  have := wr_lt_iff (s_nan_le h) (Nat.le_refl 2139095040)
  rw [decide_eq_decide, ← this]
  unfold wr; simp
theorem bk_place {a b : Nat} (ha : S.nanB a = false) (hb : S.nanB b = false) : place (bk a) < place (bk b) ↔ S.place a < S.place b := by
  obtain ⟨a1, a2, _, _⟩ := bk_parts ha
  obtain ⟨b1, b2, _, _⟩ := bk_parts hb
  have la := s_nan_le ha
  have lb := s_nan_le hb
  have h1 := wr_lt_iff la lb
  have h2 := wr_lt_iff lb la
  have h3 := wr_lt_iff (Nat.zero_le 2139095040) la
  have h4 := wr_lt_iff (Nat.zero_le 2139095040) lb
  rw [wr_zero] at h3 h4
  unfold place S.place
  rw [a1, a2, b1, b2]
  cases S.sgn a <;> cases S.sgn b <;> simp only [if_true, if_false, Bool.false_eq_true] <;> omega
theorem bk_place_eq {a b : Nat} (ha : S.nanB a = false) (hb : S.nanB b = false) : place (bk a) = place (bk b) ↔ S.place a = S.place b := by
  have h1 := bk_place ha hb
  have h2 := bk_place hb ha
  omega
/-- What a finite narrow word stands for. -/
theorem s_read_fin {x : Nat} (hx : x < 4294967296) (hf : S.finB x = true) : Ieee.single.read x = .number (S.sgn x) (S.mg (S.rung x)) (-149 + (S.up (S.rung x) : Nat)) := S.read_fin hx hf
/-- A finite narrow float, told as a float. -/
theorem wide_fin {x : Nat} (hf : S.finB x = true) : Ieee.double.nearest (S.sgn x) (S.mg (S.rung x)) (-149 + (S.up (S.rung x) : Nat)) = bk x := by
  have hlt : S.rung x < 2139095040 := by simpa [S.finB] using hf
  have hw : wr (S.rung x) = wd (S.rung x) := by unfold wr; rw [if_neg (by omega)]
  unfold bk
  rw [hw]
  by_cases h0 : S.rung x = 0
  · rw [h0, show S.mg 0 = 0 from rfl, wd_zero]
    unfold Ieee.Format.nearest
    rw [if_pos rfl]
  · obtain ⟨h1, h2⟩ := s_full h0
    have hl := s_log h0
    have hwf := wd_fin hlt
    have e : wd (S.rung x) = (S.up (S.rung x) + 873 + (S.mg (S.rung x)).log2) * 4503599627370496 + S.mg (S.rung x) * 2 ^ (52 - (S.mg (S.rung x)).log2) := by unfold wd; rw [if_neg h0]
    rw [nearest_val (S.sgn x) _ _ (S.mg (S.rung x) * 2 ^ (52 - (S.mg (S.rung x)).log2)) (S.up (S.rung x) + 873 + (S.mg (S.rung x)).log2) h2 (by omega) (Or.inr h1) (Or.inl ⟨52 - (S.mg (S.rung x)).log2, by omega, rfl⟩), ← e, Nat.min_eq_left (by omega)]
/-- Rounding the float of a narrow float gives it back. -/
theorem narrow_bk {x : Nat} (hx : x < 4294967296) (hf : S.finB x = true) : Ieee.single.nearest (sgn (bk x)) (mg (rung (bk x))) (-1074 + (up (rung (bk x)) : Nat)) = x := by
  have hlt : S.rung x < 2139095040 := by simpa [S.finB] using hf
  have hn : S.nanB x = false := by unfold S.nanB; simp; omega
  obtain ⟨p1, p2, _, _⟩ := bk_parts hn
  have hw : wr (S.rung x) = wd (S.rung x) := by unfold wr; rw [if_neg (by omega)]
  have hx' : Ieee.single.word (S.sgn x) (S.rung x) = x := by
    have h := s_rung_of x hx
    have s1 : Ieee.single.signWeight = 2147483648 := by decide
    unfold Ieee.Format.word
    rw [s1]
    exact h.symm
  rw [p1, p2, hw]
  by_cases h0 : S.rung x = 0
  · rw [h0, wd_zero, show mg 0 = 0 from rfl]
    unfold Ieee.Format.nearest
    rw [if_pos rfl]
    rw [h0] at hx'
    exact hx'
  · obtain ⟨h1, h2⟩ := wd_mg h0
    have hl := s_log h0
    rw [h1, h2, S.nearest_val (S.sgn x) _ _ (S.mg (S.rung x)) (S.up (S.rung x)) (s_mg_lt _) (s_mg_ne h0) (S.mg_up_ok _) (Or.inr ⟨52 - (S.mg (S.rung x)).log2, by omega, rfl⟩), ← S.rung_mg, Nat.min_eq_left (by omega)]
    exact hx'
end Go.Proofs.YtlmmjbllbjeoiaaGreatDoor
