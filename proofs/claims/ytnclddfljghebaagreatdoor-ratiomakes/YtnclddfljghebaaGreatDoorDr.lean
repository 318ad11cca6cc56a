/- Rounding a dyad's size to a float, as a plain function on words; a float's own dyad is rounded to it; no program in this text. -/
import Derived.Test.YtnclddfljghebaaGreatDoorZa
import Derived.Test.YtnclddfljghebaaGreatDoorZg
namespace Go.Proofs.YtnclddfljghebaaGreatDoor
open Go.RowKit

/-- The word of kept times 2^last, kept of 53 bits, or last the least place. -/
def rW (kept : Nat) (last : Int) : Nat := (last + 1074).toNat * 4503599627370496 + kept
theorem jR_eq {f k : Nat} {e : Int} (h0 : f ≠ 0) (hlt : f * 2 ^ k < 9007199254740992) (he : -1074 ≤ e - k) (hor : e - k = -1074 ∨ 4503599627370496 ≤ f * 2 ^ k) : jR f e = rW (f * 2 ^ k) (e - k) := by
  have hl : (f * 2 ^ k).log2 = f.log2 + k := log2_mul h0
  have hne : f * 2 ^ k ≠ 0 := by have := Nat.mul_pos (Nat.pos_of_ne_zero h0) (Nat.two_pow_pos k); omega
  have h53 : f.log2 + k < 53 := by rw [← hl]; exact (Nat.log2_lt hne).2 (by omega)
  unfold jR rW jU jM
  by_cases hb : 4503599627370496 ≤ f * 2 ^ k
  · have h52 : f.log2 + k = 52 := by rw [← hl]; exact log2_eq (by omega) (by omega)
    rw [if_pos (by omega), if_pos (by omega), show 52 - f.log2 = k by omega, show (e + (f.log2 : Int) + 1022).toNat = (e - k + 1074).toNat by omega]
  · have h52 : f.log2 + k < 52 := by rw [← hl]; exact (Nat.log2_lt hne).2 (by omega)
    have h1 : e - k = -1074 := by omega
    rw [if_neg (by omega), if_neg (by omega), show (e + 1074).toNat = k by omega, show (e - k + 1074).toNat = 0 by omega]
theorem rW_lt {kept : Nat} {last : Int} (h1 : kept ≤ 9007199254740992) (h2 : last ≤ 971) : rW kept last ≤ 9218868437227405312 := by unfold rW; omega

theorem ofInt_zero : floatOfInt .f64 (0 : Int) = 0 := by decide
theorem ofInt_top : floatOfInt .f64 (9007199254740992 : Int) = 4845873199050653696 := by decide
theorem mul_zero {e : Int} (h1 : -1074 ≤ e) (h2 : e ≤ 1023) : floatBits .mul .f64 0 (pw e) = some 0 := by
  obtain ⟨p1, p2, p3⟩ := pw_ok h1 h2
  have r0 : Ieee.double.read 0 = .number false 0 (-1074) := by decide
  unfold floatBits
  simp only [fmt64, Ieee.Format.mul]
  rw [r0, read_pos p1]
  simp only [Ieee.Datum.product, Option.map_some, Ieee.Format.write, Option.some.injEq]
  rw [Bool.xor_self, Nat.zero_mul]
  unfold Ieee.Format.nearest
  rw [if_pos rfl]; rfl
theorem top_min {e : Int} (h1 : -1074 ≤ e) (h2 : e ≤ 971) : min ((e + 1075).toNat * 4503599627370496 + 4503599627370496) 9218868437227405312 = rW 9007199254740992 e := by unfold rW; omega
theorem top_near {e : Int} (h1 : -1074 ≤ e) : (∃ d : Nat, -1074 + ((1075 : Nat) : Int) + (-1074 + ((if e < -1022 then 0 else (e + 1022).toNat : Nat) : Int)) = ((e + 1075).toNat : Int) - 1074 + d ∧ 4503599627370496 * (if e < -1022 then 2 ^ (e + 1074).toNat else 4503599627370496) * 2 ^ d = 4503599627370496) ∨
    (∃ d : Nat, -1074 + ((1075 : Nat) : Int) + (-1074 + ((if e < -1022 then 0 else (e + 1022).toNat : Nat) : Int)) + d = ((e + 1075).toNat : Int) - 1074 ∧ 4503599627370496 * (if e < -1022 then 2 ^ (e + 1074).toNat else 4503599627370496) = 4503599627370496 * 2 ^ d) := by
  right
  by_cases hc : e < -1022
  · simp only [if_pos hc]
    exact ⟨(e + 1074).toNat, by omega, rfl⟩
  · simp only [if_neg hc]
    exact ⟨52, by omega, by rw [show (2 : Nat) ^ 52 = 4503599627370496 from rfl]⟩
theorem mul_top {e : Int} (h1 : -1074 ≤ e) (h2 : e ≤ 971) : floatBits .mul .f64 4845873199050653696 (pw e) = some (rW 9007199254740992 e) := by
  obtain ⟨p1, p2, p3⟩ := pw_ok h1 (show e ≤ 1023 by omega)
  have t1 : mg 4845873199050653696 = 4503599627370496 := by decide
  have t2 : up 4845873199050653696 = 1075 := by decide
  have n := nearest_val false _ _ 4503599627370496 (e + 1075).toNat (by decide) (by decide) (Or.inr (Nat.le_refl _)) (top_near h1)
  rw [top_min h1 h2, word_pos] at n
  have r1 := read_pos (show 4845873199050653696 < 9218868437227405312 by decide)
  have r2 := read_pos p1
  rw [t1, t2] at r1
  rw [p2, p3] at r2
  unfold floatBits
  simp only [fmt64, Ieee.Format.mul, r1, r2, Ieee.Datum.product, Option.map_some, Ieee.Format.write, Option.some.injEq, Bool.xor_self]
  exact n
/-- The product that rounds nothing. -/
theorem mul_kept {kept : Nat} {last : Int} (hk : kept ≤ 9007199254740992) (h1 : -1074 ≤ last) (h2 : last ≤ 971) (hor : last = -1074 ∨ 4503599627370496 ≤ kept) :
    ∃ c, floatOfInt .f64 (kept : Int) = c ∧ floatBits .mul .f64 c (pw last) = some (rW kept last) := by
  by_cases h0 : kept = 0
  · subst h0
    have : last = -1074 := by omega
    subst this
    exact ⟨0, ofInt_zero, by rw [mul_zero (by omega) (by omega)]; rfl⟩
  · by_cases ht : kept = 9007199254740992
    · subst ht
      exact ⟨_, ofInt_top, mul_top h1 h2⟩
    · have hlt : kept < 9007199254740992 := by omega
      refine ⟨_, ofInt_eq h0 hlt, ?_⟩
      rw [mul_eq h0 hlt h1 (by omega)]
      have e := jR_eq (f := kept) (k := 0) (e := last) h0 (by omega) (by omega) (by rw [Nat.pow_zero, Nat.mul_one]; omega)
      rw [Nat.pow_zero, Nat.mul_one, show last - ((0 : Nat) : Int) = last by omega] at e
      have := rW_lt hk h2
      rw [e, Nat.min_eq_left this]

/-- The last place that is kept. -/
def rLa (v : Nat) (e : Int) : Int := max ((bl v : Int) + e - 53) (-1074)
def rDr (v : Nat) (e : Int) : Int := rLa v e - e
/-- Is what is kept made one greater? (m: 0 Nearest, 2 Up, 3 Zero.) -/
def rUp (v : Nat) (dr : Int) (m : Int) : Bool := if m = 0 then (win v (dr - 1) % 2 == 1) && (decide (1 < dr) || (win v dr % 2 == 1)) else m == 2
def rKp (v : Nat) (e m : Int) : Nat := if 0 < rDr v e ∧ rUp v (rDr v e) m = true then win v (rDr v e) + 1 else win v (rDr v e)
def rSz (v : Nat) (e m : Int) : Nat := if 1024 < (bl v : Int) + e then (if m = 3 then 9218868437227405311 else 9218868437227405312) else rW (rKp v e m) (rLa v e)

/-- What is kept at the last place, before it is made greater: below 2^53, and of 53 bits unless the place is the least. -/
theorem kept_bd {v : Nat} {e : Int} (h0 : v ≠ 0) (hh : (bl v : Int) + e ≤ 1024) : win v (rDr v e) = shr v (rDr v e) ∧ shr v (rDr v e) < 9007199254740992 ∧ -1074 ≤ rLa v e ∧ rLa v e ≤ 971 ∧ (rLa v e = -1074 ∨ 4503599627370496 ≤ shr v (rDr v e)) := by
  have hb := bl_spec h0
  have hla : rLa v e = (bl v : Int) + e - 53 ∨ (rLa v e = -1074 ∧ (bl v : Int) + e - 53 ≤ -1074) := by unfold rLa; omega
  have key : shr v (rDr v e) < 9007199254740992 ∧ (rLa v e = -1074 ∨ 4503599627370496 ≤ shr v (rDr v e)) := by
    unfold shr
    by_cases hd : 0 ≤ rDr v e
    · rw [if_pos hd]
      have e1 : bl (v / 2 ^ (rDr v e).toNat) = bl v - (rDr v e).toNat := bl_div
      have hle : bl (v / 2 ^ (rDr v e).toNat) ≤ 53 := by rw [e1]; unfold rDr at *; omega
      refine ⟨by have := bl_le_iff.1 hle; omega, ?_⟩
      rcases hla with h | ⟨h, _⟩
      · right
        have e2 : bl (v / 2 ^ (rDr v e).toNat) = 53 := by rw [e1]; unfold rDr at *; omega
        have hn : v / 2 ^ (rDr v e).toNat ≠ 0 := by intro hz; rw [hz] at e2; simp [bl] at e2
        have := (bl_spec hn).1
        rw [e2] at this
        omega
      · exact Or.inl h
    · rw [if_neg hd]
      have e1 : bl (v * 2 ^ (-(rDr v e)).toNat) = bl v + (-(rDr v e)).toNat := bl_mul_pow h0
      have hle : bl (v * 2 ^ (-(rDr v e)).toNat) ≤ 53 := by rw [e1]; unfold rDr at *; omega
      refine ⟨by have := bl_le_iff.1 hle; omega, ?_⟩
      rcases hla with h | ⟨h, _⟩
      · right
        have e2 : bl (v * 2 ^ (-(rDr v e)).toNat) = 53 := by rw [e1]; unfold rDr at *; omega
        have hn : v * 2 ^ (-(rDr v e)).toNat ≠ 0 := by intro hz; rw [hz] at e2; simp [bl] at e2
        have := (bl_spec hn).1
        rw [e2] at this
        omega
      · exact Or.inl h
  refine ⟨by unfold win; rw [Nat.mod_eq_of_lt (by omega)], key.1, by unfold rLa; omega, by unfold rLa; omega, key.2⟩

/-- The parts of a finite float that is not nought, by its magnitude. -/
theorem sp_parts {a : Nat} (h0 : rung a ≠ 0) : spF a * 2 ^ spZ a = mg (rung a) ∧ spF a % 2 = 1 ∧ spE a = (up (rung a) : Int) - 1074 + spZ a := by
  have hlt := mg_lt (rung a)
  have hne := mg_ne h0
  obtain ⟨m, hm, hz⟩ := Lib.ctzFrom_spec 64 (mg (rung a)) (by omega) (by omega)
  have e : spZ a = Lib.ctzFrom 64 (mg (rung a)) := by unfold spZ Lib.ctz; rw [if_neg hne]
  rw [← e] at hm
  have hF : spF a = 2 * m + 1 := by
    unfold spF; rw [if_neg h0]
    rw [Nat.div_eq_of_eq_mul_right (Nat.two_pow_pos _) hm]
  exact ⟨by rw [hF, hm, Nat.mul_comm], by omega, by unfold spE; rw [if_neg h0]⟩
theorem sp_bd {a : Nat} (hf : finB a = true) (h0 : rung a ≠ 0) : spF a ≠ 0 ∧ spF a < 9007199254740992 ∧ spZ a < 53 ∧ -1074 ≤ spE a ∧ spE a ≤ 1023 ∧ up (rung a) < 2046 := by
  obtain ⟨p1, p2, p3⟩ := sp_parts h0
  have hlt := mg_lt (rung a)
  have hr : rung a < 9218868437227405312 := by unfold finB at hf; simpa using hf
  have hu : up (rung a) < 2046 := by unfold up; split <;> omega
  have h1 : spF a ≤ spF a * 2 ^ spZ a := Nat.le_mul_of_pos_right _ (Nat.two_pow_pos _)
  have h2 : 2 ^ spZ a ≤ spF a * 2 ^ spZ a := Nat.le_mul_of_pos_left _ (by omega)
  have h3 : 2 ^ spZ a < 2 ^ 53 := by omega
  have h4 : spZ a < 53 := (Nat.pow_lt_pow_iff_right (by omega : 1 < 2)).1 h3
  omega
theorem sp_join {a : Nat} (hf : finB a = true) (h0 : rung a ≠ 0) : jR (spF a) (spE a) = rung a ∧ okP (spF a) (spE a) = true := by
  obtain ⟨p1, p2, p3⟩ := sp_parts h0
  obtain ⟨b1, b2, b3, b4, b5, b6⟩ := sp_bd hf h0
  have hlt := mg_lt (rung a)
  have hm := mg_up_ok (rung a)
  have hg := rung_mg (rung a)
  have e := jR_eq (f := spF a) (k := spZ a) (e := spE a) b1 (by rw [p1]; exact hlt) (by omega) (by rw [p1]; omega)
  rw [p1] at e
  have e2 : jR (spF a) (spE a) = rung a := by
    rw [e]; unfold rW
    rw [show spE a - (spZ a : Int) + 1074 = (up (rung a) : Int) by omega, Int.toNat_natCast]
    omega
  have hr : rung a < 9218868437227405312 := by unfold finB at hf; simpa using hf
  refine ⟨e2, ?_⟩
  unfold okP; rw [if_neg b1, e2]; simp; omega
/-- A float's own dyad is rounded to it. -/
theorem rSz_self {a : Nat} (hf : finB a = true) (h0 : rung a ≠ 0) (m : Int) : rSz (spF a) (spE a) m = rung a := by
  obtain ⟨p1, p2, p3⟩ := sp_parts h0
  obtain ⟨b1, b2, b3, b4, b5, b6⟩ := sp_bd hf h0
  have hlt := mg_lt (rung a)
  have hm := mg_up_ok (rung a)
  have hg := rung_mg (rung a)
  have hbl : bl (mg (rung a)) = bl (spF a) + spZ a := by rw [← p1]; exact bl_mul_pow b1
  have hle : bl (mg (rung a)) ≤ 53 := bl_le_iff.2 (by omega)
  have hge : up (rung a) = 0 ∨ bl (mg (rung a)) = 53 := by
    rcases hm with h | h
    · exact Or.inl h
    · exact Or.inr (bl_of (n := 52) (by omega) (by omega))
  have hla : rLa (spF a) (spE a) = (up (rung a) : Int) - 1074 := by unfold rLa; omega
  have hdr : rDr (spF a) (spE a) = -(spZ a : Int) := by unfold rDr; omega
  have hw : win (spF a) (rDr (spF a) (spE a)) = mg (rung a) := by
    rw [hdr]; unfold win shr
    by_cases hz : spZ a = 0
    · rw [if_pos (by omega), show (-(spZ a : Int)).toNat = 0 by omega, Nat.pow_zero, Nat.div_one]
      rw [hz, Nat.pow_zero, Nat.mul_one] at p1
      omega
    · rw [if_neg (by omega), show (- -(spZ a : Int)).toNat = spZ a by omega, p1]
      omega
  unfold rSz
  rw [if_neg (by omega)]
  unfold rKp
  rw [if_neg (by omega), hw, hla]
  unfold rW
  rw [show (up (rung a) : Int) - 1074 + 1074 = (up (rung a) : Int) by omega, Int.toNat_natCast]
  omega
end Go.Proofs.YtnclddfljghebaaGreatDoor
