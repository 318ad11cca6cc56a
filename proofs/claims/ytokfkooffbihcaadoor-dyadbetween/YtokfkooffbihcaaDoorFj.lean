/- What Join puts together, as plain functions: the rung of f times 2^e; that a product of the float of f and of 2^e is just that, or infinity. -/
import Derived.Test.YtokfkooffbihcaaDoorFx
namespace Go.Proofs.YtokfkooffbihcaaDoor
open Go.RowKit

def jU (f : Nat) (e : Int) : Nat := if -1022 ≤ e + f.log2 then (e + f.log2 + 1022).toNat else 0
def jM (f : Nat) (e : Int) : Nat := if -1022 ≤ e + f.log2 then f * 2 ^ (52 - f.log2) else f * 2 ^ (e + 1074).toNat
/-- The rung of f times 2^e. -/
def jR (f : Nat) (e : Int) : Nat := jU f e * 4503599627370496 + jM f e
/-- The word of 2^e. -/
def pw (e : Int) : Nat := if e < -1022 then 2 ^ (e + 1074).toNat else (e + 1023).toNat * 4503599627370496
/-- The word of the whole number f. -/
def fwd (f : Nat) : Nat := (1022 + f.log2) * 4503599627370496 + f * 2 ^ (52 - f.log2)

theorem log2_lt53 {f : Nat} (h0 : f ≠ 0) (h : f < 9007199254740992) : f.log2 < 53 := (Nat.log2_lt h0).2 (by omega)
theorem norm_bd {f : Nat} (h0 : f ≠ 0) (h : f < 9007199254740992) : 4503599627370496 ≤ f * 2 ^ (52 - f.log2) ∧ f * 2 ^ (52 - f.log2) < 9007199254740992 := by
  have hl := log2_lt53 h0 h
  have h1 := Nat.log2_self_le h0
  have h2 := Nat.lt_log2_self (n := f)
  constructor
  · calc 4503599627370496 = 2 ^ f.log2 * 2 ^ (52 - f.log2) := by rw [← Nat.pow_add, show f.log2 + (52 - f.log2) = 52 by omega]
      _ ≤ _ := Nat.mul_le_mul_right _ h1
  · calc f * 2 ^ (52 - f.log2) < 2 ^ (f.log2 + 1) * 2 ^ (52 - f.log2) := Nat.mul_lt_mul_of_pos_right h2 (Nat.two_pow_pos _)
      _ = 9007199254740992 := by rw [← Nat.pow_add, show f.log2 + 1 + (52 - f.log2) = 53 by omega]
theorem sub_bd {f : Nat} {e : Int} (he : e + f.log2 < -1022) (he2 : -1074 ≤ e) : f * 2 ^ (e + 1074).toNat < 4503599627370496 := by
  have h2 := Nat.lt_log2_self (n := f)
  calc f * 2 ^ (e + 1074).toNat < 2 ^ (f.log2 + 1) * 2 ^ (e + 1074).toNat := Nat.mul_lt_mul_of_pos_right h2 (Nat.two_pow_pos _)
    _ = 2 ^ (f.log2 + 1 + (e + 1074).toNat) := (Nat.pow_add _ _ _).symm
    _ ≤ 2 ^ 52 := Nat.pow_le_pow_right (by omega) (by omega)
theorem jM_ok {f : Nat} {e : Int} (h0 : f ≠ 0) (h : f < 9007199254740992) (he : -1074 ≤ e) : jM f e < 9007199254740992 ∧ jM f e ≠ 0 ∧ (jU f e = 0 ∨ 4503599627370496 ≤ jM f e) := by
  unfold jM jU
  by_cases hc : -1022 ≤ e + f.log2
  · have := norm_bd h0 h
    simp only [if_pos hc]
    omega
  · have := sub_bd (f := f) (by omega) he
    have hp := Nat.mul_pos (Nat.pos_of_ne_zero h0) (Nat.two_pow_pos (e + 1074).toNat)
    simp only [if_neg hc]
    exact ⟨by omega, by omega, Or.inl trivial⟩
theorem fwd_ok {f : Nat} (h0 : f ≠ 0) (h : f < 9007199254740992) : fwd f < 9218868437227405312 ∧ mg (fwd f) = f * 2 ^ (52 - f.log2) ∧ up (fwd f) = 1022 + f.log2 := by
  have hl := log2_lt53 h0 h
  have := norm_bd h0 h
  have := mg_of (U := 1022 + f.log2) (M := f * 2 ^ (52 - f.log2)) (by omega) (Or.inr (by omega))
  unfold fwd
  exact ⟨by omega, this.1, this.2⟩
theorem pw_ok {e : Int} (h1 : -1074 ≤ e) (h2 : e ≤ 1023) : pw e < 9218868437227405312 ∧ mg (pw e) = (if e < -1022 then 2 ^ (e + 1074).toNat else 4503599627370496) ∧ up (pw e) = (if e < -1022 then 0 else (e + 1022).toNat) := by
  unfold pw
  by_cases hc : e < -1022
  · simp only [if_pos hc]
    have hb : 2 ^ (e + 1074).toNat < 4503599627370496 := by
      calc 2 ^ (e + 1074).toNat < 2 ^ 52 := Nat.pow_lt_pow_right (by omega) (by omega)
        _ = _ := rfl
    have := mg_of (U := 0) (M := 2 ^ (e + 1074).toNat) (by omega) (Or.inl rfl)
    rw [Nat.zero_mul, Nat.zero_add] at this
    exact ⟨by omega, this.1, this.2⟩
  · simp only [if_neg hc]
    have := mg_of (U := (e + 1022).toNat) (M := 4503599627370496) (by omega) (Or.inr (by omega))
    rw [show (e + 1022).toNat * 4503599627370496 + 4503599627370496 = (e + 1023).toNat * 4503599627370496 by omega] at this
    exact ⟨by omega, this.1, this.2⟩

theorem ofInt_eq {f : Nat} (h0 : f ≠ 0) (h : f < 9007199254740992) : floatOfInt .f64 (f : Int) = fwd f := by
  have hl := log2_lt53 h0 h
  have hb := norm_bd h0 h
  have := nearest_val false f 0 (f * 2 ^ (52 - f.log2)) (1022 + f.log2) (by omega) (by omega) (Or.inr (by omega)) (Or.inl ⟨52 - f.log2, by omega, rfl⟩)
  unfold floatOfInt FloatKind.nearest FloatKind.encode
  rw [fmt64, show decide ((f : Int) < 0) = false by simp, Int.natAbs_natCast]
  simp only [Ieee.Format.write]
  rw [this, word_pos]
  unfold fwd
  omega

theorem fin_of {r : Nat} (h : r < 9218868437227405312) : finB r = true := by unfold finB; rw [rung_small (by omega)]; simpa using h
theorem read_pos {r : Nat} (h : r < 9218868437227405312) : Ieee.double.read r = .number false (mg r) (-1074 + (up r : Nat)) := by
  rw [read_fin (by omega) (fin_of h), rung_small (by omega), sgn_small (by omega)]

/-- The product of the float of f and of 2^e. -/
theorem mul_eq {f : Nat} {e : Int} (h0 : f ≠ 0) (h : f < 9007199254740992) (h1 : -1074 ≤ e) (h2 : e ≤ 1023) :
    floatBits .mul .f64 (fwd f) (pw e) = some (min (jR f e) 9218868437227405312) := by
  obtain ⟨f1, f2, f3⟩ := fwd_ok h0 h
  obtain ⟨p1, p2, p3⟩ := pw_ok h1 h2
  obtain ⟨j1, j2, j3⟩ := jM_ok h0 h h1
  have hl := log2_lt53 h0 h
  unfold floatBits
  simp only [fmt64, Ieee.Format.mul]
  rw [read_pos f1, read_pos p1]
  simp only [Ieee.Datum.product, Option.map_some, Ieee.Format.write, Option.some.injEq]
  rw [Bool.xor_self]
  have := nearest_val false (mg (fwd f) * mg (pw e)) (-1074 + (up (fwd f) : Nat) + (-1074 + (up (pw e) : Nat))) (jM f e) (jU f e) j1 j2 j3 ?_
  · rw [this, word_pos]; unfold jR; exact Eq.refl _
  · right
    rw [f2, f3, p2, p3]
    unfold jM jU
    by_cases hc : e < -1022
    · simp only [if_pos hc]
      by_cases hd : -1022 ≤ e + f.log2
      · simp only [if_pos hd]
        exact ⟨(e + 1074).toNat, by omega, rfl⟩
      · simp only [if_neg hd]
        refine ⟨52 - f.log2, by omega, ?_⟩
        rw [Nat.mul_assoc, Nat.mul_assoc, Nat.mul_comm (2 ^ (52 - f.log2))]
    · have hd : -1022 ≤ e + f.log2 := by omega
      simp only [if_neg hc, if_pos hd]
      exact ⟨52, by omega, by rw [show (2 : Nat) ^ 52 = 4503599627370496 from rfl]⟩

/-- Are these the parts of a finite float? -/
def okP (f : Nat) (e : Int) : Bool := if f = 0 then decide (e = 0) else decide (f % 2 = 1 ∧ f < 9007199254740992 ∧ -1074 ≤ e ∧ e ≤ 1023 ∧ jR f e < 9218868437227405312)
/-- The size that they tell, as a word. -/
def valR (f : Nat) (e : Int) : Nat := if f = 0 then 0 else if okP f e then jR f e else 0
/-- The float that they tell. -/
def joinF (n : Bool) (f : Nat) (e : Int) : Nat := if okP f e then (if n then 9223372036854775808 + valR f e else valR f e) else 0
theorem valR_lt (f : Nat) (e : Int) : valR f e < 9218868437227405312 := by
  unfold valR okP
  by_cases h : f = 0
  · rw [if_pos h]; omega
  · rw [if_neg h, if_neg h]
    split
    · rename_i g; simp at g; omega
    · omega
theorem odd_and {f : Nat} (h : f < 18446744073709551616) : bits .and .u64 (f : Int) 1 = ((f % 2 : Nat) : Int) := by
  have h := u64_and_nat f 1 h (by omega)
  have e2 : ((1 : Nat) : Int) = 1 := rfl
  rw [e2] at h
  rw [h]
  have := Nat.and_two_pow_sub_one_eq_mod f 1
  rw [show (2 : Nat) ^ 1 - 1 = 1 from rfl, show (2 : Nat) ^ 1 = 2 from rfl] at this
  rw [this]
theorem pw_low {n : Int} (h1 : -1074 ≤ n) (hc : n < -1022) : (IntKind.u64.wrap (2 ^ (n + 1074).toNat)).toNat = pw n := by
  unfold pw
  rw [if_pos hc, IntKind.wrap_u64]
  have hb : 2 ^ (n + 1074).toNat < 4503599627370496 := by
    calc 2 ^ (n + 1074).toNat < 2 ^ 52 := Nat.pow_lt_pow_right (by omega) (by omega)
      _ = _ := rfl
  have e : (2 : Int) ^ (n + 1074).toNat = ((2 ^ (n + 1074).toNat : Nat) : Int) := by rw [Int.natCast_pow]; rfl
  rw [e]
  generalize 2 ^ (n + 1074).toNat = t at *
  omega
theorem pw_high {n : Int} (hc : -1022 ≤ n) : ((n + 1023) * 4503599627370496).toNat = pw n := by
  unfold pw
  rw [if_neg (by omega)]
  omega
end Go.Proofs.YtokfkooffbihcaaDoor
