/- Order, Same and Between as plain functions: an order of all floats that agrees with the comparisons; what lies between sums up. No condition but that a float is a word below 2^64. -/
import Derived.Test.YtnclddfljghebaaGreatDoorZf
namespace Go.Proofs.YtnclddfljghebaaGreatDoor
open Go.RowKit

theorem log2_eq {n k : Nat} (h1 : 2 ^ k ≤ n) (h2 : n < 2 ^ (k + 1)) : n.log2 = k := by
  have hn : n ≠ 0 := by have := Nat.two_pow_pos k; omega
  have a1 : k ≤ n.log2 := (Nat.le_log2 hn).2 h1
  have a2 : n.log2 < k + 1 := (Nat.log2_lt hn).2 h2
  omega
theorem log2_mul {n d : Nat} (hn : n ≠ 0) : (n * 2 ^ d).log2 = n.log2 + d := by
  have h1 := Nat.log2_self_le hn
  have h2 := Nat.lt_log2_self (n := n)
  refine log2_eq ?_ ?_
  · rw [Nat.pow_add]; exact Nat.mul_le_mul_right _ h1
  · rw [show n.log2 + d + 1 = n.log2 + 1 + d by omega, Nat.pow_add]
    exact Nat.mul_lt_mul_of_pos_right h2 (Nat.two_pow_pos _)
theorem cut_exact (neg : Bool) (M d : Nat) (hM : M ≠ 0) : Ieee.Toward.even.cut neg (M * 2 ^ d) d = M := by
  unfold Ieee.Toward.cut
  have hl := log2_mul (d := d) hM
  have hm : min d ((M * 2 ^ d).log2 + 2) = d := by omega
  have hp := Nat.two_pow_pos d
  simp only [hm, Nat.one_shiftLeft]
  rw [Nat.mul_div_cancel _ hp, Nat.mul_mod_left]
  have : ¬ (2 ^ d < 2 * 0) := by omega
  have h3 : (2 ^ d == 2 * 0) = false := by simp
  simp [h3]

/-- The number M 2^(U - 1074), M of at most 53 bits, and of just 53 unless U is 0: its rung, or infinity's. -/
theorem nearest_val (neg : Bool) (m : Nat) (p : Int) (M U : Nat) (hM : M < 9007199254740992) (hM0 : M ≠ 0) (hU : U = 0 ∨ 4503599627370496 ≤ M)
    (h : (∃ d : Nat, p = (U : Int) - 1074 + d ∧ m * 2 ^ d = M) ∨ (∃ d : Nat, p + d = (U : Int) - 1074 ∧ m = M * 2 ^ d)) :
    Ieee.double.nearest neg m p = Ieee.double.word neg (min (U * 4503599627370496 + M) 9218868437227405312) := by
  have s2 : Ieee.double.binade = 4503599627370496 := by decide
  have s3 : Ieee.double.infRung = 9218868437227405312 := by decide
  have s4 : Ieee.double.leastPlace = -1074 := by decide
  have s5 : (Ieee.double.fractionBits : Int) = 52 := by decide
  have hlM : M.log2 < 53 := (Nat.log2_lt hM0).2 (by omega)
  have hlM2 : U = 0 ∨ M.log2 = 52 := by
    rcases hU with h | h
    · exact Or.inl h
    · exact Or.inr (log2_eq (by omega) (by omega))
  unfold Ieee.Format.nearest
  simp only [s2, s3, s4, s5]
  rcases h with ⟨d, hp, hm⟩ | ⟨d, hp, hm⟩
  · have hm0 : m ≠ 0 := by intro e; rw [e] at hm; omega
    have hl : M.log2 = m.log2 + d := by rw [← hm]; exact log2_mul hm0
    rw [if_neg hm0]
    have hlast : max (p + (m.log2 : Int) - 52) (-1074) = (U : Int) - 1074 := by omega
    rw [hlast]
    have e1 : (p - ((U : Int) - 1074)).toNat = d := by omega
    have e2 : ((U : Int) - 1074 - p).toNat = 0 := by omega
    have e3 : ((U : Int) - 1074 - -1074).toNat = U := by omega
    rw [e1, e2, e3, Nat.shiftLeft_eq, hm]
    have := cut_exact neg M 0 hM0
    rw [Nat.pow_zero, Nat.mul_one] at this
    rw [this]
  · have hm0 : m ≠ 0 := by
      intro e; rw [e] at hm
      have := Nat.mul_pos (Nat.pos_of_ne_zero hM0) (Nat.two_pow_pos d)
      omega
    have hl : m.log2 = M.log2 + d := by rw [hm]; exact log2_mul hM0
    rw [if_neg hm0]
    have hlast : max (p + (m.log2 : Int) - 52) (-1074) = (U : Int) - 1074 := by omega
    rw [hlast]
    have e1 : (p - ((U : Int) - 1074)).toNat = 0 := by omega
    have e2 : ((U : Int) - 1074 - p).toNat = d := by omega
    have e3 : ((U : Int) - 1074 - -1074).toNat = U := by omega
    rw [e1, e2, e3, Nat.shiftLeft_zero, hm, cut_exact neg M d hM0]

theorem word_pos (r : Nat) : Ieee.double.word false r = r := rfl
theorem word_neg (r : Nat) : Ieee.double.word true r = 9223372036854775808 + r := by
  have s1 : Ieee.double.signWeight = 9223372036854775808 := by decide
  unfold Ieee.Format.word; rw [s1]; rfl

/-- A rung by its magnitude and its binade. -/
theorem rung_mg (r : Nat) : r = up r * 4503599627370496 + mg r := by unfold up mg; split <;> omega
theorem mg_up_ok (r : Nat) : up r = 0 ∨ 4503599627370496 ≤ mg r := by unfold up mg; split <;> omega
theorem mg_of {U M : Nat} (hM : M < 9007199254740992) (hU : U = 0 ∨ 4503599627370496 ≤ M) : mg (U * 4503599627370496 + M) = M ∧ up (U * 4503599627370496 + M) = U := by
  unfold mg up
  rcases hU with h | h
  · subst h; (repeat' split) <;> omega
  · (repeat' split) <;> omega

/-- What a finite word stands for. -/
theorem read_fin {x : Nat} (hx : x < 18446744073709551616) (hf : finB x = true) : Ieee.double.read x = .number (sgn x) (mg (rung x)) (-1074 + (up (rung x) : Nat)) := by
  rw [read_eq x hx, if_pos (by simpa [finB] using hf)]
end Go.Proofs.YtnclddfljghebaaGreatDoor

namespace Go.Proofs.YtnclddfljghebaaGreatDoor
open Go.RowKit

def jU (f : Nat) (e : Int) : Nat := if -1022 ≤ e + f.log2 then (e + f.log2 + 1022).toNat else 0
def jM (f : Nat) (e : Int) : Nat := if -1022 ≤ e + f.log2 then f * 2 ^ (52 - f.log2) else f * 2 ^ (e + 1074).toNat
/-- The rung of f times 2^e. -/
def jR (f : Nat) (e : Int) : Nat := jU f e * 4503599627370496 + jM f e
/-- The word of 2^e. -/
def pw (e : Int) : Nat := if e < -1022 then 2 ^ (e + 1074).toNat else (e + 1023).toNat * 4503599627370496
/-- The word of the whole number f. -/
def fwd (f : Nat) : Nat := (1022 + f.log2) * 4503599627370496 + f * 2 ^ (52 - f.log2)

theorem log2_lt53 {f : Nat} (h0 : f ≠ 0) (h : f < 9007199254740992) : f.log2 < 53 := (Nat.log2_lt h0).2 (by omega)
theorem norm_bd {f : Nat} (h0 : f ≠ 0) (h : f < 9007199254740992) : 4503599627370496 ≤ f * 2 ^ (52 - f.log2) ∧ f * 2 ^ (52 - f.log2) < 9007199254740992 := by
  have hl := log2_lt53 h0 h
  have h1 := Nat.log2_self_le h0
  have h2 := Nat.lt_log2_self (n := f)
  constructor
  · calc 4503599627370496 = 2 ^ f.log2 * 2 ^ (52 - f.log2) := by rw [← Nat.pow_add, show f.log2 + (52 - f.log2) = 52 by omega]
      _ ≤ _ := Nat.mul_le_mul_right _ h1
  · calc f * 2 ^ (52 - f.log2) < 2 ^ (f.log2 + 1) * 2 ^ (52 - f.log2) := Nat.mul_lt_mul_of_pos_right h2 (Nat.two_pow_pos _)
      _ = 9007199254740992 := by rw [← Nat.pow_add, show f.log2 + 1 + (52 - f.log2) = 53 by omega]
theorem sub_bd {f : Nat} {e : Int} (he : e + f.log2 < -1022) (he2 : -1074 ≤ e) : f * 2 ^ (e + 1074).toNat < 4503599627370496 := by
  have h2 := Nat.lt_log2_self (n := f)
  calc f * 2 ^ (e + 1074).toNat < 2 ^ (f.log2 + 1) * 2 ^ (e + 1074).toNat := Nat.mul_lt_mul_of_pos_right h2 (Nat.two_pow_pos _)
    _ = 2 ^ (f.log2 + 1 + (e + 1074).toNat) := (Nat.pow_add _ _ _).symm
    _ ≤ 2 ^ 52 := Nat.pow_le_pow_right (by omega) (by omega)
theorem jM_ok {f : Nat} {e : Int} (h0 : f ≠ 0) (h : f < 9007199254740992) (he : -1074 ≤ e) : jM f e < 9007199254740992 ∧ jM f e ≠ 0 ∧ (jU f e = 0 ∨ 4503599627370496 ≤ jM f e) := by
  unfold jM jU
  by_cases hc : -1022 ≤ e + f.log2
  · have := norm_bd h0 h
    simp only [if_pos hc]
    omega
  · have := sub_bd (f := f) (by omega) he
    have hp := Nat.mul_pos (Nat.pos_of_ne_zero h0) (Nat.two_pow_pos (e + 1074).toNat)
    simp only [if_neg hc]
    exact ⟨by omega, by omega, Or.inl trivial⟩
theorem fwd_ok {f : Nat} (h0 : f ≠ 0) (h : f < 9007199254740992) : fwd f < 9218868437227405312 ∧ mg (fwd f) = f * 2 ^ (52 - f.log2) ∧ up (fwd f) = 1022 + f.log2 := by
  have hl := log2_lt53 h0 h
  have := norm_bd h0 h
  have := mg_of (U := 1022 + f.log2) (M := f * 2 ^ (52 - f.log2)) (by omega) (Or.inr (by omega))
  unfold fwd
  exact ⟨by omega, this.1, this.2⟩
theorem pw_ok {e : Int} (h1 : -1074 ≤ e) (h2 : e ≤ 1023) : pw e < 9218868437227405312 ∧ mg (pw e) = (if e < -1022 then 2 ^ (e + 1074).toNat else 4503599627370496) ∧ up (pw e) = (if e < -1022 then 0 else (e + 1022).toNat) := by
  unfold pw
  by_cases hc : e < -1022
  · simp only [if_pos hc]
    have hb : 2 ^ (e + 1074).toNat < 4503599627370496 := by
      calc 2 ^ (e + 1074).toNat < 2 ^ 52 := Nat.pow_lt_pow_right (by omega) (by omega)
        _ = _ := rfl
    have := mg_of (U := 0) (M := 2 ^ (e + 1074).toNat) (by omega) (Or.inl rfl)
    rw [Nat.zero_mul, Nat.zero_add] at this
    exact ⟨by omega, this.1, this.2⟩
  · simp only [if_neg hc]
    have := mg_of (U := (e + 1022).toNat) (M := 4503599627370496) (by omega) (Or.inr (by omega))
    rw [show (e + 1022).toNat * 4503599627370496 + 4503599627370496 = (e + 1023).toNat * 4503599627370496 by omega] at this
    exact ⟨by omega, this.1, this.2⟩

theorem ofInt_eq {f : Nat} (h0 : f ≠ 0) (h : f < 9007199254740992) : floatOfInt .f64 (f : Int) = fwd f := by
  have hl := log2_lt53 h0 h
  have hb := norm_bd h0 h
  have := nearest_val false f 0 (f * 2 ^ (52 - f.log2)) (1022 + f.log2) (by omega) (by omega) (Or.inr (by omega)) (Or.inl ⟨52 - f.log2, by omega, rfl⟩)
  unfold floatOfInt FloatKind.nearest FloatKind.encode
  rw [fmt64, show decide ((f : Int) < 0) = false by simp, Int.natAbs_natCast]
  simp only [Ieee.Format.write]
  rw [this, word_pos]
  unfold fwd
  omega

theorem fin_of {r : Nat} (h : r < 9218868437227405312) : finB r = true := by unfold finB; rw [rung_small (by omega)]; simpa using h
theorem read_pos {r : Nat} (h : r < 9218868437227405312) : Ieee.double.read r = .number false (mg r) (-1074 + (up r : Nat)) := by
  rw [read_fin (by omega) (fin_of h), rung_small (by omega), sgn_small (by omega)]

/-- The product of the float of f and of 2^e. -/
theorem mul_eq {f : Nat} {e : Int} (h0 : f ≠ 0) (h : f < 9007199254740992) (h1 : -1074 ≤ e) (h2 : e ≤ 1023) :
    floatBits .mul .f64 (fwd f) (pw e) = some (min (jR f e) 9218868437227405312) := by
  obtain ⟨f1, f2, f3⟩ := fwd_ok h0 h
  obtain ⟨p1, p2, p3⟩ := pw_ok h1 h2
  obtain ⟨j1, j2, j3⟩ := jM_ok h0 h h1
  have hl := log2_lt53 h0 h
  unfold floatBits
  simp only [fmt64, Ieee.Format.mul]
  rw [read_pos f1, read_pos p1]
  simp only [Ieee.Datum.product, Option.map_some, Ieee.Format.write, Option.some.injEq]
  rw [Bool.xor_self]
  have := nearest_val false (mg (fwd f) * mg (pw e)) (-1074 + (up (fwd f) : Nat) + (-1074 + (up (pw e) : Nat))) (jM f e) (jU f e) j1 j2 j3 ?_
  · rw [this, word_pos]; unfold jR; exact Eq.refl _
  · right
    rw [f2, f3, p2, p3]
    unfold jM jU
    by_cases hc : e < -1022
    · simp only [if_pos hc]
      by_cases hd : -1022 ≤ e + f.log2
      · simp only [if_pos hd]
        exact ⟨(e + 1074).toNat, by omega, rfl⟩
      · simp only [if_neg hd]
        refine ⟨52 - f.log2, by omega, ?_⟩
        rw [Nat.mul_assoc, Nat.mul_assoc, Nat.mul_comm (2 ^ (52 - f.log2))]
    · have hd : -1022 ≤ e + f.log2 := by omega
      simp only [if_neg hc, if_pos hd]
      exact ⟨52, by omega, by rw [show (2 : Nat) ^ 52 = 4503599627370496 from rfl]⟩

/-- Are these the parts of a finite float? -/
def okP (f : Nat) (e : Int) : Bool := if f = 0 then decide (e = 0) else decide (f % 2 = 1 ∧ f < 9007199254740992 ∧ -1074 ≤ e ∧ e ≤ 1023 ∧ jR f e < 9218868437227405312)
/-- The size that they tell, as a word. -/
def valR (f : Nat) (e : Int) : Nat := if f = 0 then 0 else if okP f e then jR f e else 0
/-- The float that they tell. -/
def joinF (n : Bool) (f : Nat) (e : Int) : Nat := if okP f e then (if n then 9223372036854775808 + valR f e else valR f e) else 0
theorem valR_lt (f : Nat) (e : Int) : valR f e < 9218868437227405312 := by
  unfold valR okP
  by_cases h : f = 0
  · rw [if_pos h]; omega
  · rw [if_neg h, if_neg h]
    split
    · rename_i g; simp at g; omega
    · omega
theorem odd_and {f : Nat} (h : f < 18446744073709551616) : bits .and .u64 (f : Int) 1 = ((f % 2 : Nat) : Int) := by
  have h := u64_and_nat f 1 h (by omega)
  have e2 : ((1 : Nat) : Int) = 1 := rfl
  rw [e2] at h
  rw [h]
  have := Nat.and_two_pow_sub_one_eq_mod f 1
  rw [show (2 : Nat) ^ 1 - 1 = 1 from rfl, show (2 : Nat) ^ 1 = 2 from rfl] at this
  rw [this]
theorem pw_low {n : Int} (h1 : -1074 ≤ n) (hc : n < -1022) : (IntKind.u64.wrap (2 ^ (n + 1074).toNat)).toNat = pw n := by
  unfold pw
  rw [if_pos hc, IntKind.wrap_u64]
  have hb : 2 ^ (n + 1074).toNat < 4503599627370496 := by
    calc 2 ^ (n + 1074).toNat < 2 ^ 52 := Nat.pow_lt_pow_right (by omega) (by omega)
      _ = _ := rfl
  have e : (2 : Int) ^ (n + 1074).toNat = ((2 ^ (n + 1074).toNat : Nat) : Int) := by rw [Int.natCast_pow]; rfl
  rw [e]
  generalize 2 ^ (n + 1074).toNat = t at *
  omega
theorem pw_high {n : Int} (hc : -1022 ≤ n) : ((n + 1023) * 4503599627370496).toNat = pw n := by
  unfold pw
  rw [if_neg (by omega)]
  omega
end Go.Proofs.YtnclddfljghebaaGreatDoor

namespace Go.Proofs.YtnclddfljghebaaGreatDoor
open Go.RowKit

/-- Where a float stands among all: twice its place, one more without a sign bit; all NaN behind. -/
def key (a : Nat) : Int := if nanB a then 36893488147419103232 else 2 * place a + (if sgn a then 0 else 1)

theorem ordF_key (a b : Nat) : ordF a b = if key a < key b then -1 else if key b < key a then 1 else 0 := by
  have h1 := place_bd a
  have h2 := place_bd b
  unfold ordF key ordS
  cases nanB a <;> cases nanB b <;> cases sgn a <;> cases sgn b <;> simp only [Bool.and_true, Bool.and_false, Bool.not_true, Bool.not_false, Bool.false_eq_true, if_true, if_false] <;> (repeat' split) <;> omega

theorem key_inj {a b : Nat} (ha : a < 18446744073709551616) (hb : b < 18446744073709551616) (na : nanB a = false) (h : key a = key b) : a = b := by
  have h1 := place_bd a
  have h2 := place_bd b
  have e1 := rung_of a ha
  have e2 := rung_of b hb
  unfold key at h
  rw [na] at h
  cases nb : nanB b
  · rw [nb] at h
    unfold place at h
    cases sa : sgn a <;> cases sb : sgn b <;> simp only [sa, sb, Bool.false_eq_true, if_true, if_false] at h e1 e2 <;> omega
  · rw [nb] at h
    cases sa : sgn a <;> simp only [sa, Bool.false_eq_true, if_true, if_false] at h <;> omega

theorem ordF_swap (a b : Nat) : ordF b a = -ordF a b := by
  rw [ordF_key, ordF_key]; (repeat' split) <;> omega
theorem ordF_cases (a b : Nat) : ordF a b = -1 ∨ ordF a b = 0 ∨ ordF a b = 1 := by
  rw [ordF_key]; (repeat' split) <;> simp
theorem ordF_trans (a b c : Nat) (h : ordF a b ≤ 0) (g : ordF b c ≤ 0) : ordF a c ≤ 0 := by
  rw [ordF_key] at *; (repeat' split at *) <;> omega
theorem ordF_trans0 (a b c : Nat) (h : ordF a b = 0) (g : ordF b c = 0) : ordF a c = 0 := by
  rw [ordF_key] at *; (repeat' split at *) <;> omega
theorem ord3 (a b : Nat) : (ordF a b ≤ -1 ∧ -1 ≤ ordF a b ∧ ordF b a ≤ 1 ∧ 1 ≤ ordF b a) ∨ (ordF a b ≤ 0 ∧ 0 ≤ ordF a b ∧ ordF b a ≤ 0 ∧ 0 ≤ ordF b a) ∨ (ordF a b ≤ 1 ∧ 1 ≤ ordF a b ∧ ordF b a ≤ -1 ∧ -1 ≤ ordF b a) := by
  have h := ordF_swap a b
  have g := ordF_cases a b
  omega
theorem ordF_same {a b : Nat} (ha : a < 18446744073709551616) (hb : b < 18446744073709551616) : sameB a b = decide (ordF a b = 0) := by
  have h1 := place_bd a
  have h2 := place_bd b
  rw [ordF_key]
  unfold sameB
  cases na : nanB a
  · by_cases e : a = b
    · subst e
      simp
    · have : key a ≠ key b := fun h => e (key_inj ha hb na h)
      simp only [Bool.false_eq_true, if_false]
      rw [decide_eq_decide]
      constructor
      · intro h; exact absurd h e
      · intro h; (repeat' split at h) <;> omega
  · unfold key
    rw [na]
    cases nb : nanB b
    · cases sb : sgn b <;> simp only [Bool.false_eq_true, if_true, if_false] <;> (repeat' split) <;> first | omega | simp
    · simp

theorem btwB_le {a b : Nat} (ha : a < 18446744073709551616) (hb : b < 18446744073709551616) : btwB a b = (FloatKind.f64.format.order a b == some .lt || FloatKind.f64.format.order a b == some .eq) := by
  unfold btwB
  cases na : nanB a
  · cases nb : nanB b
    · rw [lt_num ha hb na nb, eq_num ha hb na nb, Bool.eq_iff_iff]; simp; omega
    · rw [ord_nan ha hb (Or.inr nb)]; rfl
  · rw [ord_nan ha hb (Or.inl na)]; rfl
theorem btw_sum {a b c : Nat} (h1 : btwB a b = true) (h2 : btwB b c = true) : btwN a b + btwN b c = btwN a c ∧ 0 ≤ btwN a b ∧ 0 ≤ btwN b c ∧ btwN a c < 18446744073709551616 := by
  have p1 := place_bd a
  have p2 := place_bd c
  have h3 : btwB a c = true := by
    unfold btwB at *
    simp only [Bool.and_eq_true, Bool.not_eq_true', decide_eq_true_eq] at *
    exact ⟨⟨h1.1.1, h2.1.2⟩, by omega⟩
  have g1 : place a ≤ place b := by unfold btwB at h1; simp at h1; exact h1.2
  have g2 : place b ≤ place c := by unfold btwB at h2; simp at h2; exact h2.2
  unfold btwN
  rw [h1, h2, h3]
  simp only [if_true]
  omega
theorem btwN_no {a b : Nat} (h : btwB a b = false) : btwN a b = 0 := by unfold btwN; rw [h]; rfl

/-- The ways in which two floats stand to one another. -/
theorem cls {a b : Nat} (ha : a < 18446744073709551616) (hb : b < 18446744073709551616) :
    (nanB a = false ∧ nanB b = false ∧ place a < place b ∧ ordF a b = -1 ∧ btwB a b = true) ∨
    (nanB a = false ∧ nanB b = false ∧ place b < place a ∧ ordF a b = 1 ∧ btwB a b = false) ∨
    (nanB a = false ∧ nanB b = false ∧ place a = place b ∧ ordF a b = 0 ∧ btwB a b = true) ∨
    (nanB a = false ∧ nanB b = false ∧ place a = place b ∧ place a = 0 ∧ ordF a b = -1 ∧ btwB a b = true) ∨
    (nanB a = false ∧ nanB b = false ∧ place a = place b ∧ place a = 0 ∧ ordF a b = 1 ∧ btwB a b = true) ∨
    (nanB a = true ∧ nanB b = true ∧ ordF a b = 0 ∧ btwB a b = false) ∨
    (nanB a = true ∧ nanB b = false ∧ ordF a b = 1 ∧ btwB a b = false) ∨
    (nanB a = false ∧ nanB b = true ∧ ordF a b = -1 ∧ btwB a b = false) := by
  have e1 := rung_of a ha
  have e2 := rung_of b hb
  cases na : nanB a <;> cases nb : nanB b
  · by_cases h1 : place a < place b
    · left; exact ⟨rfl, rfl, h1, by unfold ordF; simp [na, nb, h1], by unfold btwB; simp [na, nb]; omega⟩
    · right
      by_cases h2 : place b < place a
      · left; exact ⟨rfl, rfl, h2, by unfold ordF; simp [na, nb, h1, h2], by unfold btwB; simp [na, nb]; omega⟩
      · right
        have h3 : place a = place b := by omega
        have hB : btwB a b = true := by unfold btwB; simp [na, nb]; omega
        have hz : sgn a ≠ sgn b → place a = 0 := by
          intro hs
          unfold place at h3 ⊢
          cases sa : sgn a <;> cases sb : sgn b <;> simp only [sa, sb, Bool.false_eq_true, if_true, if_false] at h3 hs ⊢ <;> first | omega | exact absurd rfl hs
        cases sa : sgn a <;> cases sb : sgn b
        · left; exact ⟨rfl, rfl, h3, by unfold ordF ordS; simp [na, nb, h1, h2, sa, sb], hB⟩
        · right; right; left; exact ⟨rfl, rfl, h3, hz (by simp [sa, sb]), by unfold ordF ordS; simp [na, nb, h1, h2, sa, sb], hB⟩
        · right; left; exact ⟨rfl, rfl, h3, hz (by simp [sa, sb]), by unfold ordF ordS; simp [na, nb, h1, h2, sa, sb], hB⟩
        · left; exact ⟨rfl, rfl, h3, by unfold ordF ordS; simp [na, nb, h1, h2, sa, sb], hB⟩
  all_goals
    have hB : btwB a b = false := by unfold btwB; simp [na, nb]
    have hO : ordF a b = if nanB a && nanB b then 0 else if nanB a then 1 else -1 := by unfold ordF; simp [na, nb]
    simp [na, nb] at hO
    simp [hB, hO]

end Go.Proofs.YtnclddfljghebaaGreatDoor
