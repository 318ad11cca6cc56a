/- Rounding a float to a narrow float, to nearest: between which two narrow floats it stands, and which of them it is; in plain numbers, no program. In units of 2^-1074: 'val' of a float's rung, 'S.val' times 2^925 of a narrow one's. -/
import Derived.Test.YtlmmjbllbjeoiaaGreatDoorXb
namespace Go.Proofs.YtlmmjbllbjeoiaaGreatDoor
open Go.RowKit

/-- What 'cut' keeps, by its exact gap. -/
theorem cut_even (neg : Bool) (n d : Nat) : Ieee.Toward.even.cut neg n d = n / 2 ^ d + (decide (2 ^ d < 2 * (n % 2 ^ d)) || (decide (2 ^ d = 2 * (n % 2 ^ d)) && n / 2 ^ d % 2 == 1)).toNat := by
  unfold Ieee.Toward.cut
  by_cases hd : d ≤ n.log2 + 2
  · simp only [Nat.min_eq_left hd, Nat.one_shiftLeft]
    congr 2
  · simp only [Nat.min_eq_right (show n.log2 + 2 ≤ d by omega), Nat.one_shiftLeft]
    have hn : n < 2 ^ (n.log2 + 1) := Nat.lt_log2_self
    have h2 : (2 : Nat) ^ (n.log2 + 2) = 2 * 2 ^ (n.log2 + 1) := by rw [Nat.pow_succ, Nat.mul_comm]
    have h3 : (2 : Nat) ^ (n.log2 + 2) ≤ 2 ^ d := Nat.pow_le_pow_right (by omega) (by omega)
    have e1 : n / 2 ^ (n.log2 + 2) = 0 := Nat.div_eq_of_lt (by omega)
    have e2 : n % 2 ^ (n.log2 + 2) = n := Nat.mod_eq_of_lt (by omega)
    have e3 : n / 2 ^ d = 0 := Nat.div_eq_of_lt (by omega)
    have e4 : n % 2 ^ d = n := Nat.mod_eq_of_lt (by omega)
    rw [e1, e2, e3, e4]
    have a1 : ¬ 2 ^ (n.log2 + 2) < 2 * n := by omega
    have a2 : ¬ 2 ^ d < 2 * n := by omega
    have a3 : ¬ 2 ^ d = 2 * n := by omega
    simp [a1, a2, a3]
/-- The place of the last digit that is kept of a float's size, above 2^-149; and how many digits are dropped. -/
def nU (R : Nat) : Nat := up R + (mg R).log2 - 948
def nD (R : Nat) : Nat := nU R + 925 - up R
theorem n_up (R : Nat) : up R = 0 ∨ (mg R).log2 = 52 := by
  rcases mg_up_ok R with h | h
  · exact Or.inl h
  · exact Or.inr (log2_eq (by omega) (by have := mg_lt R; omega))
theorem n_log {R : Nat} (h0 : R ≠ 0) : (mg R).log2 ≤ 52 := by
  have := (Nat.log2_lt (mg_ne h0)).2 (show mg R < 2 ^ 53 from mg_lt R)
  omega
/-- The narrow rung at or right below a size; is the next one taken? -/
def flr (R : Nat) : Nat := nU R * 8388608 + mg R / 2 ^ nD R
def mor (R : Nat) : Bool := decide (2 ^ nD R < 2 * (mg R % 2 ^ nD R)) || (decide (2 ^ nD R = 2 * (mg R % 2 ^ nD R)) && mg R / 2 ^ nD R % 2 == 1)
theorem near_narrow (s : Bool) {R : Nat} (h0 : R ≠ 0) : Ieee.single.nearest s (mg R) (-1074 + (up R : Nat)) = Ieee.single.word s (min (flr R + (mor R).toNat) 2139095040) := by
  have s2 : Ieee.single.binade = 8388608 := by decide
  have s3 : Ieee.single.infRung = 2139095040 := by decide
  have s4 : Ieee.single.leastPlace = -149 := by decide
  have s5 : (Ieee.single.fractionBits : Int) = 23 := by decide
  have hm := mg_ne h0
  have hu := n_up R
  have hl := n_log h0
  unfold Ieee.Format.nearest
  simp only [s2, s3, s4, s5]
  rw [if_neg hm]
  have hlast : max (-1074 + ((up R : Nat) : Int) + ((mg R).log2 : Int) - 23) (-149) = (nU R : Int) - 149 := by unfold nU; omega
  rw [hlast]
  have e1 : (-1074 + ((up R : Nat) : Int) - ((nU R : Int) - 149)).toNat = 0 := by unfold nU; omega
  have e2 : ((nU R : Int) - 149 - (-1074 + ((up R : Nat) : Int))).toNat = nD R := by unfold nD nU; omega
  have e3 : ((nU R : Int) - 149 - -149).toNat = nU R := by omega
  rw [e1, e2, e3, Nat.shiftLeft_zero, cut_even s _ _]
  unfold flr mor
  rw [Nat.add_assoc]
theorem n_kept {R : Nat} (h0 : R ≠ 0) : mg R / 2 ^ nD R < 16777216 ∧ (nU R = 0 ∨ 8388608 ≤ mg R / 2 ^ nD R) := by
  have hm := mg_ne h0
  have hu := n_up R
  have hl := n_log h0
  have h1 := Nat.log2_self_le hm
  have h2 := Nat.lt_log2_self (n := mg R)
  have hp := Nat.two_pow_pos (nD R)
  by_cases hU : nU R = 0
  · refine ⟨?_, Or.inl hU⟩
    have hd : (mg R).log2 + 1 ≤ nD R + 24 := by unfold nD nU at *; omega
    have h3 : mg R < 2 ^ (nD R + 24) := Nat.lt_of_lt_of_le h2 (Nat.pow_le_pow_right (by omega) hd)
    rw [Nat.pow_add, Nat.mul_comm] at h3
    exact Nat.div_lt_of_lt_mul (by rw [Nat.mul_comm]; exact h3)
  · have hd : (mg R).log2 = nD R + 23 := by unfold nD nU at *; omega
    rw [hd] at h1 h2
    constructor
    · rw [show nD R + 23 + 1 = 24 + nD R by omega, Nat.pow_add] at h2
      exact Nat.div_lt_of_lt_mul (by rw [Nat.mul_comm]; exact h2)
    · right
      rw [Nat.le_div_iff_mul_le hp]
      rw [show nD R + 23 = 23 + nD R by omega, Nat.pow_add] at h1
      exact h1
/-- What stands at a rung that is told by its kept digits, and at the next one. -/
theorem s_val_kept {U k : Nat} (hk : k < 16777216) (hU : U = 0 ∨ 8388608 ≤ k) : S.val (U * 8388608 + k) = k * 2 ^ U ∧ S.val (U * 8388608 + k + 1) = (k + 1) * 2 ^ U := by
  have one : ∀ k, k < 16777216 → (U = 0 ∨ 8388608 ≤ k) → S.val (U * 8388608 + k) = k * 2 ^ U := fun k h1 h2 => by
    have := S.mg_of h1 h2
    rw [← S.mg_up, this.1, this.2]
  refine ⟨one k hk hU, ?_⟩
  by_cases h : k + 1 < 16777216
  · rw [Nat.add_assoc]; exact one (k + 1) h (hU.imp id (fun h => by omega))
  · have hk' : k = 16777215 := by omega
    subst hk'
    have e : U * 8388608 + 16777215 + 1 = (U + 1) * 8388608 + 8388608 := by omega
    have := S.mg_of (U := U + 1) (M := 8388608) (by omega) (Or.inr (Nat.le_refl _))
    rw [e, ← S.mg_up, this.1, this.2, Nat.pow_succ]
    generalize 2 ^ U = t
    omega
/-- A float's size stands at its lower narrow rung or above it, and below the next one. -/
theorem flr_between {R : Nat} (h0 : R ≠ 0) : S.val (flr R) * 2 ^ gapS ≤ val R ∧ val R < S.val (flr R + 1) * 2 ^ gapS := by
  have hg : gapS = 925 := rfl
  obtain ⟨h1, h2⟩ := n_kept h0
  obtain ⟨v1, v2⟩ := s_val_kept h1 h2
  have hu := n_up R
  have hl := n_log h0
  have e : nU R + gapS = nD R + up R := by unfold nD nU; omega
  unfold flr
  rw [v1, v2, Nat.mul_assoc, Nat.mul_assoc, ← Nat.pow_add, e, Nat.pow_add, ← mg_up, ← Nat.mul_assoc, ← Nat.mul_assoc]
  have hp := Nat.two_pow_pos (nD R)
  constructor
  · exact Nat.mul_le_mul_right _ (Nat.div_mul_le_self _ _)
  · refine Nat.mul_lt_mul_of_pos_right ?_ (Nat.two_pow_pos _)
    have := Nat.lt_mul_div_succ (mg R) hp
    rw [Nat.mul_comm]
    exact this
theorem flr_one {R q : Nat} (h0 : R ≠ 0) (h1 : S.val q * 2 ^ gapS ≤ val R) (h2 : val R < S.val (q + 1) * 2 ^ gapS) : flr R = q := by
  obtain ⟨a, b⟩ := flr_between h0
  have hp := Nat.two_pow_pos gapS
  have x1 : S.val q * 2 ^ gapS < S.val (flr R + 1) * 2 ^ gapS := by omega
  have x2 : S.val (flr R) * 2 ^ gapS < S.val (q + 1) * 2 ^ gapS := by omega
  generalize 2 ^ gapS = t at *
  have y1 := Nat.lt_of_mul_lt_mul_right x1
  have y2 := Nat.lt_of_mul_lt_mul_right x2
  have z1 := (S.val_lt_iff q (flr R + 1)).1 y1
  have z2 := (S.val_lt_iff (flr R) (q + 1)).1 y2
  omega
/-- A greater size has no lesser lower rung. -/
theorem flr_mono {R Q : Nat} (h0 : R ≠ 0) (h : R ≤ Q) : flr R ≤ flr Q := by
  obtain ⟨a, _⟩ := flr_between h0
  obtain ⟨_, b⟩ := flr_between (show Q ≠ 0 by omega)
  have hv : val R ≤ val Q := by
    rcases Nat.lt_or_ge R Q with h1 | h1
    · exact Nat.le_of_lt (val_lt h1)
    · rw [show R = Q by omega]; exact Nat.le_refl _
  have x : S.val (flr R) * 2 ^ gapS < S.val (flr Q + 1) * 2 ^ gapS := by omega
  generalize 2 ^ gapS = t at *
  have := (S.val_lt_iff _ _).1 (Nat.lt_of_mul_lt_mul_right x)
  omega
/-- The next rung is taken just where a size is nearer to it, or in the middle and the lower one odd. -/
theorem mor_mid {R : Nat} (h0 : R ≠ 0) : mor R = (decide ((S.val (flr R) + S.val (flr R + 1)) * 2 ^ gapS < 2 * val R) || (decide ((S.val (flr R) + S.val (flr R + 1)) * 2 ^ gapS = 2 * val R) && flr R % 2 == 1)) := by
  have hg : gapS = 925 := rfl
  obtain ⟨h1, h2⟩ := n_kept h0
  obtain ⟨v1, v2⟩ := s_val_kept h1 h2
  have hu := n_up R
  have hl := n_log h0
  have e : nU R + gapS = nD R + up R := by unfold nD nU; omega
  have hp := Nat.two_pow_pos (nD R)
  have hq := Nat.two_pow_pos (up R)
  have hpar : flr R % 2 = mg R / 2 ^ nD R % 2 := by unfold flr; omega
  have hs : (S.val (flr R) + S.val (flr R + 1)) * 2 ^ gapS = (2 * (mg R / 2 ^ nD R) + 1) * 2 ^ nD R * 2 ^ up R := by
    unfold flr
    generalize mg R / 2 ^ nD R = k at *
    rw [v1, v2, ← Nat.add_mul, show k + (k + 1) = 2 * k + 1 by omega, Nat.mul_assoc, ← Nat.pow_add, e, Nat.pow_add, Nat.mul_assoc]
  have hv : 2 * val R = 2 * mg R * 2 ^ up R := by rw [← mg_up, Nat.mul_assoc]
  have hm : mg R = 2 ^ nD R * (mg R / 2 ^ nD R) + mg R % 2 ^ nD R := (Nat.div_add_mod _ _).symm
  have hc : 2 * mg R = 2 * (mg R / 2 ^ nD R) * 2 ^ nD R + 2 * (mg R % 2 ^ nD R) := by
    conv => lhs; rw [hm]
    rw [Nat.mul_add, Nat.mul_assoc, Nat.mul_comm (mg R / 2 ^ nD R)]
  have hd : (2 * (mg R / 2 ^ nD R) + 1) * 2 ^ nD R = 2 * (mg R / 2 ^ nD R) * 2 ^ nD R + 2 ^ nD R := by rw [Nat.add_mul, Nat.one_mul]
  rw [hpar, hs, hv]
  unfold mor
  have q1 : (2 * (mg R / 2 ^ nD R) + 1) * 2 ^ nD R * 2 ^ up R < 2 * mg R * 2 ^ up R ↔ 2 ^ nD R < 2 * (mg R % 2 ^ nD R) := by
    rw [Nat.mul_lt_mul_right hq, hc, hd]; omega
  have q2 : (2 * (mg R / 2 ^ nD R) + 1) * 2 ^ nD R * 2 ^ up R = 2 * mg R * 2 ^ up R ↔ 2 ^ nD R = 2 * (mg R % 2 ^ nD R) := by
    constructor
    · intro h
      have := Nat.eq_of_mul_eq_mul_right hq h
      rw [hc, hd] at this; omega
    · intro h
      have : (2 * (mg R / 2 ^ nD R) + 1) * 2 ^ nD R = 2 * mg R := by rw [hc, hd]; omega
      rw [this]
  rw [decide_eq_decide.2 q1, decide_eq_decide.2 q2]
/-- The narrow rung that a size is rounded to: greater sizes have no lesser one. -/
def nwr (R : Nat) : Nat := min (flr R + (mor R).toNat) 2139095040
theorem nwr_mono {R Q : Nat} (h0 : R ≠ 0) (h : R ≤ Q) : nwr R ≤ nwr Q := by
  have hf := flr_mono h0 h
  have hb : ∀ b : Bool, b.toNat ≤ 1 := fun b => by cases b <;> simp
  have key : flr R + (mor R).toNat ≤ flr Q + (mor Q).toNat := by
    by_cases he : flr R = flr Q
    · have m1 := mor_mid h0
      have m2 := mor_mid (show Q ≠ 0 by omega)
      have hv : val R ≤ val Q := by
        rcases Nat.lt_or_ge R Q with h1 | h1
        · exact Nat.le_of_lt (val_lt h1)
        · rw [show R = Q by omega]; exact Nat.le_refl _
      rw [he] at m1 ⊢
      generalize (S.val (flr Q) + S.val (flr Q + 1)) * 2 ^ gapS = t at *
      cases hm : mor R
      · simp
      · have : mor Q = true := by
          rw [hm] at m1
          rw [m2]
          by_cases c1 : t < 2 * val Q
          · simp [c1]
          · have c2 : t = 2 * val Q := by
              by_cases c3 : t < 2 * val R
              · omega
              · simp [c3] at m1; omega
            have c4 : ¬ t < 2 * val R := by omega
            simp [c4] at m1
            simp [c2, m1.2]
        rw [this]
        simp
    · have := hb (mor R)
      omega
  unfold nwr
  omega
theorem near_nwr (s : Bool) {R : Nat} (h0 : R ≠ 0) : Ieee.single.nearest s (mg R) (-1074 + (up R : Nat)) = Ieee.single.word s (nwr R) := near_narrow s h0
end Go.Proofs.YtlmmjbllbjeoiaaGreatDoor
