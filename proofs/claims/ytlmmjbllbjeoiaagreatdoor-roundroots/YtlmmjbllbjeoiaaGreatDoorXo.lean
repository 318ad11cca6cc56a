/- Rounding any number to a narrow float: which rung it comes to, told by the middles below it. A number is m times 2^p; in units of 2^(-149 - K), K great enough, it is A. -/
import Derived.Test.YtlmmjbllbjeoiaaGreatDoorXl
namespace Go.Proofs.YtlmmjbllbjeoiaaGreatDoor
open Go.RowKit

theorem val_le_S {r q : Nat} (h : r ≤ q) : S.val r ≤ S.val q := by
  rcases Nat.lt_or_ge r q with h1 | h1
  · exact Nat.le_of_lt (S.val_lt h1)
  · rw [show r = q by omega]; exact Nat.le_refl _
/-- A stands above the middle behind rung r, or at it and r is odd. -/
def aboveS (K A r : Nat) : Prop := (S.val r + S.val (r + 1)) * 2 ^ K < 2 * A ∨ ((S.val r + S.val (r + 1)) * 2 ^ K = 2 * A ∧ r % 2 = 1)
theorem above_parts {n d k0 A T : Nat} (hk : k0 = n / 2 ^ d) (hA : A * 2 ^ d = n * T) : k0 * T ≤ A ∧ (0 < T → A < (k0 + 1) * T) ∧ ((2 * k0 + 1) * T < 2 * A ↔ 0 < T ∧ 2 ^ d < 2 * (n % 2 ^ d)) ∧ (0 < T → ((2 * k0 + 1) * T = 2 * A ↔ 2 ^ d = 2 * (n % 2 ^ d))) := by
  have hp := Nat.two_pow_pos d
  have hn : n = 2 ^ d * k0 + n % 2 ^ d := by rw [hk]; exact (Nat.div_add_mod _ _).symm
  have hr : n % 2 ^ d < 2 ^ d := Nat.mod_lt _ hp
  generalize n % 2 ^ d = r at *
  generalize 2 ^ d = D at *
  have e1 : n * T = k0 * T * D + r * T := by rw [hn, Nat.add_mul, Nat.mul_comm D k0, Nat.mul_assoc, Nat.mul_comm D T, ← Nat.mul_assoc]
  rw [e1] at hA
  refine ⟨?_, fun hT => ?_, ?_, fun hT => ?_⟩
  · refine Nat.le_of_mul_le_mul_right (c := D) ?_ hp
    omega
  · refine Nat.lt_of_mul_lt_mul_right (a := D) ?_
    have h2 : r * T < D * T := Nat.mul_lt_mul_of_pos_right hr hT
    have h3 : (k0 + 1) * T * D = k0 * T * D + D * T := by rw [Nat.add_mul, Nat.one_mul, Nat.add_mul, Nat.mul_comm T D]
    omega
  · have h3 : (2 * k0 + 1) * T * D = 2 * (k0 * T * D) + D * T := by rw [Nat.add_mul, Nat.one_mul, Nat.add_mul, Nat.mul_assoc 2 k0 T, Nat.mul_assoc 2, Nat.mul_comm T D]
    have h4 : 2 * A * D = 2 * (k0 * T * D) + 2 * (r * T) := by rw [Nat.mul_assoc, hA]; omega
    rw [← Nat.mul_lt_mul_right hp, h3, h4]
    have h5 : 2 * (r * T) = 2 * r * T := (Nat.mul_assoc 2 r T).symm
    rw [h5]
    constructor
    · intro h
      have h6 : D * T < 2 * r * T := by omega
      have hT : 0 < T := by
        rcases Nat.eq_zero_or_pos T with h | h
        · rw [h] at h6; simp at h6
        · exact h
      exact ⟨hT, Nat.lt_of_mul_lt_mul_right h6⟩
    · rintro ⟨hT, h⟩
      have := Nat.mul_lt_mul_of_pos_right h hT
      omega
  · have h3 : (2 * k0 + 1) * T * D = 2 * (k0 * T * D) + D * T := by rw [Nat.add_mul, Nat.one_mul, Nat.add_mul, Nat.mul_assoc 2 k0 T, Nat.mul_assoc 2, Nat.mul_comm T D]
    have h4 : 2 * A * D = 2 * (k0 * T * D) + 2 * (r * T) := by rw [Nat.mul_assoc, hA]; omega
    have h5 : 2 * (r * T) = 2 * r * T := (Nat.mul_assoc 2 r T).symm
    constructor
    · intro h
      have h6 : (2 * k0 + 1) * T * D = 2 * A * D := by rw [h]
      rw [h3, h4, h5] at h6
      exact Nat.eq_of_mul_eq_mul_right hT (by omega)
    · intro h
      refine Nat.eq_of_mul_eq_mul_right hp ?_
      rw [h3, h4, h5, h]
/-- Rounding to nearest, by the middles. -/
theorem near_any (s : Bool) {m : Nat} (p : Int) (K : Nat) (hm : m ≠ 0) (hK : 0 ≤ p + 149 + K) :
    ∃ k, Ieee.single.nearest s m p = Ieee.single.word s k ∧ k ≤ 2139095040 ∧ ∀ r, r < 2139095040 → (r < k ↔ aboveS K (m * 2 ^ (p + 149 + K).toNat) r) := by
  have s2 : Ieee.single.binade = 8388608 := by decide
  have s3 : Ieee.single.infRung = 2139095040 := by decide
  have s4 : Ieee.single.leastPlace = -149 := by decide
  have s5 : (Ieee.single.fractionBits : Int) = 23 := by decide
  obtain ⟨last, hlast⟩ : ∃ l, max (p + (m.log2 : Int) - 23) (-149) = l := ⟨_, rfl⟩
  obtain ⟨U, hU⟩ : ∃ U : Nat, (last + 149).toNat = U := ⟨_, rfl⟩
  obtain ⟨n, hn⟩ : ∃ n, m <<< (p - last).toNat = n := ⟨_, rfl⟩
  obtain ⟨d, hd⟩ : ∃ d, (last - p).toNat = d := ⟨_, rfl⟩
  obtain ⟨k0, hk0⟩ : ∃ k0, n / 2 ^ d = k0 := ⟨_, rfl⟩
  obtain ⟨A, hA⟩ : ∃ A, m * 2 ^ (p + 149 + K).toNat = A := ⟨_, rfl⟩
  have hlog := Nat.log2_self_le hm
  have hlog2 := Nat.lt_log2_self (n := m)
  have hnA : A * 2 ^ d = n * 2 ^ (U + K) := by
    rw [← hA, ← hn, Nat.shiftLeft_eq, Nat.mul_assoc, Nat.mul_assoc, ← Nat.pow_add, ← Nat.pow_add]
    congr 2
    omega
  have hnl : n.log2 = m.log2 + (p - last).toNat := by rw [← hn, Nat.shiftLeft_eq]; exact log2_mul hm
  have hn0 : n ≠ 0 := by
    rw [← hn, Nat.shiftLeft_eq]
    have := Nat.mul_pos (Nat.pos_of_ne_zero hm) (Nat.two_pow_pos (p - last).toNat)
    omega
  have hkb : k0 < 16777216 ∧ (U = 0 ∨ 8388608 ≤ k0) := by
    have h1 := Nat.log2_self_le hn0
    have h2 := Nat.lt_log2_self (n := n)
    have hp := Nat.two_pow_pos d
    by_cases hU0 : U = 0
    · refine ⟨?_, Or.inl hU0⟩
      have hdd : n.log2 + 1 ≤ d + 24 := by omega
      have h3 : n < 2 ^ (d + 24) := Nat.lt_of_lt_of_le h2 (Nat.pow_le_pow_right (by omega) hdd)
      rw [Nat.pow_add, Nat.mul_comm] at h3
      rw [← hk0]
      exact Nat.div_lt_of_lt_mul (by rw [Nat.mul_comm]; exact h3)
    · have hdd : n.log2 = d + 23 := by omega
      rw [hdd] at h1 h2
      rw [← hk0]
      constructor
      · rw [show d + 23 + 1 = 24 + d by omega, Nat.pow_add] at h2
        exact Nat.div_lt_of_lt_mul (by rw [Nat.mul_comm]; exact h2)
      · right
        rw [Nat.le_div_iff_mul_le hp]
        rw [show d + 23 = 23 + d by omega, Nat.pow_add] at h1
        exact h1
  obtain ⟨v1, v2⟩ := s_val_kept hkb.1 hkb.2
  obtain ⟨a1, a2, a3, a4⟩ := above_parts hk0.symm hnA
  have hT := Nat.two_pow_pos (U + K)
  have a2 := a2 hT
  have a4 := a4 hT
  obtain ⟨f, hf⟩ : ∃ f, U * 8388608 + k0 = f := ⟨_, rfl⟩
  rw [hf] at v1 v2
  have hpar : f % 2 = k0 % 2 := by omega
  refine ⟨min (f + (decide (2 ^ d < 2 * (n % 2 ^ d)) || (decide (2 ^ d = 2 * (n % 2 ^ d)) && k0 % 2 == 1)).toNat) 2139095040, ?_, by omega, ?_⟩
  · unfold Ieee.Format.nearest
    simp only [s2, s3, s4, s5]
    rw [if_neg hm, hlast, hn, hd, show (last - -149).toNat = U by omega, cut_even s n d, hk0, ← hf, Nat.add_assoc]
  · intro r hr
    have hfv : S.val f * 2 ^ K = k0 * 2 ^ (U + K) := by rw [v1, Nat.mul_assoc, ← Nat.pow_add]
    have hfv2 : S.val (f + 1) * 2 ^ K = (k0 + 1) * 2 ^ (U + K) := by rw [v2, Nat.mul_assoc, ← Nat.pow_add]
    have hmid : (S.val f + S.val (f + 1)) * 2 ^ K = (2 * k0 + 1) * 2 ^ (U + K) := by
      rw [Nat.add_mul, hfv, hfv2, ← Nat.add_mul]; congr 1; omega
    have hKp := Nat.two_pow_pos K
    rw [hA]
    have low : r < f → aboveS K A r := fun h => by
      left
      have x1 := val_le_S (show r ≤ f by omega)
      have x2 := val_le_S (show r + 1 ≤ f by omega)
      have x3 : S.val r < S.val f := (S.val_lt_iff r f).2 h
      have x4 : (S.val r + S.val (r + 1)) * 2 ^ K < (S.val f + S.val f) * 2 ^ K := Nat.mul_lt_mul_of_pos_right (by omega) hKp
      rw [Nat.add_mul (S.val f)] at x4
      omega
    have high : f < r → ¬ aboveS K A r := fun h => by
      have x1 := val_le_S (show f + 1 ≤ r by omega)
      have x3 : S.val r < S.val (r + 1) := S.val_step r
      have x4 : (S.val (f + 1) + S.val (f + 1)) * 2 ^ K < (S.val r + S.val (r + 1)) * 2 ^ K := Nat.mul_lt_mul_of_pos_right (by omega) hKp
      rw [Nat.add_mul (S.val (f + 1))] at x4
      rintro (h | ⟨h, _⟩) <;> omega
    rcases Nat.lt_trichotomy r f with h | h | h
    · exact ⟨fun _ => low h, fun _ => by omega⟩
    · subst h
      unfold aboveS
      rw [hmid, a3, a4, hpar]
      have hbt : (decide (2 ^ d < 2 * (n % 2 ^ d)) || (decide (2 ^ d = 2 * (n % 2 ^ d)) && k0 % 2 == 1)) = true ↔ (0 < 2 ^ (U + K) ∧ 2 ^ d < 2 * (n % 2 ^ d)) ∨ (2 ^ d = 2 * (n % 2 ^ d) ∧ k0 % 2 = 1) := by
        simp only [Bool.or_eq_true, Bool.and_eq_true, decide_eq_true_eq, beq_iff_eq]
        constructor
        · rintro (h | h)
          · exact Or.inl ⟨hT, h⟩
          · exact Or.inr h
        · rintro (h | h)
          · exact Or.inl h.2
          · exact Or.inr h
      rw [← hbt]
      generalize (decide (2 ^ d < 2 * (n % 2 ^ d)) || (decide (2 ^ d = 2 * (n % 2 ^ d)) && k0 % 2 == 1)) = bb
      have hbb : bb.toNat = if bb = true then 1 else 0 := by cases bb <;> rfl
      rw [hbb]
      by_cases hc : bb = true
      · rw [if_pos hc]; exact ⟨fun _ => hc, fun _ => Nat.lt_min.2 ⟨Nat.lt_succ_self _, hr⟩⟩
      · rw [if_neg hc]; exact ⟨fun h => absurd (Nat.lt_of_lt_of_le h (Nat.min_le_left _ _)) (Nat.lt_irrefl _), fun h => absurd h hc⟩
    · refine ⟨fun hh => ?_, fun hh => absurd hh (high h)⟩
      exfalso
      have : ∀ b : Bool, b.toNat ≤ 1 := fun b => by cases b <;> simp
      have := this (decide (2 ^ d < 2 * (n % 2 ^ d)) || (decide (2 ^ d = 2 * (n % 2 ^ d)) && k0 % 2 == 1))
      omega
end Go.Proofs.YtlmmjbllbjeoiaaGreatDoor
