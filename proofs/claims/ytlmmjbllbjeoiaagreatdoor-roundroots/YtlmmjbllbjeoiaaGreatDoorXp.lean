/- Rounding any number to a float: which rung it comes to, told by the middles below it; as for narrow floats. -/
import Derived.Test.YtlmmjbllbjeoiaaGreatDoorXo
namespace Go.Proofs.YtlmmjbllbjeoiaaGreatDoor
open Go.RowKit

/-- What stands at a rung that is told by its kept digits, and at the next one. -/
theorem d_val_kept {U k : Nat} (hk : k < 9007199254740992) (hU : U = 0 ∨ 4503599627370496 ≤ k) : val (U * 4503599627370496 + k) = k * 2 ^ U ∧ val (U * 4503599627370496 + k + 1) = (k + 1) * 2 ^ U := by
  have one : ∀ k, k < 9007199254740992 → (U = 0 ∨ 4503599627370496 ≤ k) → val (U * 4503599627370496 + k) = k * 2 ^ U := fun k h1 h2 => by
    have := mg_of h1 h2
    rw [← mg_up, this.1, this.2]
  refine ⟨one k hk hU, ?_⟩
  by_cases h : k + 1 < 9007199254740992
  · rw [Nat.add_assoc]; exact one (k + 1) h (hU.imp id (fun h => by omega))
  · have hk' : k = 9007199254740991 := by omega
    subst hk'
    have e : U * 4503599627370496 + 9007199254740991 + 1 = (U + 1) * 4503599627370496 + 4503599627370496 := by omega
    have := mg_of (U := U + 1) (M := 4503599627370496) (by omega) (Or.inr (Nat.le_refl _))
    rw [e, ← mg_up, this.1, this.2, Nat.pow_succ]
    generalize 2 ^ U = t
    omega
theorem val_le_D {r q : Nat} (h : r ≤ q) : val r ≤ val q := by
  rcases Nat.lt_or_ge r q with h1 | h1
  · exact Nat.le_of_lt (val_lt h1)
  · rw [show r = q by omega]; exact Nat.le_refl _
/-- A stands above the middle behind rung r, or at it and r is odd. -/
def aboveD (K A r : Nat) : Prop := (val r + val (r + 1)) * 2 ^ K < 2 * A ∨ ((val r + val (r + 1)) * 2 ^ K = 2 * A ∧ r % 2 = 1)
/-- Rounding to nearest, by the middles. -/
theorem near_anyD (s : Bool) {m : Nat} (p : Int) (K : Nat) (hm : m ≠ 0) (hK : 0 ≤ p + 1074 + K) :
    ∃ k, Ieee.double.nearest s m p = Ieee.double.word s k ∧ k ≤ 9218868437227405312 ∧ ∀ r, r < 9218868437227405312 → (r < k ↔ aboveD K (m * 2 ^ (p + 1074 + K).toNat) r) := by
  have s2 : Ieee.double.binade = 4503599627370496 := by decide
  have s3 : Ieee.double.infRung = 9218868437227405312 := by decide
  have s4 : Ieee.double.leastPlace = -1074 := by decide
  have s5 : (Ieee.double.fractionBits : Int) = 52 := by decide
  obtain ⟨last, hlast⟩ : ∃ l, max (p + (m.log2 : Int) - 52) (-1074) = l := ⟨_, rfl⟩
  obtain ⟨U, hU⟩ : ∃ U : Nat, (last + 1074).toNat = U := ⟨_, rfl⟩
  obtain ⟨n, hn⟩ : ∃ n, m <<< (p - last).toNat = n := ⟨_, rfl⟩
  obtain ⟨d, hd⟩ : ∃ d, (last - p).toNat = d := ⟨_, rfl⟩
  obtain ⟨k0, hk0⟩ : ∃ k0, n / 2 ^ d = k0 := ⟨_, rfl⟩
  obtain ⟨A, hA⟩ : ∃ A, m * 2 ^ (p + 1074 + K).toNat = A := ⟨_, rfl⟩
  have hlog := Nat.log2_self_le hm
  have hlog2 := Nat.lt_log2_self (n := m)
  have hnA : A * 2 ^ d = n * 2 ^ (U + K) := by
    rw [← hA, ← hn, Nat.shiftLeft_eq, Nat.mul_assoc, Nat.mul_assoc, ← Nat.pow_add, ← Nat.pow_add]
    congr 2
    omega
  have hnl : n.log2 = m.log2 + (p - last).toNat := by rw [← hn, Nat.shiftLeft_eq]; exact log2_mul hm
  have hn0 : n ≠ 0 := by
    rw [← hn, Nat.shiftLeft_eq]
    have := Nat.mul_pos (Nat.pos_of_ne_zero hm) (Nat.two_pow_pos (p - last).toNat)
    omega
  have hkb : k0 < 9007199254740992 ∧ (U = 0 ∨ 4503599627370496 ≤ k0) := by
    have h1 := Nat.log2_self_le hn0
    have h2 := Nat.lt_log2_self (n := n)
    have hp := Nat.two_pow_pos d
    by_cases hU0 : U = 0
    · refine ⟨?_, Or.inl hU0⟩
      have hdd : n.log2 + 1 ≤ d + 53 := by omega
      have h3 : n < 2 ^ (d + 53) := Nat.lt_of_lt_of_le h2 (Nat.pow_le_pow_right (by omega) hdd)
      rw [Nat.pow_add, Nat.mul_comm] at h3
      rw [← hk0]
      exact Nat.div_lt_of_lt_mul (by rw [Nat.mul_comm]; exact h3)
    · have hdd : n.log2 = d + 52 := by omega
      rw [hdd] at h1 h2
      rw [← hk0]
      constructor
      · rw [show d + 52 + 1 = 53 + d by omega, Nat.pow_add] at h2
        exact Nat.div_lt_of_lt_mul (by rw [Nat.mul_comm]; exact h2)
      · right
        rw [Nat.le_div_iff_mul_le hp]
        rw [show d + 52 = 52 + d by omega, Nat.pow_add] at h1
        exact h1
  obtain ⟨v1, v2⟩ := d_val_kept hkb.1 hkb.2
  obtain ⟨a1, a2, a3, a4⟩ := above_parts hk0.symm hnA
  have hT := Nat.two_pow_pos (U + K)
  have a2 := a2 hT
  have a4 := a4 hT
  obtain ⟨f, hf⟩ : ∃ f, U * 4503599627370496 + k0 = f := ⟨_, rfl⟩
  rw [hf] at v1 v2
  have hpar : f % 2 = k0 % 2 := by omega
  refine ⟨min (f + (decide (2 ^ d < 2 * (n % 2 ^ d)) || (decide (2 ^ d = 2 * (n % 2 ^ d)) && k0 % 2 == 1)).toNat) 9218868437227405312, ?_, by omega, ?_⟩
  · unfold Ieee.Format.nearest
    simp only [s2, s3, s4, s5]
    rw [if_neg hm, hlast, hn, hd, show (last - -1074).toNat = U by omega, cut_even s n d, hk0, ← hf, Nat.add_assoc]
  · intro r hr
    have hfv : val f * 2 ^ K = k0 * 2 ^ (U + K) := by rw [v1, Nat.mul_assoc, ← Nat.pow_add]
    have hfv2 : val (f + 1) * 2 ^ K = (k0 + 1) * 2 ^ (U + K) := by rw [v2, Nat.mul_assoc, ← Nat.pow_add]
    have hmid : (val f + val (f + 1)) * 2 ^ K = (2 * k0 + 1) * 2 ^ (U + K) := by
      rw [Nat.add_mul, hfv, hfv2, ← Nat.add_mul]; congr 1; omega
    have hKp := Nat.two_pow_pos K
    rw [hA]
    have low : r < f → aboveD K A r := fun h => by
      left
      have x1 := val_le_D (show r ≤ f by omega)
      have x2 := val_le_D (show r + 1 ≤ f by omega)
      have x3 : val r < val f := (val_lt_iff r f).2 h
      have x4 : (val r + val (r + 1)) * 2 ^ K < (val f + val f) * 2 ^ K := Nat.mul_lt_mul_of_pos_right (by omega) hKp
      rw [Nat.add_mul (val f)] at x4
      omega
    have high : f < r → ¬ aboveD K A r := fun h => by
      have x1 := val_le_D (show f + 1 ≤ r by omega)
      have x3 : val r < val (r + 1) := val_step r
      have x4 : (val (f + 1) + val (f + 1)) * 2 ^ K < (val r + val (r + 1)) * 2 ^ K := Nat.mul_lt_mul_of_pos_right (by omega) hKp
      rw [Nat.add_mul (val (f + 1))] at x4
      rintro (h | ⟨h, _⟩) <;> omega
    rcases Nat.lt_trichotomy r f with h | h | h
    · exact ⟨fun _ => low h, fun _ => by omega⟩
    · subst h
      unfold aboveD
      rw [hmid, a3, a4, hpar]
      have hbt : (decide (2 ^ d < 2 * (n % 2 ^ d)) || (decide (2 ^ d = 2 * (n % 2 ^ d)) && k0 % 2 == 1)) = true ↔ (0 < 2 ^ (U + K) ∧ 2 ^ d < 2 * (n % 2 ^ d)) ∨ (2 ^ d = 2 * (n % 2 ^ d) ∧ k0 % 2 = 1) := by
        simp only [Bool.or_eq_true, Bool.and_eq_true, decide_eq_true_eq, beq_iff_eq]
        constructor
        · rintro (h | h)
          · exact Or.inl ⟨hT, h⟩
          · exact Or.inr h
        · rintro (h | h)
          · exact Or.inl h.2
          · exact Or.inr h
      rw [← hbt]
      generalize (decide (2 ^ d < 2 * (n % 2 ^ d)) || (decide (2 ^ d = 2 * (n % 2 ^ d)) && k0 % 2 == 1)) = bb
      have hbb : bb.toNat = if bb = true then 1 else 0 := by cases bb <;> rfl
      rw [hbb]
      by_cases hc : bb = true
      · rw [if_pos hc]; exact ⟨fun _ => hc, fun _ => Nat.lt_min.2 ⟨Nat.lt_succ_self _, hr⟩⟩
      · rw [if_neg hc]; exact ⟨fun h => absurd (Nat.lt_of_lt_of_le h (Nat.min_le_left _ _)) (Nat.lt_irrefl _), fun h => absurd h hc⟩
    · refine ⟨fun hh => ?_, fun hh => absurd hh (high h)⟩
      exfalso
      have : ∀ b : Bool, b.toNat ≤ 1 := fun b => by cases b <;> simp
      have := this (decide (2 ^ d < 2 * (n % 2 ^ d)) || (decide (2 ^ d = 2 * (n % 2 ^ d)) && k0 % 2 == 1))
      omega
end Go.Proofs.YtlmmjbllbjeoiaaGreatDoor
