/- Quotients of at least 64 bits, with one more bit for what is left: how floats, and middles of floats, lie to them: no program in this text. -/
import Derived.Test.YtmcnnnmlacpppaaDoorRs0
namespace Go.Proofs.YtmcnnnmlacpppaaDoor
open Go.RowKit

theorem mul2_lt {a b c : Nat} (hc : 0 < c) : a * c < b * c ↔ a < b := ⟨fun h => Nat.lt_of_mul_lt_mul_right h, fun h => Nat.mul_lt_mul_of_pos_right h hc⟩
/-- 2g against the quotient with its bit is g times the divisor against what is divided. -/
theorem stk_at {A B s g : Nat} (hB : 0 < B) (hs : s = 2 * (A / B) + if A % B = 0 then 0 else 1) : (2 * g < s ↔ g * B < A) ∧ (s < 2 * g ↔ A < g * B) := by
  have h1 : g ≤ A / B ↔ g * B ≤ A := Nat.le_div_iff_mul_le hB
  have h2 : g < A / B → g * B < A := fun h => by
    have : (g + 1) * B ≤ A := (Nat.le_div_iff_mul_le hB).1 h
    rw [Nat.succ_mul] at this
    omega
  have h3 := Nat.div_add_mod A B
  rw [Nat.mul_comm] at h3
  have h4 : g = A / B → g * B = A - A % B := fun h => by rw [h]; omega
  split at hs <;> constructor <;> constructor <;> intro h
  · exact h2 (by omega)
  · have := h1.2 (Nat.le_of_lt h)
    rcases Nat.lt_or_eq_of_le this with k | k
    · omega
    · have := h4 k; omega
  · have : ¬ g ≤ A / B := by omega
    have := mt h1.2 this
    omega
  · have : ¬ g * B ≤ A := by omega
    have := mt h1.1 this
    omega
  · rcases Nat.lt_or_ge g (A / B) with k | k
    · exact h2 k
    · have := h4 (by omega); omega
  · have := h1.2 (Nat.le_of_lt h)
    omega
  · have : ¬ g ≤ A / B := by omega
    have := mt h1.2 this
    omega
  · have : ¬ g * B ≤ A := by omega
    have := mt h1.1 this
    omega
theorem stk {A B s f i F : Nat} (hB : 0 < B) (hs : s = 2 * (A / B) + if A % B = 0 then 0 else 1) (hbig : 9223372036854775808 ≤ A / B) (hf : f < 1152921504606846976) :
    (f * 2 ^ i < s * 2 ^ F ↔ f * 2 ^ i * B < 2 * A * 2 ^ F) ∧ (s * 2 ^ F < f * 2 ^ i ↔ 2 * A * 2 ^ F < f * 2 ^ i * B) := by
  have hp := Nat.two_pow_pos F
  by_cases h : F < i
  · obtain ⟨k, rfl⟩ : ∃ k, i = F + (1 + k) := ⟨i - F - 1, by omega⟩
    have e1 : f * 2 ^ (F + (1 + k)) = 2 * (f * 2 ^ k) * 2 ^ F := by rw [Nat.pow_add, Nat.pow_add]; grind
    have e2 : f * 2 ^ (F + (1 + k)) * B = 2 * (f * 2 ^ k * B) * 2 ^ F := by rw [e1]; grind
    rw [e2, e1, mul2_lt hp, mul2_lt hp, mul2_lt hp, mul2_lt hp]
    obtain ⟨a, b⟩ := stk_at (g := f * 2 ^ k) hB hs
    constructor
    · rw [a]; omega
    · rw [b]; omega
  · have hq : 2 * A ≥ 18446744073709551616 * B := by
      have := (Nat.le_div_iff_mul_le hB).1 hbig
      omega
    have hs2 : 18446744073709551616 ≤ s := by omega
    have h1 : f * 2 ^ i ≤ f * 2 ^ F := Nat.mul_le_mul_left _ (Nat.pow_le_pow_right (by omega) (by omega))
    have h2 : f * 2 ^ F < 1152921504606846976 * 2 ^ F := Nat.mul_lt_mul_of_pos_right hf hp
    have h3 : 18446744073709551616 * 2 ^ F ≤ s * 2 ^ F := Nat.mul_le_mul_right _ hs2
    have l1 : f * 2 ^ i < s * 2 ^ F := by omega
    have h4 : f * 2 ^ i * B < 1152921504606846976 * 2 ^ F * B := Nat.mul_lt_mul_of_pos_right (by omega) hB
    have h5 : 18446744073709551616 * B * 2 ^ F ≤ 2 * A * 2 ^ F := Nat.mul_le_mul_right _ hq
    have e5 : 18446744073709551616 * B * 2 ^ F = 16 * (1152921504606846976 * 2 ^ F * B) := by grind
    have l2 : f * 2 ^ i * B < 2 * A * 2 ^ F := by
      rw [e5] at h5
      generalize 1152921504606846976 * 2 ^ F * B = x at *
      omega
    exact ⟨⟨fun _ => l2, fun _ => l1⟩, ⟨fun h => by omega, fun h => by omega⟩⟩
end Go.Proofs.YtmcnnnmlacpppaaDoor
