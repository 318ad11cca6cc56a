/- Rounding twice: a number rounded to a float, and that to a narrow float, comes to what it comes to rounded once, if no number but a middle of two narrow floats itself is rounded to that middle. -/
import Derived.Test.YtekejddblgkcgaaDoorZw
namespace Go.Proofs.YtekejddblgkcgaaDoor
open Go.RowKit

theorem has_rung {M : Nat} (hM : M < 9007199254740992) (e : Nat) : ∃ q, val q = M * 2 ^ e := by
  by_cases h0 : M = 0
  · exact ⟨0, by rw [h0, val_zero, Nat.zero_mul]⟩
  · have hl := log2_lt53 h0 hM
    have hb := norm_bd h0 hM
    by_cases he : 52 - M.log2 ≤ e
    · have h := mg_of (U := e - (52 - M.log2)) (M := M * 2 ^ (52 - M.log2)) (by omega) (Or.inr (by omega))
      refine ⟨(e - (52 - M.log2)) * 4503599627370496 + M * 2 ^ (52 - M.log2), ?_⟩
      rw [← mg_up, h.1, h.2, Nat.mul_assoc, ← Nat.pow_add, show 52 - M.log2 + (e - (52 - M.log2)) = e by omega]
    · have h1 : M * 2 ^ e < 9007199254740992 := Nat.lt_of_le_of_lt (Nat.mul_le_mul_left M (Nat.pow_le_pow_right (by omega) (by omega : e ≤ 52 - M.log2))) (by omega)
      have h := mg_of (U := 0) (M := M * 2 ^ e) h1 (Or.inl rfl)
      exact ⟨0 * 4503599627370496 + M * 2 ^ e, by rw [← mg_up, h.1, h.2, Nat.pow_zero, Nat.mul_one]⟩
/-- Each middle of two narrow floats is a float. -/
theorem mid_rung (r : Nat) : ∃ q, 2 * val q = (S.val r + S.val (r + 1)) * 2 ^ gapS := by
  have hg : gapS = 924 + 1 := rfl
  have hm := S.rung_mg r
  have hmo := S.mg_up_ok r
  have hlt := s_mg_lt r
  obtain ⟨v1, v2⟩ := s_val_kept (U := S.up r) (k := S.mg r) hlt hmo
  rw [← hm] at v1 v2
  obtain ⟨q, hq⟩ := has_rung (M := 2 * S.mg r + 1) (by omega) (S.up r + 924)
  refine ⟨q, ?_⟩
  have h2 : (2 : Nat) ^ (S.up r + gapS) = 2 ^ (S.up r + 924) * 2 := by
    rw [hg, ← Nat.add_assoc]
    exact Nat.pow_succ 2 (S.up r + 924)
  rw [hq, v1, v2, ← Nat.add_mul, show S.mg r + (S.mg r + 1) = 2 * S.mg r + 1 by omega, Nat.mul_assoc (2 * S.mg r + 1) (2 ^ S.up r), ← Nat.pow_add, h2]
  generalize 2 ^ (S.up r + 924) = t
  rw [Nat.mul_left_comm, Nat.mul_comm t 2]
theorem double_mono {K A k : Nat} (hk : ∀ r, r < 9218868437227405312 → (r < k ↔ aboveD K A r)) (hle : k < 9218868437227405312) (q : Nat) :
    (A < val q * 2 ^ K → k ≤ q) ∧ (val q * 2 ^ K < A → q ≤ k) ∧ (A = val q * 2 ^ K → q < 9218868437227405312 → k = q) := by
  have hp := Nat.two_pow_pos K
  have lower : ∀ q, A ≤ val q * 2 ^ K → q < 9218868437227405312 → ¬ aboveD K A q := fun q h _ => by
    have x1 : val q < val (q + 1) := val_step q
    have x2 : val q * 2 ^ K < val (q + 1) * 2 ^ K := Nat.mul_lt_mul_of_pos_right x1 hp
    unfold aboveD
    rw [Nat.add_mul]
    rintro (h | ⟨h, _⟩) <;> omega
  have upper : ∀ q, val (q + 1) * 2 ^ K ≤ A → aboveD K A q := fun q h => by
    have x1 : val q < val (q + 1) := val_step q
    have x2 : val q * 2 ^ K < val (q + 1) * 2 ^ K := Nat.mul_lt_mul_of_pos_right x1 hp
    left
    rw [Nat.add_mul]
    omega
  have U : ∀ q, val q * 2 ^ K ≤ A → q ≤ k := fun q h => by
    rcases Nat.eq_zero_or_pos q with h0 | h0
    · omega
    · by_cases hq : q - 1 < 9218868437227405312
      · have := (hk (q - 1) hq).2 (upper (q - 1) (by rw [show q - 1 + 1 = q by omega]; exact h))
        omega
      · exfalso
        have h1 : ∀ r, r < 9218868437227405312 → r < k := fun r hr => (hk r hr).2 (upper r (Nat.le_trans (Nat.mul_le_mul_right _ (val_le_D (show r + 1 ≤ q by omega))) h))
        have := h1 9218868437227405311 (by omega)
        omega
  have L : ∀ q, A ≤ val q * 2 ^ K → k ≤ q := fun q h => by
    by_cases hq : q < 9218868437227405312
    · have := lower q h hq
      rw [← hk q hq] at this
      omega
    · omega
  exact ⟨fun h => L q (by omega), fun h => U q (by omega), fun h _ => Nat.le_antisymm (L q (by omega)) (U q (by omega))⟩
/-- Of a number A (not too great for a float) and the float k that it is rounded to: they stand on the same side of each middle. -/
theorem same_side {K A k : Nat} (hk : ∀ r, r < 9218868437227405312 → (r < k ↔ aboveD K A r)) (hle : k < 9218868437227405312)
    (hyp : ∀ r, r < 2139095040 → (S.val r + S.val (r + 1)) * 2 ^ (gapS + K) = 2 * (val k * 2 ^ K) → (S.val r + S.val (r + 1)) * 2 ^ (gapS + K) = 2 * A)
    (r : Nat) (hr : r < 2139095040) : aboveS (gapS + K) A r ↔ aboveS (gapS + K) (val k * 2 ^ K) r := by
  obtain ⟨q, hq⟩ := mid_rung r
  have hm : (S.val r + S.val (r + 1)) * 2 ^ (gapS + K) = 2 * (val q * 2 ^ K) := by rw [Nat.pow_add, ← Nat.mul_assoc, ← hq, Nat.mul_assoc]
  have hy := hyp r hr
  unfold aboveS
  rw [hm] at hy ⊢
  obtain ⟨d1, d2, d3⟩ := double_mono hk hle q
  have hp := Nat.two_pow_pos K
  have mono : ∀ a b, a ≤ b → val a * 2 ^ K ≤ val b * 2 ^ K := fun a b h => Nat.mul_le_mul_right _ (val_le_D h)
  have inj : val k * 2 ^ K = val q * 2 ^ K → k = q := fun h => val_inj (Nat.eq_of_mul_eq_mul_right hp h)
  rcases Nat.lt_trichotomy A (val q * 2 ^ K) with h | h | h
  · have h1 := mono _ _ (d1 h)
    have h2 : ¬ val q * 2 ^ K = val k * 2 ^ K := fun e => by have := hy (by omega); omega
    constructor
    · rintro (x | ⟨x, _⟩) <;> omega
    · rintro (x | ⟨x, _⟩) <;> omega
  · have hqi : q < 9218868437227405312 := by
      by_cases hh : q < 9218868437227405312
      · exact hh
      · exfalso
        have := (double_mono hk hle k).1
        have hlt : val k * 2 ^ K < A := by
          rw [h]; exact Nat.mul_lt_mul_of_pos_right (val_lt (by omega)) hp
        have h3 := (double_mono hk hle (k + 1)).2.1
        by_cases h4 : val (k + 1) * 2 ^ K < A
        · have := h3 h4; omega
        · have h5 : A = val (k + 1) * 2 ^ K := by
            have : k + 1 ≤ q := by omega
            have := mono _ _ this
            omega
          have h6 := (hk k hle).2 (by
            left
            rw [Nat.add_mul]
            have := Nat.mul_lt_mul_of_pos_right (val_step k) hp
            omega)
          omega
    have e := d3 h hqi
    rw [h, e]
  · have h1 := mono _ _ (d2 h)
    have h2 : ¬ val q * 2 ^ K = val k * 2 ^ K := fun e => by have := hy (by omega); omega
    constructor
    · intro _; left; omega
    · intro _; left; omega
/-- Rounded once, or twice. -/
theorem twice_core (s : Bool) {m : Nat} (p : Int) (K : Nat) (hm : m ≠ 0) (hK : 0 ≤ p + 1074 + K) {k : Nat} (hle : k < 9218868437227405312) (hk0 : k ≠ 0)
    (hk : ∀ r, r < 9218868437227405312 → (r < k ↔ aboveD K (m * 2 ^ (p + 1074 + K).toNat) r))
    (hyp : ∀ r, r < 2139095040 → (S.val r + S.val (r + 1)) * 2 ^ (gapS + K) = 2 * (val k * 2 ^ K) → (S.val r + S.val (r + 1)) * 2 ^ (gapS + K) = 2 * (m * 2 ^ (p + 1074 + K).toNat)) :
    Ieee.single.nearest s m p = Ieee.single.nearest s (mg k) (-1074 + (up k : Nat)) := by
  have hg : gapS = 925 := rfl
  obtain ⟨k1, e1, l1, c1⟩ := near_any s p (gapS + K) hm (by omega)
  obtain ⟨k2, e2, l2, c2⟩ := near_any s (-1074 + ((up k : Nat) : Int)) (gapS + K) (mg_ne hk0) (by omega)
  have x1 : (p + 149 + ((gapS + K : Nat) : Int)).toNat = (p + 1074 + K).toNat := by omega
  have x2 : mg k * 2 ^ (-1074 + ((up k : Nat) : Int) + 149 + ((gapS + K : Nat) : Int)).toNat = val k * 2 ^ K := by
    rw [show (-1074 + ((up k : Nat) : Int) + 149 + ((gapS + K : Nat) : Int)).toNat = up k + K by omega, Nat.pow_add, ← Nat.mul_assoc, mg_up]
  rw [x1] at c1
  rw [x2] at c2
  have hs := same_side hk hle hyp
  have hkk : k1 = k2 := by
    have g : ∀ r, r < 2139095040 → (r < k1 ↔ r < k2) := fun r hr => by rw [c1 r hr, c2 r hr]; exact hs r hr
    rcases Nat.lt_trichotomy k1 k2 with h | h | h
    · have := (g k1 (by omega)).2 h; omega
    · exact h
    · have := (g k2 (by omega)).1 h; omega
  rw [e1, e2, hkk]
end Go.Proofs.YtekejddblgkcgaaDoor
