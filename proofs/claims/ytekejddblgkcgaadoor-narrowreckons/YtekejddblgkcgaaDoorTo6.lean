/- Narrow floats reckoned in floats, in plain numbers: which float is a middle of two narrow ones; that two floats next to each other, neither of them a middle, are rounded to one narrow float; that a quotient or a root of narrow floats which is told as a middle is that middle exactly. No program. -/
import Derived.Test.YtekejddblgkcgaaDoorXu
import Derived.Test.YtekejddblgkcgaaDoorXx
import Derived.Test.YtekejddblgkcgaaDoorXe0
namespace Go.Proofs.YtekejddblgkcgaaDoor
open Go.RowKit

/-- The middle above a narrow rung, twice, in units of 2^-1074. -/
def md2 (r : Nat) : Nat := (S.val r + S.val (r + 1)) * 2 ^ gapS
def Mid2 (R : Nat) : Prop := ∃ r, 2 * val R = md2 r
theorem md2_form (r : Nat) : ∃ M e, M < 33554432 ∧ M ≠ 0 ∧ 925 ≤ e ∧ md2 r = M * 2 ^ e := by
  obtain ⟨v1, v2⟩ := s_val_kept (U := S.up r) (k := S.mg r) (s_mg_lt r) (S.mg_up_ok r)
  rw [← S.rung_mg r] at v1 v2
  have hl := s_mg_lt r
  refine ⟨2 * S.mg r + 1, S.up r + gapS, by omega, by omega, by show 925 ≤ S.up r + 925; omega, ?_⟩
  unfold md2
  rw [v1, v2, two_c, Nat.mul_assoc, ← Nat.pow_add]
theorem mid_even {q M e : Nat} (hM : M < 33554432) (he : 925 ≤ e) (h : 2 * val q = M * 2 ^ e) : q % 2 = 0 := by
  have hq := rung_mg q
  have hmo := mg_up_ok q
  rw [← mg_up] at h
  have h' : mg q * 2 ^ (up q + 1) = M * 2 ^ e := by rw [Nat.pow_succ, ← h]; generalize 2 ^ up q = t; rw [Nat.mul_comm t 2, Nat.mul_left_comm]
  by_cases c : e ≤ up q + 1
  · have h1 : mg q * 2 ^ (up q + 1 - e) = M := Nat.eq_of_mul_eq_mul_right (Nat.two_pow_pos e) (by rw [Nat.mul_assoc, ← Nat.pow_add, show up q + 1 - e + e = up q + 1 by omega]; exact h')
    have h2 : mg q ≤ M := by rw [← h1]; exact Nat.le_mul_of_pos_right _ (Nat.two_pow_pos _)
    rcases hmo with hu | hu <;> omega
  · have h1 : mg q = M * 2 ^ (e - (up q + 1)) := Nat.eq_of_mul_eq_mul_right (Nat.two_pow_pos (up q + 1)) (by rw [Nat.mul_assoc, ← Nat.pow_add, show e - (up q + 1) + (up q + 1) = e by omega]; exact h')
    have hev : mg q % 2 = 0 := by
      obtain ⟨t, ht⟩ : ∃ t, e - (up q + 1) = t + 1 := ⟨e - (up q + 1) - 1, by omega⟩
      rw [h1, ht, Nat.pow_succ, ← Nat.mul_assoc]
      exact Nat.mul_mod_left _ _
    omega
theorem nwr_above {R : Nat} (h0 : R ≠ 0) : ∀ r, r < 2139095040 → (r < nwr R ↔ aboveS gapS (val R) r) := by
  have hg : gapS = 925 := rfl
  obtain ⟨k, e, _, c⟩ := near_any false (m := mg R) (-1074 + (up R : Int)) gapS (mg_ne h0) (by omega)
  have e2 := near_nwr false h0
  rw [e2, S.word_pos, S.word_pos] at e
  have hk : nwr R = k := e
  rw [show (-1074 + ((up R : Nat) : Int) + 149 + ((gapS : Nat) : Int)).toNat = up R by omega, mg_up] at c
  rw [hk]; exact c
/-- Two floats next to each other, neither a middle. -/
theorem nwr_near {R Q : Nat} (hR : R ≠ 0) (hQ : Q ≠ 0) (h : Q = R + 1 ∨ R = Q + 1) (nR : ¬ Mid2 R) (nQ : ¬ Mid2 Q) : nwr R = nwr Q := by
  have a := nwr_above hR
  have b := nwr_above hQ
  have key : ∀ r, r < 2139095040 → (r < nwr R ↔ r < nwr Q) := fun r hr => by
    rw [a r hr, b r hr]
    obtain ⟨q, hq⟩ := mid_rung r
    have n1 : q ≠ R := fun e => nR ⟨r, by rw [← e]; exact hq⟩
    have n2 : q ≠ Q := fun e => nQ ⟨r, by rw [← e]; exact hq⟩
    have l1 := val_lt_iff q R
    have l2 := val_lt_iff q Q
    have i1 : val q ≠ val R := fun e => n1 (val_inj e)
    have i2 : val q ≠ val Q := fun e => n2 (val_inj e)
    unfold aboveS
    rw [← hq]
    constructor
    · rintro (g | ⟨g, _⟩)
      · exact Or.inl (by have := l1.1 (by omega); have := l2.2 (by omega); omega)
      · omega
    · rintro (g | ⟨g, _⟩)
      · exact Or.inl (by have := l2.1 (by omega); have := l1.2 (by omega); omega)
      · omega
  have l1 : nwr R ≤ 2139095040 := by unfold nwr; omega
  have l2 : nwr Q ≤ 2139095040 := by unfold nwr; omega
  rcases Nat.lt_trichotomy (nwr R) (nwr Q) with g | g | g
  · exact absurd ((key _ (by omega)).2 g) (Nat.lt_irrefl _)
  · exact g
  · exact absurd ((key _ (by omega)).1 g) (Nat.lt_irrefl _)
theorem mid_step {R Q : Nat} (hev : R % 2 = 0) (h : Q = R + 1 ∨ R = Q + 1) : ¬ Mid2 Q := by
  rintro ⟨r, hr⟩
  obtain ⟨M, e, h1, _, h3, h4⟩ := md2_form r
  rw [h4] at hr
  have := mid_even h1 h3 hr
  omega
/-- Numbers that are nearer to each other than their units let them be. -/
theorem near_units {a b α β : Nat} (ha : a < 16777216) (hb : b < 1125899906842624) (h1 : 2251799813685248 * (a * 2 ^ α) ≤ 2251799813685248 * (b * 2 ^ β) + a * 2 ^ α) (h2 : 2251799813685248 * (b * 2 ^ β) ≤ 2251799813685248 * (a * 2 ^ α) + a * 2 ^ α) : a * 2 ^ α = b * 2 ^ β := by
  by_cases c : β ≤ α
  · have e : a * 2 ^ α = a * 2 ^ (α - β) * 2 ^ β := by rw [Nat.mul_assoc, ← Nat.pow_add, show α - β + β = α by omega]
    have hp := Nat.two_pow_pos β
    rw [e] at h1 h2 ⊢
    generalize a * 2 ^ (α - β) = A at *
    generalize 2 ^ β = t at *
    have g1 : 2251799813685248 * A ≤ 2251799813685248 * b + A := Nat.le_of_mul_le_mul_right (c := t) (by rw [Nat.add_mul, Nat.mul_assoc, Nat.mul_assoc]; exact h1) hp
    have g2 : 2251799813685248 * b ≤ 2251799813685248 * A + A := Nat.le_of_mul_le_mul_right (c := t) (by rw [Nat.add_mul, Nat.mul_assoc, Nat.mul_assoc]; exact h2) hp
    rw [show A = b by omega]
  · have e : b * 2 ^ β = b * 2 ^ (β - α) * 2 ^ α := by rw [Nat.mul_assoc, ← Nat.pow_add, show β - α + α = β by omega]
    have hp := Nat.two_pow_pos α
    rw [e] at h1 h2 ⊢
    generalize b * 2 ^ (β - α) = B at *
    generalize 2 ^ α = t at *
    have g1 : 2251799813685248 * a ≤ 2251799813685248 * B + a := Nat.le_of_mul_le_mul_right (c := t) (by rw [Nat.add_mul, Nat.mul_assoc, Nat.mul_assoc]; exact h1) hp
    have g2 : 2251799813685248 * B ≤ 2251799813685248 * a + a := Nat.le_of_mul_le_mul_right (c := t) (by rw [Nat.add_mul, Nat.mul_assoc, Nat.mul_assoc]; exact h2) hp
    rw [show a = B by omega]
/-- How far a number can be from the float that it is rounded to, in any units. -/
theorem near_farK {K A k : Nat} (hk : ∀ r, r < 9218868437227405312 → (r < k ↔ aboveD K A r)) (hle : k < 9218868437227405312) (hm : 4503599627370496 ≤ mg k) : 9007199254740992 * A ≤ 9007199254740992 * (val k * 2 ^ K) + val k * 2 ^ K ∧ 9007199254740992 * (val k * 2 ^ K) ≤ 9007199254740992 * A + val k * 2 ^ K := by
  have hrm := rung_mg k
  have hmo := mg_up_ok k
  obtain ⟨v1, v2⟩ := d_val_kept (U := up k) (k := mg k) (mg_lt k) hmo
  rw [← hrm] at v1 v2
  have hstep : val (k + 1) = val k + 2 ^ up k := by rw [v1, v2, Nat.add_mul, Nat.one_mul]
  have hbig : 4503599627370496 * 2 ^ up k ≤ val k := by rw [← mg_up]; exact Nat.mul_le_mul_right _ hm
  have hP := Nat.two_pow_pos K
  have hbig' : 4503599627370496 * (2 ^ up k * 2 ^ K) ≤ val k * 2 ^ K := by rw [← Nat.mul_assoc]; exact Nat.mul_le_mul_right _ hbig
  have up1 : 2 * A ≤ 2 * (val k * 2 ^ K) + 2 ^ up k * 2 ^ K := by
    have h : ¬ aboveD K A k := fun ha => Nat.lt_irrefl k ((hk k hle).2 ha)
    unfold aboveD at h
    rw [hstep, show val k + (val k + 2 ^ up k) = 2 * val k + 2 ^ up k by omega, Nat.add_mul, Nat.mul_assoc] at h
    by_cases c : 2 * (val k * 2 ^ K) + 2 ^ up k * 2 ^ K < 2 * A
    · exact absurd (Or.inl c) h
    · omega
  have dn1 : 2 * (val k * 2 ^ K) ≤ 2 * A + 2 ^ up k * 2 ^ K := by
    rcases Nat.eq_zero_or_pos k with h0 | h0
    · subst h0; rw [val_zero, Nat.zero_mul, Nat.mul_zero]; exact Nat.zero_le _
    · have h := (hk (k - 1) (by omega)).1 (by omega)
      unfold aboveD at h
      rw [show k - 1 + 1 = k by omega] at h
      have hprev : val k ≤ val (k - 1) + 2 ^ up k := by
        have hm' := rung_mg (k - 1)
        obtain ⟨w1, w2⟩ := d_val_kept (U := up (k - 1)) (k := mg (k - 1)) (mg_lt _) (mg_up_ok _)
        rw [← hm', show k - 1 + 1 = k by omega] at w2
        rw [← hm'] at w1
        have hu : up (k - 1) ≤ up k := by unfold up; (repeat' split) <;> omega
        have hp : 2 ^ up (k - 1) ≤ 2 ^ up k := Nat.pow_le_pow_right (by omega) hu
        rw [w2, w1, Nat.add_mul, Nat.one_mul]
        omega
      have h2 : 2 * (val k * 2 ^ K) ≤ (val (k - 1) + val k) * 2 ^ K + 2 ^ up k * 2 ^ K := by
        rw [← Nat.mul_assoc, ← Nat.add_mul]
        exact Nat.mul_le_mul_right _ (by omega)
      rcases h with h | ⟨h, _⟩ <;> omega
  generalize val k * 2 ^ K = V at *
  generalize 2 ^ up k * 2 ^ K = g at *
  constructor <;> omega
theorem lin_two {a b c : Nat} (h1 : 9007199254740992 * c ≤ 9007199254740992 * a + a) (h2 : 9007199254740992 * a ≤ 9007199254740992 * c + a) (h3 : 9007199254740992 * c ≤ 9007199254740992 * b + b) (h4 : 9007199254740992 * b ≤ 9007199254740992 * c + b) : 2251799813685248 * b ≤ 2251799813685248 * a + b ∧ 2251799813685248 * a ≤ 2251799813685248 * b + b := by
  constructor <;> omega
end Go.Proofs.YtekejddblgkcgaaDoor
