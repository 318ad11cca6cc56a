/- Sums and differences of two narrow floats: none but a middle of two narrow floats itself is rounded, as a float, to that middle. -/
import Derived.Test.YtekejddblgkcgaaDoorXs
namespace Go.Proofs.YtekejddblgkcgaaDoor
open Go.RowKit

/-- How far a number can be from the float that it is rounded to. -/
theorem near_far {A k : Nat} (hk : ∀ r, r < 9218868437227405312 → (r < k ↔ aboveD 0 A r)) (hle : k < 9218868437227405312) : 2 * A ≤ 2 * val k + 2 ^ up k ∧ 2 * val k ≤ 2 * A + 2 ^ up k := by
  have hm := rung_mg k
  have hmo := mg_up_ok k
  obtain ⟨v1, v2⟩ := d_val_kept (U := up k) (k := mg k) (mg_lt k) hmo
  rw [← hm] at v1 v2
  have hstep : val (k + 1) = val k + 2 ^ up k := by rw [v1, v2, Nat.add_mul, Nat.one_mul]
  constructor
  · have h : ¬ aboveD 0 A k := fun ha => Nat.lt_irrefl k ((hk k hle).2 ha)
    unfold aboveD at h
    rw [Nat.pow_zero, Nat.mul_one] at h
    by_cases c : val k + val (k + 1) < 2 * A
    · exact absurd (Or.inl c) h
    · omega
  · rcases Nat.eq_zero_or_pos k with h0 | h0
    · subst h0; rw [val_zero, Nat.mul_zero]; exact Nat.zero_le _
    · have h := (hk (k - 1) (by omega)).1 (by omega)
      unfold aboveD at h
      rw [Nat.pow_zero, Nat.mul_one, show k - 1 + 1 = k by omega] at h
      have hprev : val k ≤ val (k - 1) + 2 ^ up k := by
        have hm' := rung_mg (k - 1)
        obtain ⟨w1, w2⟩ := d_val_kept (U := up (k - 1)) (k := mg (k - 1)) (mg_lt _) (mg_up_ok _)
        rw [← hm', show k - 1 + 1 = k by omega] at w2
        rw [← hm'] at w1
        have hu : up (k - 1) ≤ up k := by unfold up; (repeat' split) <;> omega
        have hp : 2 ^ up (k - 1) ≤ 2 ^ up k := Nat.pow_le_pow_right (by omega) hu
        rw [w2, w1, Nat.add_mul, Nat.one_mul]
        omega
      rcases h with h | ⟨h, _⟩ <;> omega
theorem add_lin {X Y T Q W : Nat} (hW : 0 < W) (hT : T = X + Y ∨ T + Y = X ∨ T + X = Y) (h1 : 2 * T ≤ 2 * Q + 268435456 * W + W) (h2 : 2 * Q + 268435456 * W ≤ 2 * T + W)
    (hX : X ≤ Q ∨ Q + 268435456 * W ≤ X) (hY : Y ≤ Q ∨ Q + 268435456 * W ≤ Y) : 134217728 * W < 2 * X ∧ 134217728 * W < 2 * Y := by
  rcases hT with hT | hT | hT <;> rcases hX with hX | hX <;> rcases hY with hY | hY <;> omega
/-- A narrow size that is above 2^(U - 2) is a multiple of 2^(U - 25). -/
theorem size_mult {r U W : Nat} (hU : 28 ≤ U) (hW : W = 2 ^ (U - 28)) (h : 134217728 * W < 2 * S.val r) : ∃ x, S.val r = x * (8 * W) := by
  have h8 : 8 * W = 2 ^ (U - 25) := by rw [hW, show U - 25 = U - 28 + 3 by omega, Nat.pow_add]; omega
  have hv : S.val r = S.mg r * 2 ^ S.up r := (S.mg_up r).symm
  by_cases hi : U - 25 ≤ S.up r
  · refine ⟨S.mg r * 2 ^ (S.up r - (U - 25)), ?_⟩
    rw [h8, hv, Nat.mul_assoc, ← Nat.pow_add, show S.up r - (U - 25) + (U - 25) = S.up r by omega]
  · exfalso
    have h1 : 2 ^ S.up r ≤ 2 ^ (U - 26) := Nat.pow_le_pow_right (by omega) (by omega)
    have h2 : (2 : Nat) ^ (U - 26) = 4 * W := by rw [hW, show U - 26 = U - 28 + 2 by omega, Nat.pow_add]; omega
    have h3 := s_mg_lt r
    have h4 : S.mg r * 2 ^ S.up r ≤ 16777215 * (4 * W) := Nat.mul_le_mul (by omega) (by omega)
    rw [hv] at h
    omega
theorem pow_gap (U : Nat) : (2 : Nat) ^ (U + gapS) = 2 ^ (U + 897) * 268435456 := by
  have h : U + gapS = U + 897 + 28 := rfl
  rw [h, Nat.pow_add, show (2 : Nat) ^ 28 = 268435456 from rfl]
theorem pow_gap0 : (2 : Nat) ^ gapS = 2 ^ 897 * 268435456 := by
  have h := pow_gap 0
  rwa [Nat.zero_add, Nat.zero_add] at h
theorem two_c (c t : Nat) : c * t + (c + 1) * t = (2 * c + 1) * t := by
  rw [← Nat.add_mul]; congr 1; omega
/-- The sum's, or the difference's, premise. -/
theorem add_mid {r1 r2 T k r : Nat} (hT : T = S.val r1 + S.val r2 ∨ T + S.val r2 = S.val r1 ∨ T + S.val r1 = S.val r2)
    (hk : ∀ q, q < 9218868437227405312 → (q < k ↔ aboveD 0 (T * 2 ^ gapS) q)) (hle : k < 9218868437227405312)
    (h : (S.val r + S.val (r + 1)) * 2 ^ gapS = 2 * val k) : S.val r + S.val (r + 1) = 2 * T := by
  obtain ⟨f1, f2⟩ := near_far hk hle
  have hm := S.rung_mg r
  obtain ⟨v1, v2⟩ := s_val_kept (U := S.up r) (k := S.mg r) (s_mg_lt r) (S.mg_up_ok r)
  rw [← hm] at v1 v2
  have hcl := s_mg_lt r
  obtain ⟨U, hU⟩ : ∃ U, S.up r = U := ⟨_, rfl⟩
  obtain ⟨c, hc⟩ : ∃ c, S.mg r = c := ⟨_, rfl⟩
  rw [hU, hc] at v1 v2
  rw [hc] at hcl
  -- the gap at k
  have hE : 2 ^ up k ≤ 2 ^ (U + 897) := by
    rcases mg_up_ok k with hu | hu
    · rw [hu]; exact Nat.pow_le_pow_right (by omega) (by omega)
    · have hv : mg k * 2 ^ up k = val k := mg_up k
      have hsum : S.val r + S.val (r + 1) = (2 * c + 1) * 2 ^ U := by rw [v1, v2]; exact two_c c _
      have h3 : 2 * val k < 2 ^ 25 * 2 ^ (U + gapS) := by
        rw [← h, hsum, Nat.mul_assoc, ← Nat.pow_add]
        exact Nat.mul_lt_mul_of_pos_right (by omega) (Nat.two_pow_pos _)
      have h4 : 4503599627370496 * 2 ^ up k ≤ val k := by rw [← hv]; exact Nat.mul_le_mul_right _ hu
      rw [pow_gap] at h3
      generalize (2 : Nat) ^ (U + 897) = t at *
      generalize (2 : Nat) ^ up k = g at *
      omega
  have hbig := pow_gap0
  have hbig2 : (2 : Nat) ^ (U + 897) = 2 ^ U * 2 ^ 897 := Nat.pow_add 2 U 897
  rw [hbig] at f1 f2 h
  rw [hbig2] at hE
  have hP := Nat.two_pow_pos 897
  generalize (2 : Nat) ^ 897 = P at *
  have g1 : 2 * T * 268435456 ≤ (S.val r + S.val (r + 1)) * 268435456 + 2 ^ U := by
    refine Nat.le_of_mul_le_mul_right (c := P) ?_ hP
    rw [Nat.add_mul ((S.val r + S.val (r + 1)) * 268435456)]
    have a1 : T * (P * 268435456) = T * 268435456 * P := by rw [Nat.mul_comm P, Nat.mul_assoc]
    have a2 : (S.val r + S.val (r + 1)) * (P * 268435456) = (S.val r + S.val (r + 1)) * 268435456 * P := by rw [Nat.mul_comm P, Nat.mul_assoc]
    have a3 : 2 * T * 268435456 * P = 2 * (T * 268435456 * P) := by rw [Nat.mul_assoc 2, Nat.mul_assoc 2]
    rw [a1] at f1
    rw [a2] at h
    rw [a3]
    omega
  have g2 : (S.val r + S.val (r + 1)) * 268435456 ≤ 2 * T * 268435456 + 2 ^ U := by
    refine Nat.le_of_mul_le_mul_right (c := P) ?_ hP
    rw [Nat.add_mul (2 * T * 268435456)]
    have a1 : T * (P * 268435456) = T * 268435456 * P := by rw [Nat.mul_comm P, Nat.mul_assoc]
    have a2 : (S.val r + S.val (r + 1)) * (P * 268435456) = (S.val r + S.val (r + 1)) * 268435456 * P := by rw [Nat.mul_comm P, Nat.mul_assoc]
    have a3 : 2 * T * 268435456 * P = 2 * (T * 268435456 * P) := by rw [Nat.mul_assoc 2, Nat.mul_assoc 2]
    rw [a1] at f2
    rw [a2] at h
    rw [a3]
    omega
  clear f1 f2 h hE hP hbig hbig2 hk
  by_cases hU28 : U < 28
  · have : (2 : Nat) ^ U < 2 ^ 28 := Nat.pow_lt_pow_right (by omega) hU28
    have e28 : (2 : Nat) ^ 28 = 268435456 := rfl
    omega
  · obtain ⟨W, hW⟩ : ∃ W, 2 ^ (U - 28) = W := ⟨_, rfl⟩
    have hW0 : 0 < W := by rw [← hW]; exact Nat.two_pow_pos _
    have hUW : (2 : Nat) ^ U = 268435456 * W := by rw [← hW, show (268435456 : Nat) = 2 ^ 28 from rfl, ← Nat.pow_add, show 28 + (U - 28) = U by omega]
    rw [hUW] at v1 v2 g1 g2
    have far : ∀ q, S.val q ≤ S.val r ∨ S.val r + 268435456 * W ≤ S.val q := fun q => by
      rcases Nat.lt_or_ge r q with hq | hq
      · right
        have := val_le_S (show r + 1 ≤ q by omega)
        rw [v2, Nat.add_mul, Nat.one_mul, ← v1] at this
        exact this
      · left; exact val_le_S hq
    have hv2 : S.val (r + 1) = S.val r + 268435456 * W := by rw [v2, Nat.add_mul, Nat.one_mul, ← v1]
    rw [hv2] at g1 g2 ⊢
    obtain ⟨x1, x2⟩ := add_lin hW0 hT (by omega) (by omega) (far r1) (far r2)
    obtain ⟨a, ha⟩ := size_mult (by omega) hW.symm x1
    obtain ⟨b, hb⟩ := size_mult (by omega) hW.symm x2
    have hr8 : S.val r = c * 33554432 * (8 * W) := by rw [v1, Nat.mul_assoc]; congr 1; omega
    have hT8 : ∃ t, T = t * (8 * W) := by
      rcases hT with e | e | e
      · exact ⟨a + b, by rw [e, ha, hb, Nat.add_mul]⟩
      · refine ⟨a - b, ?_⟩
        rw [Nat.sub_mul, ← ha, ← hb]; omega
      · refine ⟨b - a, ?_⟩
        rw [Nat.sub_mul, ← ha, ← hb]; omega
    obtain ⟨t, ht⟩ := hT8
    rw [ht, hr8] at g1 g2 ⊢
    have hG : 0 < 8 * W := by omega
    have q1 : 2 * t ≤ 2 * (c * 33554432) + 33554432 := by
      by_cases hh : 2 * t ≤ 2 * (c * 33554432) + 33554432
      · exact hh
      · exfalso
        have := Nat.mul_le_mul_right (8 * W) (show 2 * (c * 33554432) + 33554432 + 1 ≤ 2 * t by omega)
        rw [Nat.add_mul, Nat.add_mul, Nat.mul_assoc 2, Nat.mul_assoc 2 t] at this
        omega
    have q2 : 2 * (c * 33554432) + 33554432 ≤ 2 * t := by
      by_cases hh : 2 * (c * 33554432) + 33554432 ≤ 2 * t
      · exact hh
      · exfalso
        have := Nat.mul_le_mul_right (8 * W) (show 2 * t + 1 ≤ 2 * (c * 33554432) + 33554432 by omega)
        rw [Nat.add_mul, Nat.add_mul (2 * (c * 33554432)), Nat.mul_assoc 2, Nat.mul_assoc 2 (c * 33554432)] at this
        omega
    have e : 2 * t = 2 * (c * 33554432) + 33554432 := by omega
    have := congrArg (· * (8 * W)) e
    simp only [Nat.add_mul] at this
    rw [Nat.mul_assoc 2 t, Nat.mul_assoc 2 (c * 33554432)] at this
    omega
end Go.Proofs.YtekejddblgkcgaaDoor
