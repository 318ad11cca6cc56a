/- A sum of two finite narrow floats: done in floats and rounded once more it is what it is done once. In plain numbers. -/
import Derived.Test.YtekejddblgkcgaaDoorXt
import Derived.Test.YtekejddblgkcgaaDoorFy
namespace Go.Proofs.YtekejddblgkcgaaDoor
open Go.RowKit

/-- A number told in two ways comes to one narrow float. -/
theorem near_same (s : Bool) {m n : Nat} (p q : Int) (K : Nat) (hm : m ≠ 0) (hn : n ≠ 0) (hp : 0 ≤ p + 149 + K) (hq : 0 ≤ q + 149 + K) (h : m * 2 ^ (p + 149 + K).toNat = n * 2 ^ (q + 149 + K).toNat) : Ieee.single.nearest s m p = Ieee.single.nearest s n q := by
  obtain ⟨k1, e1, l1, c1⟩ := near_any s p K hm hp
  obtain ⟨k2, e2, l2, c2⟩ := near_any s q K hn hq
  rw [h] at c1
  have g : ∀ r, r < 2139095040 → (r < k1 ↔ r < k2) := fun r hr => by rw [c1 r hr, c2 r hr]
  have hkk : k1 = k2 := by
    rcases Nat.lt_trichotomy k1 k2 with h | h | h
    · have := (g k1 (by omega)).2 h; omega
    · exact h
    · have := (g k2 (by omega)).1 h; omega
  rw [e1, e2, hkk]
theorem s_sum_val (s t : Bool) (r q : Nat) : Ieee.Datum.sum (.number s (S.mg r) (-149 + (S.up r : Nat))) (.number t (S.mg q) (-149 + (S.up q : Nat))) =
    some (.number (if Ieee.signed s (S.mg r) (S.up r - min (S.up r) (S.up q)) + Ieee.signed t (S.mg q) (S.up q - min (S.up r) (S.up q)) = 0 then s && t else decide (Ieee.signed s (S.mg r) (S.up r - min (S.up r) (S.up q)) + Ieee.signed t (S.mg q) (S.up q - min (S.up r) (S.up q)) < 0))
      (Ieee.signed s (S.mg r) (S.up r - min (S.up r) (S.up q)) + Ieee.signed t (S.mg q) (S.up q - min (S.up r) (S.up q))).natAbs (-149 + (min (S.up r) (S.up q) : Nat))) := by
  have e1 : (-149 + (S.up r : Int) - (-149 + ((min (S.up r) (S.up q) : Nat) : Int))).toNat = S.up r - min (S.up r) (S.up q) := by omega
  have e2 : (-149 + (S.up q : Int) - (-149 + ((min (S.up r) (S.up q) : Nat) : Int))).toNat = S.up q - min (S.up r) (S.up q) := by omega
  have e3 : min (-149 + (S.up r : Int)) (-149 + (S.up q : Int)) = -149 + ((min (S.up r) (S.up q) : Nat) : Int) := by omega
  simp only [Ieee.Datum.sum, e3, e1, e2]
def sgv (s : Bool) (v : Nat) : Int := if s then -(v : Int) else v
theorem tot_d (s t : Bool) (r q : Nat) : (Ieee.signed s (mg r) (up r - min (up r) (up q)) + Ieee.signed t (mg q) (up q - min (up r) (up q))) * (2 ^ min (up r) (up q) : Nat) = sgv s (val r) + sgv t (val q) := by
  rw [Int.add_mul, signed_mul, signed_mul, show up r - min (up r) (up q) + min (up r) (up q) = up r by omega, show up q - min (up r) (up q) + min (up r) (up q) = up q by omega, mg_up, mg_up]
  rfl
theorem tot_s (s t : Bool) (r q : Nat) : (Ieee.signed s (S.mg r) (S.up r - min (S.up r) (S.up q)) + Ieee.signed t (S.mg q) (S.up q - min (S.up r) (S.up q))) * (2 ^ min (S.up r) (S.up q) : Nat) = sgv s (S.val r) + sgv t (S.val q) := by
  rw [Int.add_mul, signed_mul, signed_mul, show S.up r - min (S.up r) (S.up q) + min (S.up r) (S.up q) = S.up r by omega, show S.up q - min (S.up r) (S.up q) + min (S.up r) (S.up q) = S.up q by omega, S.mg_up, S.mg_up]
  rfl
theorem int_scale {z y : Int} {n : Nat} (hn : 0 < n) (h : z * (n : Int) = y) : (z = 0 ↔ y = 0) ∧ (z < 0 ↔ y < 0) ∧ z.natAbs * n = y.natAbs := by
  have hp : (0 : Int) < n := by omega
  refine ⟨⟨fun e => by rw [← h, e, Int.zero_mul], fun e => ?_⟩, ⟨fun e => by rw [← h]; exact Int.mul_neg_of_neg_of_pos e hp, fun e => ?_⟩, ?_⟩
  · rw [e] at h
    rcases Int.mul_eq_zero.1 h with h | h
    · exact h
    · omega
  · rw [← h] at e
    by_cases hz : z < 0
    · exact hz
    · have := Int.mul_nonneg (show 0 ≤ z by omega) (show (0 : Int) ≤ n by omega)
      omega
  · rw [← h, Int.natAbs_mul, Int.natAbs_natCast]
def topT : Nat := 253
def topS : Nat := 24 + topT
def topD : Nat := 2046
theorem s_val_lt {r : Nat} (h : r < 2139095040) : S.val r < 2 ^ topS := by
  have ht : (2 : Nat) ^ topS = 2 ^ 24 * 2 ^ topT := by unfold topS; exact Nat.pow_add 2 24 topT
  have h1 := s_mg_lt r
  have h2 : S.up r ≤ topT := (show S.up r ≤ 253 by unfold S.up; split <;> omega)
  rw [← S.mg_up]
  have h3 : 2 ^ S.up r ≤ 2 ^ topT := Nat.pow_le_pow_right (by omega) h2
  have h4 : S.mg r * 2 ^ S.up r ≤ 16777215 * 2 ^ topT := Nat.mul_le_mul (by omega) h3
  refine Nat.lt_of_le_of_lt h4 ?_
  rw [ht]
  exact Nat.mul_lt_mul_of_pos_right (by decide) (Nat.two_pow_pos _)
theorem val_inf : val 9218868437227405312 = 4503599627370496 * 2 ^ topD := by
  have h := mg_of (U := 2046) (M := 4503599627370496) (by omega) (Or.inr (Nat.le_refl _))
  rw [show 2046 * 4503599627370496 + 4503599627370496 = 9218868437227405312 from rfl] at h
  have h2 : up 9218868437227405312 = topD := h.2
  rw [← mg_up, h.1, h2]
/-- What is not great is not rounded to an infinity; what is not 0 is not rounded to 0. -/
theorem calm_round {A k : Nat} (hk : ∀ r, r < 9218868437227405312 → (r < k ↔ aboveD 0 A r)) (h0 : A ≠ 0) (e : Nat) (he : e ≤ 2000) (hA : A < 2 ^ e) : k < 9218868437227405312 ∧ k ≠ 0 := by
  obtain ⟨q, hq⟩ := has_rung (M := 1) (by omega) e
  rw [Nat.one_mul] at hq
  have hqi : q < 9218868437227405312 := by
    rw [← val_lt_iff, val_inf, hq]
    have h1 : (2 : Nat) ^ e < 2 ^ topD := Nat.pow_lt_pow_right (by omega) (show e < 2046 by omega)
    generalize (2 : Nat) ^ topD = t at *
    omega
  constructor
  · have h := (hk q hqi)
    have hn : ¬ aboveD 0 A q := by
      have x := val_step q
      unfold aboveD
      rw [Nat.pow_zero, Nat.mul_one]
      generalize (2 : Nat) ^ e = t at *
      rintro (y | ⟨y, _⟩) <;> omega
    have : ¬ q < k := fun y => hn (h.1 y)
    omega
  · have h := (hk 0 (by omega)).2 (by
      left
      rw [Nat.pow_zero, Nat.mul_one, val_zero, show val (0 + 1) = 1 from rfl]
      omega)
    omega
theorem sgv_abs (s t : Bool) (x y : Nat) : (sgv s x + sgv t y).natAbs = x + y ∨ (sgv s x + sgv t y).natAbs + y = x ∨ (sgv s x + sgv t y).natAbs + x = y := by
  unfold sgv
  cases s <;> cases t <;> simp only [Bool.false_eq_true, if_false, if_true] <;> omega
theorem sgv_scale (s t : Bool) (x y g : Nat) : (sgv s x + sgv t y) * (g : Int) = sgv s (x * g) + sgv t (y * g) := by
  unfold sgv
  cases s <;> cases t <;> simp only [Bool.false_eq_true, if_false, if_true, Int.natCast_mul] <;> rw [Int.add_mul] <;> simp [Int.neg_mul]
set_option maxRecDepth 100000 in
/-- A sum of narrow floats that is not 0: the float that it is rounded to is finite and not 0, and rounded once more it is the narrow float that the sum is rounded to. -/
theorem twice_sum (s t n : Bool) {ra rb : Nat} (ha : ra < 2139095040) (hb : rb < 2139095040) (hne : sgv s (S.val ra) + sgv t (S.val rb) ≠ 0) :
    ∃ k, Ieee.double.nearest n (Ieee.signed s (mg (wd ra)) (up (wd ra) - min (up (wd ra)) (up (wd rb))) + Ieee.signed t (mg (wd rb)) (up (wd rb) - min (up (wd ra)) (up (wd rb)))).natAbs (-1074 + (min (up (wd ra)) (up (wd rb)) : Nat)) = Ieee.double.word n k ∧ k < 9218868437227405312 ∧ k ≠ 0 ∧
      Ieee.single.nearest n (Ieee.signed s (S.mg ra) (S.up ra - min (S.up ra) (S.up rb)) + Ieee.signed t (S.mg rb) (S.up rb - min (S.up ra) (S.up rb))).natAbs (-149 + (min (S.up ra) (S.up rb) : Nat)) = Ieee.single.nearest n (mg k) (-1074 + (up k : Nat)) := by
  have hd := tot_d s t (wd ra) (wd rb)
  have hs := tot_s s t ra rb
  rw [wd_val, wd_val, ← sgv_scale] at hd
  obtain ⟨a1, _, a3⟩ := int_scale (Nat.two_pow_pos _) hs
  obtain ⟨b1, _, b3⟩ := int_scale (Nat.two_pow_pos _) hd
  obtain ⟨T, hT⟩ : ∃ T, (sgv s (S.val ra) + sgv t (S.val rb)).natAbs = T := ⟨_, rfl⟩
  have hT3 := sgv_abs s t (S.val ra) (S.val rb)
  rw [hT] at hT3
  rw [Int.natAbs_mul, Int.natAbs_natCast, hT] at b3
  rw [hT] at a3
  have hT0 : T ≠ 0 := by rw [← hT]; omega
  obtain ⟨zs, hzs⟩ : ∃ z, (Ieee.signed s (S.mg ra) (S.up ra - min (S.up ra) (S.up rb)) + Ieee.signed t (S.mg rb) (S.up rb - min (S.up ra) (S.up rb))).natAbs = z := ⟨_, rfl⟩
  obtain ⟨zd, hzd⟩ : ∃ z, (Ieee.signed s (mg (wd ra)) (up (wd ra) - min (up (wd ra)) (up (wd rb))) + Ieee.signed t (mg (wd rb)) (up (wd rb) - min (up (wd ra)) (up (wd rb)))).natAbs = z := ⟨_, rfl⟩
  rw [hzs] at a3 ⊢
  rw [hzd] at b3 ⊢
  obtain ⟨us, hus⟩ : ∃ u, min (S.up ra) (S.up rb) = u := ⟨_, rfl⟩
  obtain ⟨ud, hud⟩ : ∃ u, min (up (wd ra)) (up (wd rb)) = u := ⟨_, rfl⟩
  rw [hus] at a3 ⊢
  rw [hud] at b3 ⊢
  have hx := s_val_lt ha
  have hy := s_val_lt hb
  clear hd hs a1 b1 hzs hzd hus hud hne
  have zs0 : zs ≠ 0 := by intro e; rw [e, Nat.zero_mul] at a3; omega
  have zd0 : zd ≠ 0 := by
    intro e
    rw [e, Nat.zero_mul] at b3
    have := Nat.mul_pos (Nat.pos_of_ne_zero hT0) (Nat.two_pow_pos gapS)
    rw [← b3] at this
    exact Nat.lt_irrefl 0 this
  obtain ⟨k, e1, l1, c1⟩ := near_anyD n (-1074 + ((ud : Nat) : Int)) 0 zd0 (by omega)
  have x1 : (-1074 + ((ud : Nat) : Int) + 1074 + ((0 : Nat) : Int)).toNat = ud := by omega
  rw [x1, b3] at c1
  have hA : T * 2 ^ gapS < 2 ^ (topS + 1 + gapS) := by
    rw [Nat.pow_add]
    refine Nat.mul_lt_mul_of_pos_right ?_ (Nat.two_pow_pos _)
    rw [Nat.pow_succ, Nat.mul_comm]
    generalize (2 : Nat) ^ topS = w at *
    omega
  obtain ⟨k1, k2⟩ := calm_round c1 (by rw [← b3]; exact Nat.ne_of_gt (Nat.mul_pos (Nat.pos_of_ne_zero zd0) (Nat.two_pow_pos _))) (topS + 1 + gapS) (show 277 + 1 + 925 ≤ 2000 by omega) hA
  refine ⟨k, e1, k1, k2, ?_⟩
  have tw := twice_core n (-1074 + ((ud : Nat) : Int)) 0 zd0 (by omega) k1 k2 (by rw [x1, b3]; exact c1) (fun r hr h => by
    rw [x1, b3]
    rw [Nat.pow_zero, Nat.mul_one, show gapS + 0 = gapS from rfl] at h
    rw [show gapS + 0 = gapS from rfl, add_mid hT3 c1 k1 h, Nat.mul_assoc 2 T])
  rw [← tw]
  refine near_same n _ _ gapS zs0 zd0 ?_ ?_ ?_
  · show 0 ≤ -149 + ((us : Nat) : Int) + 149 + ((925 : Nat) : Int); omega
  · show 0 ≤ -1074 + ((ud : Nat) : Int) + 149 + ((925 : Nat) : Int); omega
  · have y1 : (-149 + ((us : Nat) : Int) + 149 + ((gapS : Nat) : Int)).toNat = us + gapS := by
      show (-149 + ((us : Nat) : Int) + 149 + ((925 : Nat) : Int)).toNat = us + 925
      omega
    have y2 : (-1074 + ((ud : Nat) : Int) + 149 + ((gapS : Nat) : Int)).toNat = ud := by
      show (-1074 + ((ud : Nat) : Int) + 149 + ((925 : Nat) : Int)).toNat = ud
      omega
    rw [y1, y2, b3, Nat.pow_add, ← Nat.mul_assoc, a3]
end Go.Proofs.YtekejddblgkcgaaDoor
