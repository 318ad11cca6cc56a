/- What the document's odd makes of a float, and that it does not change what it is rounded to, where it is no middle; that sums, quotients and roots of narrow floats which are told as middles are exact, and that nothing is then left. In plain numbers, no program. -/
import Derived.Test.YtekejddblgkcgaaDoorTo7
import Derived.Test.YtekejddblgkcgaaDoorVt
namespace Go.Proofs.YtekejddblgkcgaaDoor
open Go.RowKit

theorem mid_big {k : Nat} (h : Mid2 k) : ∃ M e, M < 33554432 ∧ val k = M * 2 ^ e ∧ 4503599627370496 ≤ mg k ∧ k ≠ 0 := by
  obtain ⟨r, hr⟩ := h
  obtain ⟨M, e, h1, h2, h3, h4⟩ := md2_form r
  rw [h4] at hr
  obtain ⟨j, rfl⟩ : ∃ j, e = j + 1 := ⟨e - 1, by omega⟩
  have hv : val k = M * 2 ^ j := by
    rw [Nat.pow_succ, ← Nat.mul_assoc, Nat.mul_comm] at hr
    omega
  refine ⟨M, j, h1, hv, ?_, ?_⟩
  · rcases mg_up_ok k with hu | hu
    · exfalso
      have hm := mg_lt k
      have hv2 := mg_up k
      rw [hu, Nat.pow_zero, Nat.mul_one] at hv2
      have h5 : (2 : Nat) ^ 60 ≤ 2 ^ j := Nat.pow_le_pow_right (by omega) (by omega)
      have h6 : 1 * 2 ^ j ≤ M * 2 ^ j := Nat.mul_le_mul_right _ (by omega)
      have h7 : (2 : Nat) ^ 60 = 1152921504606846976 := by decide
      omega
    · exact hu
  · intro hk
    rw [hk, val_zero] at hv
    have := Nat.mul_pos (Nat.pos_of_ne_zero h2) (Nat.two_pow_pos j)
    omega
theorem wd_form (r : Nat) : val (wd r) = S.mg r * 2 ^ (S.up r + gapS) := by
  rw [wd_val, ← S.mg_up, Nat.mul_assoc, ← Nat.pow_add]
/-- A quotient of narrow floats that is told as a middle. -/
theorem quo_exact {ra rb x y v E : Nat} (hE : E = 1074) (fx : Fin' x) (fy : Fin' y) (ex : rung x = wd ra) (ey : rung y = wd rb) (x0 : rung x ≠ 0) (y0 : rung y ≠ 0) (h : floatBits .quo .f64 x y = some v) (fv : rung v < 9218868437227405312) (hm : Mid2 (rung v)) : val (rung x) * 2 ^ E = val (rung v) * val (rung y) := by
  obtain ⟨M, e, h1, h2, h3, _⟩ := mid_big hm
  obtain ⟨g1, g2⟩ := quo_weak hE fx fy x0 y0 h fv h3
  have hX : val (rung x) * 2 ^ E = S.mg ra * 2 ^ (S.up ra + gapS + E) := by rw [ex, wd_form, Nat.mul_assoc, ← Nat.pow_add]
  have hY : val (rung v) * val (rung y) = (M * S.mg rb) * 2 ^ (e + (S.up rb + gapS)) := by
    rw [h2, ey, wd_form, Nat.pow_add 2 e]
    generalize 2 ^ e = A
    generalize 2 ^ (S.up rb + gapS) = B
    ac_rfl
  rw [hX, hY] at g1 g2 ⊢
  have hb := s_mg_lt rb
  refine near_units (s_mg_lt ra) ?_ g1 g2
  have : M * S.mg rb ≤ 33554432 * 16777216 := Nat.mul_le_mul (by omega) (by omega)
  omega
/-- A root of a narrow float that is told as a middle. -/
theorem root_exact {ra x v E : Nat} (hE : E = 1074) (fx : Fin' x) (ex : rung x = wd ra) (x0 : rung x ≠ 0) (sx : sgn x = false) (h : FloatKind.f64.format.sqrt x = some v) (fv : rung v < 9218868437227405312) (hm : Mid2 (rung v)) : val (rung x) * 2 ^ E = val (rung v) * val (rung v) := by
  obtain ⟨M, e, h1, h2, h3, _⟩ := mid_big hm
  obtain ⟨g1, g2⟩ := root_weak hE fx x0 sx h fv h3
  have hX : val (rung x) * 2 ^ E = S.mg ra * 2 ^ (S.up ra + gapS + E) := by rw [ex, wd_form, Nat.mul_assoc, ← Nat.pow_add]
  have hY : val (rung v) * val (rung v) = (M * M) * 2 ^ (e + e) := by
    rw [h2, Nat.pow_add 2 e]
    generalize 2 ^ e = A
    ac_rfl
  rw [hX, hY] at g1 g2 ⊢
  refine near_units (s_mg_lt ra) ?_ g1 g2
  have : M * M ≤ 33554431 * 33554431 := Nat.mul_le_mul (by omega) (by omega)
  omega
theorem vZ_sgv (x : Nat) : vZ x = sgv (sgn x) (val (rung x)) := rfl
/-- A sum of narrow floats that is told as a middle, or as 0. -/
theorem sum_exact {ra rb x y v : Nat} (fx : Fin' x) (fy : Fin' y) (ex : rung x = wd ra) (ey : rung y = wd rb) (h : floatBits .add .f64 x y = some v) (fv : rung v < 9218868437227405312) (hm : Mid2 (rung v) ∨ rung v = 0) : vZ v = vZ x + vZ y := by
  have key : ∀ k, k < 9218868437227405312 → (vZ x + vZ y).natAbs = val k → vZ v = vZ x + vZ y := fun k hk hv => by
    obtain ⟨r, h1, _, h3⟩ := add_ex fx fy hk hv
    rw [h] at h1
    cases h1
    exact h3
  by_cases hz : vZ x + vZ y = 0
  · exact key 0 (by omega) (by rw [hz, val_zero]; rfl)
  · rw [(fbits_map x y).1, read_f fx, read_f fy] at h
    obtain ⟨b, hb⟩ : ∃ b, min (up (rung x)) (up (rung y)) = b := ⟨_, rfl⟩
    have hmin : min (-1074 + (up (rung x) : Int)) (-1074 + (up (rung y) : Int)) = -1074 + (b : Int) := by omega
    have s1 := signed_vZ x b (by omega)
    have s2 := signed_vZ y b (by omega)
    have e1 : (-1074 + (up (rung x) : Int) - (-1074 + (b : Int))).toNat = up (rung x) - b := by omega
    have e2 : (-1074 + (up (rung y) : Int) - (-1074 + (b : Int))).toNat = up (rung y) - b := by omega
    simp only [Ieee.Datum.sum, hmin, e1, e2, Option.map_some, Ieee.Format.write, Option.some.injEq] at h
    obtain ⟨T, hT⟩ : ∃ T, Ieee.signed (sgn x) (mg (rung x)) (up (rung x) - b) + Ieee.signed (sgn y) (mg (rung y)) (up (rung y) - b) = T := ⟨_, rfl⟩
    have hs : T * 2 ^ b = vZ x + vZ y := by rw [← hT, Int.add_mul, s1, s2]
    rw [hT] at h
    have hA : T.natAbs * 2 ^ b = (vZ x + vZ y).natAbs := by
      rw [← hs, Int.natAbs_mul, Int.natAbs_pow]; rfl
    have hT0 : T.natAbs ≠ 0 := by
      intro e
      rw [e, Nat.zero_mul] at hA
      omega
    obtain ⟨k, n1, kl, c⟩ := near_anyD (if T = 0 then (sgn x && sgn y) else decide (T < 0)) (-1074 + (b : Int)) 0 hT0 (by omega)
    rw [n1] at h
    have hk : rung v = k := by rw [← h]; exact word_k _ kl
    rw [hk] at fv hm
    rw [show (-1074 + (b : Int) + 1074 + ((0 : Nat) : Int)).toNat = b by omega, hA] at c
    have hsc : vZ x + vZ y = (sgv (sgn x) (S.val ra) + sgv (sgn y) (S.val rb)) * ((2 ^ gapS : Nat) : Int) := by
      rw [sgv_scale, vZ_sgv, vZ_sgv, ex, ey, wd_val, wd_val]
    obtain ⟨T', hT'⟩ : ∃ T', (sgv (sgn x) (S.val ra) + sgv (sgn y) (S.val rb)).natAbs = T' := ⟨_, rfl⟩
    have h3 := sgv_abs (sgn x) (sgn y) (S.val ra) (S.val rb)
    rw [hT'] at h3
    have hab : (vZ x + vZ y).natAbs = T' * 2 ^ gapS := by rw [hsc, Int.natAbs_mul, hT', Int.natAbs_natCast]
    rw [hab] at c
    rcases hm with ⟨r, hr⟩ | hr
    · have := add_mid h3 c fv hr.symm
      refine key k fv ?_
      rw [hab]
      unfold md2 at hr
      rw [this, Nat.mul_assoc] at hr
      omega
    · exfalso
      have hne : T' * 2 ^ gapS ≠ 0 := by rw [← hab]; omega
      have := (c 0 (by omega)).2 (Or.inl (by
        rw [Nat.pow_zero, Nat.mul_one, val_zero, show val (0 + 1) = 1 from rfl]
        omega))
      omega
/-- A difference that is a float. -/
theorem sub_ex {x y k : Nat} (hx : Fin' x) (hy : Fin' y) (hk : k < 9218868437227405312) (h : (vZ x - vZ y).natAbs = val k) : ∃ r, floatBits .sub .f64 x y = some r ∧ Fin' r ∧ vZ r = vZ x - vZ y := by
  obtain ⟨w1, w2⟩ := vZ_word (!sgn y) hy.2
  have hv : vZ (Ieee.double.word (!sgn y) (rung y)) = - vZ y := by
    rw [w2]; unfold vZ; cases sgn y <;> simp
  obtain ⟨r, h1, h2, h3⟩ := add_ex hx w1 hk (by rw [hv, ← Int.sub_eq_add_neg]; exact h)
  refine ⟨r, ?_, h2, by rw [h3, hv, Int.sub_eq_add_neg]⟩
  rw [← h1, (fbits_map x y).2.1, (fbits_map x _).1, read_f hy, read_f w1, word_k _ (Nat.le_of_lt hy.2)]
  obtain ⟨_, _, hs⟩ := word_eqZ (!sgn y) (show rung y < 9223372036854775808 by have := hy.2; omega)
  rw [hs]
  rfl
/-- Where a sum is exact nothing is left: the document's steps. -/
theorem left_none {x y v : Nat} (fx : Fin' x) (fy : Fin' y) (fv : Fin' v) (h : vZ v = vZ x + vZ y) :
    ∃ t k p q r, floatBits .sub .f64 v x = some t ∧ floatBits .sub .f64 v t = some k ∧ floatBits .sub .f64 x k = some p ∧ floatBits .sub .f64 y t = some q ∧ floatBits .add .f64 p q = some r ∧ Fin' r ∧ vZ r = 0 := by
  obtain ⟨t, t1, t2, t3⟩ := sub_ex fv fx fy.2 (show (vZ v - vZ x).natAbs = val (rung y) by rw [h, ← vZ_abs y]; congr 1; omega)
  have t4 : vZ t = vZ y := by omega
  obtain ⟨k, k1, k2, k3⟩ := sub_ex fv t2 fx.2 (show (vZ v - vZ t).natAbs = val (rung x) by rw [h, t4, ← vZ_abs x]; congr 1; omega)
  have k4 : vZ k = vZ x := by omega
  obtain ⟨p, p1, p2, p3⟩ := sub_ex (k := 0) fx k2 (by omega) (by rw [k4, val_zero]; omega)
  obtain ⟨q, q1, q2, q3⟩ := sub_ex (k := 0) fy t2 (by omega) (by rw [t4, val_zero]; omega)
  obtain ⟨r, r1, r2, r3⟩ := add_ex (k := 0) p2 q2 (by omega) (by rw [val_zero]; omega)
  exact ⟨t, k, p, q, r, t1, k1, p1, q1, r1, r2, by omega⟩
theorem zero_place {r : Nat} (h : vZ r = 0) : rung r = 0 := by
  have := vZ_abs r
  rw [h] at this
  exact val_inj (by rw [val_zero]; exact this.symm)
/-- A product and a sum at once: some float; 0 where the exact one is. -/
theorem fma_some {x y z E : Nat} (hE : E = 1074) (fx : Fin' x) (fy : Fin' y) (fz : Fin' z) : ∃ f, FloatKind.f64.format.fma x y z = some f ∧ f < 18446744073709551616 ∧ (vZ x * vZ y + vZ z * 2 ^ E = 0 → rung f = 0) := by
  show ∃ f, (((Ieee.double.read x).product (Ieee.double.read y)).bind (·.sum (Ieee.double.read z))).map Ieee.double.write = some f ∧ _
  rw [read_f fx, read_f fy, read_f fz]
  simp only [Ieee.Datum.product, Option.bind_some, Ieee.Datum.sum, Option.map_some]
  obtain ⟨b, hb⟩ : ∃ b, min (-1074 + (up (rung x) : Int) + (-1074 + (up (rung y) : Int))) (-1074 + (up (rung z) : Int)) = b := ⟨_, rfl⟩
  rw [hb]
  obtain ⟨T, hT⟩ : ∃ T, Ieee.signed (sgn x ^^ sgn y) (mg (rung x) * mg (rung y)) (-1074 + (up (rung x) : Int) + (-1074 + (up (rung y) : Int)) - b).toNat + Ieee.signed (sgn z) (mg (rung z)) (-1074 + (up (rung z) : Int) - b).toNat = T := ⟨_, rfl⟩
  rw [hT]
  refine ⟨_, rfl, ?_⟩
  show Ieee.double.nearest _ _ _ < _ ∧ (_ → rung (Ieee.double.nearest _ _ _) = 0)
  constructor
  · by_cases h0 : T.natAbs = 0
    · rw [h0]
      unfold Ieee.Format.nearest
      rw [if_pos rfl]
      exact (word_eqZ _ (by omega)).1
    · obtain ⟨K, hK⟩ : ∃ K : Nat, 0 ≤ b + 1074 + (K : Int) := ⟨(-(b + 1074)).toNat, by omega⟩
      obtain ⟨k, e, kl, _⟩ := near_anyD (if T = 0 then ((sgn x ^^ sgn y) && sgn z) else decide (T < 0)) b K h0 hK
      rw [e]
      exact (word_eqZ _ (by omega)).1
  · intro hz
    have h0 : T = 0 := by
      obtain ⟨c, hc⟩ : ∃ c : Nat, b + 2148 = (c : Int) := ⟨(b + 2148).toNat, by omega⟩
      obtain ⟨i, hi⟩ : ∃ i : Nat, (-1074 + (up (rung x) : Int) + (-1074 + (up (rung y) : Int)) - b).toNat = i := ⟨_, rfl⟩
      obtain ⟨j, hj⟩ : ∃ j : Nat, (-1074 + (up (rung z) : Int) - b).toNat = j := ⟨_, rfl⟩
      rw [hi, hj] at hT
      have e1 : i + c = up (rung x) + up (rung y) := by omega
      have e2 : j + c = up (rung z) + E := by omega
      have n1 : mg (rung x) * mg (rung y) * 2 ^ i * 2 ^ c = val (rung x) * val (rung y) := by
        rw [Nat.mul_assoc, ← Nat.pow_add, e1, Nat.pow_add, ← mg_up (rung x), ← mg_up (rung y)]
        generalize 2 ^ up (rung x) = A
        generalize 2 ^ up (rung y) = B
        ac_rfl
      have n2 : mg (rung z) * 2 ^ j * 2 ^ c = val (rung z) * 2 ^ E := by
        rw [Nat.mul_assoc, ← Nat.pow_add, e2, Nat.pow_add, ← mg_up (rung z), Nat.mul_assoc]
      have m1 : Ieee.signed (sgn x ^^ sgn y) (mg (rung x) * mg (rung y)) i * ((2 ^ c : Nat) : Int) = vZ x * vZ y := by
        have n1' : ((mg (rung x) * mg (rung y) * 2 ^ i : Nat) : Int) * ((2 ^ c : Nat) : Int) = (val (rung x) : Int) * (val (rung y) : Int) := by rw [← Int.natCast_mul, n1, Int.natCast_mul]
        unfold Ieee.signed vZ
        rw [Nat.shiftLeft_eq]
        cases sgn x <;> cases sgn y <;> simp only [Bool.xor_false, Bool.xor_true, Bool.not_false, Bool.not_true, Bool.false_eq_true, if_false, if_true, Int.neg_mul, Int.mul_neg, Int.neg_neg] <;> rw [n1']
      have m2 : Ieee.signed (sgn z) (mg (rung z)) j * ((2 ^ c : Nat) : Int) = vZ z * 2 ^ E := by
        have n2' : ((mg (rung z) * 2 ^ j : Nat) : Int) * ((2 ^ c : Nat) : Int) = (val (rung z) : Int) * 2 ^ E := by rw [← Int.natCast_mul, n2]; push_cast; rfl
        unfold Ieee.signed vZ
        rw [Nat.shiftLeft_eq]
        cases sgn z <;> simp only [Bool.false_eq_true, if_false, if_true, Int.neg_mul] <;> rw [n2']
      have hs : T * ((2 ^ c : Nat) : Int) = 0 := by rw [← hT, Int.add_mul, m1, m2, hz]
      rcases Int.mul_eq_zero.1 hs with g | g
      · exact g
      · have := Nat.two_pow_pos c
        omega
    rw [h0]
    unfold Ieee.Format.nearest
    rw [if_pos rfl]
    exact word_k _ (by omega)
end Go.Proofs.YtekejddblgkcgaaDoor
