/- RatioSides: the middle of two floats against a ratio, plain. -/
import Derived.Test.YtmcnnnmlacpppaaDoorRs7
namespace Go.Proofs.YtmcnnnmlacpppaaDoor
open Go.RowKit

theorem bl_mul_le {a b : Nat} : bl (a * b) ≤ bl a + bl b := by
  refine bl_le_iff.2 ?_
  have h1 : a < 2 ^ bl a := bl_le_iff.1 (Nat.le_refl _)
  have h2 : b < 2 ^ bl b := bl_le_iff.1 (Nat.le_refl _)
  rw [Nat.pow_add]
  exact Nat.mul_lt_mul'' h1 h2
theorem bl_leQ {a b : Nat} (h : a ≤ b) : bl a ≤ bl b := bl_le_iff.2 (Nat.lt_of_le_of_lt h (bl_le_iff.1 (Nat.le_refl _)))
theorem bl_add_le {a b k : Nat} (ha : bl a ≤ k) (hb : bl b ≤ k) : bl (a + b) ≤ k + 1 := by
  refine bl_le_iff.2 ?_
  have h1 := bl_le_iff.1 ha
  have h2 := bl_le_iff.1 hb
  rw [Nat.pow_succ]
  omega
theorem nmA_some {s : Bool} {Z W : Nat} (hW : W ≠ 0) (h1 : bl Z ≤ 16384) (h2 : bl W ≤ 16384) : ∃ k N D e, nmA s Z W = (some (k, N, D), e) := by
  unfold nmA
  rw [if_neg hW]
  by_cases h0 : Z = 0
  · rw [if_pos h0]; exact ⟨_, _, _, _, rfl⟩
  · rw [if_neg h0]
    have a := bl_leQ (Nat.div_le_self Z (Nat.gcd Z W))
    have b := bl_leQ (Nat.div_le_self W (Nat.gcd Z W))
    rw [if_pos ⟨by unfold nl; omega, by unfold nl; omega⟩]
    exact ⟨_, _, _, _, rfl⟩
theorem smQ_le (n1 n2 : Bool) (x y : Nat) : (smQ n1 n2 x y).2 ≤ x + y := by
  unfold smQ
  (repeat' split) <;> simp <;> omega
theorem sum_some {x y : Nat} {s1 s2 : Bool} {N1 D1 N2 D2 : Nat} (h1 : FlQ x s1 N1 D1) (h2 : FlQ y s2 N2 D2) : ∃ k N D e, nmA (smQ s1 s2 (N1 * D2) (N2 * D1)).1 (smQ s1 s2 (N1 * D2) (N2 * D1)).2 (D1 * D2) = (some (k, N, D), e) := by
  have a := h1.bn
  have b := h1.bd
  have c := h2.bn
  have d := h2.bd
  have e1 := bl_mul_le (a := N1) (b := D2)
  have e2 := bl_mul_le (a := N2) (b := D1)
  have e3 := bl_mul_le (a := D1) (b := D2)
  have e4 := bl_add_le (a := N1 * D2) (b := N2 * D1) (k := 2200) (by omega) (by omega)
  have e5 := bl_leQ (smQ_le s1 s2 (N1 * D2) (N2 * D1))
  exact nmA_some (Nat.mul_ne_zero h1.R.d0 h2.R.d0) (by omega) (by omega)
theorem fl_pz {x : Nat} {s1 : Bool} {N1 D1 : Nat} (h1 : FlQ x s1 N1 D1) : pz s1 N1 * ((2 ^ eU : Nat) : Int) = pz (sgn x) (val (rung x)) * (D1 : Int) := by
  rw [← pz_mul, ← pz_mul, h1.v]
  by_cases h0 : rung x = 0
  · rw [h0, val_zero, Nat.zero_mul]
    cases s1 <;> cases sgn x <;> rfl
  · rw [h1.s h0]
theorem mid_cmp {n : Bool} {N D kd ku : Nat} {s1 s2 k3 k4 : Bool} {N1 D1 N2 D2 N3 D3 N4 D4 : Nat} {er3 er4 : Int} (R : RqB n N D) (hkd : kd ≤ 9218868437227405312) (hku : ku ≤ 9218868437227405312) (h1 : FlQ (wd n kd) s1 N1 D1) (h2 : FlQ (wd n ku) s2 N2 D2)
    (h3 : nmA (smQ s1 s2 (N1 * D2) (N2 * D1)).1 (smQ s1 s2 (N1 * D2) (N2 * D1)).2 (D1 * D2) = (some (k3, N3, D3), er3)) (h4 : nmA (smQ n n (N * D) (N * D)).1 (smQ n n (N * D) (N * D)).2 (D * D) = (some (k4, N4, D4), er4)) :
    cmR k4 k3 N4 D4 N3 D3 = sgI (pz n (2 * (N * 2 ^ eU)) - pz n ((val kd + val ku) * D)) := by
  have R3 := nmA_right h3
  have R4 := nmA_right h4
  have f1 := fl_pz h1
  have f2 := fl_pz h2
  have ht : 0 < 2 ^ eU := Nat.two_pow_pos _
  generalize 2 ^ eU = t at *
  rw [cmR_eq R4 R3]
  refine sg_scale (c := D * t) (d := D3 * D4) (Nat.mul_pos (Nat.pos_of_ne_zero R.d0) ht) (Nat.mul_pos (Nat.pos_of_ne_zero R3.d0) (Nat.pos_of_ne_zero R4.d0)) ?_
  have a3 := nmA_is (Nat.mul_ne_zero h1.R.d0 h2.R.d0) h3
  have a4 := nmA_is (Nat.mul_ne_zero R.d0 R.d0) h4
  rw [smQ_add] at a3 a4
  obtain ⟨u1, u2, _⟩ := wd_rung (n := n) hkd
  obtain ⟨v1, v2, _⟩ := wd_rung (n := n) hku
  rw [u1, u2] at f1
  rw [v1, v2] at f2
  have p1 : pz n (2 * (N * t)) = 2 * pz n N * (t : Int) := by
    unfold pz
    cases n
    · simp only [Bool.false_eq_true, if_false]; push_cast; grind
    · simp only [if_true]; push_cast; grind
  have p2 : pz n ((val kd + val ku) * D) = (pz n (val kd) + pz n (val ku)) * (D : Int) := by
    rw [pz_mul]
    congr 1
    unfold pz
    cases n <;> simp <;> omega
  rw [p1, p2]
  simp only [pz_mul] at a3 a4
  have d1 : (D1 : Int) ≠ 0 := by have := h1.R.d0; omega
  have d2 : (D2 : Int) ≠ 0 := by have := h2.R.d0; omega
  have dd : (D : Int) ≠ 0 := by have := R.d0; omega
  push_cast at a3 a4 ⊢
  generalize (t : Int) = t at *
  generalize pz n N = y at *
  generalize pz n (val kd) = vd at *
  generalize pz n (val ku) = vu at *
  generalize pz s1 N1 = m1 at *
  generalize pz s2 N2 = m2 at *
  generalize pz k3 N3 = m3 at *
  generalize pz k4 N4 = m4 at *
  generalize (D1 : Int) = E1 at *
  generalize (D2 : Int) = E2 at *
  generalize (D3 : Int) = E3 at *
  generalize (D4 : Int) = E4 at *
  generalize (D : Int) = E at *
  have g3 : m3 * t = (vd + vu) * E3 := by
    refine Int.eq_of_mul_eq_mul_right (Int.mul_ne_zero d1 d2) ?_
    grind
  have g4 : m4 * E = 2 * y * E4 := by
    refine Int.eq_of_mul_eq_mul_right dd ?_
    grind
  grind
end Go.Proofs.YtmcnnnmlacpppaaDoor
