/- Join undoes Split and Split undoes Join; doubling and halving walk from a float's fraction to its size. -/
import Derived.Test.YtekejddblgkcgaaDoorFz
import Derived.Test.YtekejddblgkcgaaDoorZr
namespace Go.Proofs.YtekejddblgkcgaaDoor
open Go.RowKit

theorem val_jR {f : Nat} {e : Int} (h0 : f ≠ 0) (h : f < 9007199254740992) (h1 : -1074 ≤ e) : val (jR f e) = f * 2 ^ (e + 1074).toNat ∧ mg (jR f e) = jM f e ∧ up (jR f e) = jU f e ∧ jR f e ≠ 0 := by
  obtain ⟨j1, j2, j3⟩ := jM_ok h0 h h1
  obtain ⟨m1, m2⟩ := mg_of j1 j3
  have e1 : mg (jR f e) = jM f e := m1
  have e2 : up (jR f e) = jU f e := m2
  have hl := log2_lt53 h0 h
  refine ⟨?_, e1, e2, by unfold jR; omega⟩
  rw [← mg_up, e1, e2]
  unfold jM jU
  by_cases hc : -1022 ≤ e + f.log2
  · rw [if_pos hc, if_pos hc, Nat.mul_assoc, ← Nat.pow_add, show 52 - f.log2 + (e + f.log2 + 1022).toNat = (e + 1074).toNat by omega]
  · rw [if_neg hc, if_neg hc, Nat.pow_zero, Nat.mul_one]
theorem jU_step {f : Nat} {e : Int} : jU f e ≤ jU f (e + 1) ∧ jU f (e + 1) ≤ jU f e + 1 := by unfold jU; (repeat' split) <;> omega
theorem val_jR_step {f : Nat} {e : Int} (h0 : f ≠ 0) (h : f < 9007199254740992) (h1 : -1074 ≤ e) : val (jR f (e + 1)) = 2 * val (jR f e) := by
  rw [(val_jR h0 h h1).1, (val_jR h0 h (show -1074 ≤ e + 1 by omega)).1, show (e + 1 + 1074).toNat = (e + 1074).toNat + 1 by omega, Nat.pow_succ]
  ac_rfl
theorem jR_mono {f : Nat} {e k : Int} (h0 : f ≠ 0) (h : f < 9007199254740992) (h1 : -1074 ≤ e) (hk : e ≤ k) : jR f e ≤ jR f k := by
  have a1 := (val_jR h0 h h1).1
  have a2 := (val_jR h0 h (show -1074 ≤ k by omega)).1
  have hp : 2 ^ (e + 1074).toNat ≤ 2 ^ (k + 1074).toNat := Nat.pow_le_pow_right (by omega) (by omega)
  have hle : val (jR f e) ≤ val (jR f k) := by rw [a1, a2]; exact Nat.mul_le_mul_left _ hp
  have hi := val_lt_iff (jR f k) (jR f e)
  exact Nat.le_of_not_lt fun hlt => by have := hi.2 hlt; omega
theorem jR_zero {f : Nat} (h0 : f ≠ 0) (h : f < 9007199254740992) : jR f 0 = fwd f ∧ fwd f < 9218868437227405312 := by
  have hl := log2_lt53 h0 h
  refine ⟨?_, (fwd_ok h0 h).1⟩
  unfold jR jU jM fwd
  rw [if_pos (by omega), if_pos (by omega), show ((0 : Int) + f.log2 + 1022).toNat = 1022 + f.log2 by omega]

theorem dbl_step {f : Nat} {k : Int} (h0 : f ≠ 0) (h : f < 9007199254740992) (h1 : -1074 ≤ k) (h2 : jR f (k + 1) < 9218868437227405312) : floatBits .mul .f64 (jR f k) 4611686018427387904 = some (jR f (k + 1)) := by
  have hm := jR_mono h0 h h1 (show k ≤ k + 1 by omega)
  have a := val_jR h0 h h1
  have b := val_jR h0 h (show -1074 ≤ k + 1 by omega)
  have g := double_exact false (r := jR f k) (q := jR f (k + 1)) (by omega) h2 b.2.2.2 (by rw [a.2.2.1, b.2.2.1]; exact jU_step.1) (val_jR_step h0 h h1)
  rw [word_pos, word_pos] at g
  exact g
theorem hlf_step {f : Nat} {k : Int} (h0 : f ≠ 0) (h : f < 9007199254740992) (h1 : -1074 ≤ k) (h2 : k < 0) : floatBits .quo .f64 (jR f (k + 1)) 4611686018427387904 = some (jR f k) := by
  have hz := jR_zero h0 h
  have hm1 := jR_mono h0 h (show -1074 ≤ k + 1 by omega) (show k + 1 ≤ 0 by omega)
  have hm2 := jR_mono h0 h h1 (show k ≤ k + 1 by omega)
  have a := val_jR h0 h h1
  have b := val_jR h0 h (show -1074 ≤ k + 1 by omega)
  have g := half_exact false (r := jR f (k + 1)) (q := jR f k) (by omega) (by omega) b.2.2.2 a.2.2.2 (by rw [a.2.2.1, b.2.2.1]; exact jU_step.1) (by rw [a.2.2.1, b.2.2.1]; exact jU_step.2) (val_jR_step h0 h h1)
  rw [word_pos, word_pos] at g
  exact g

/-- The parts of a finite float that is not nought. -/
theorem sp_ok {a : Nat} (hf : finB a = true) (h0 : rung a ≠ 0) : spF a % 2 = 1 ∧ spF a < 9007199254740992 ∧ -1074 ≤ spE a ∧ spE a ≤ 1023 ∧ jR (spF a) (spE a) = rung a := by
  have hlt := mg_lt (rung a)
  have hne := mg_ne h0
  have hr : rung a < 9218868437227405312 := by unfold finB at hf; simpa using hf
  have hu : up (rung a) < 2046 := by unfold up; split <;> omega
  obtain ⟨m, hm, hz⟩ := Lib.ctzFrom_spec 64 (mg (rung a)) (by omega) (by omega)
  have e : spZ a = Lib.ctzFrom 64 (mg (rung a)) := by unfold spZ Lib.ctz; rw [if_neg hne]
  rw [← e] at hm
  have hF : spF a = 2 * m + 1 := by
    unfold spF; rw [if_neg h0]
    rw [Nat.div_eq_of_eq_mul_right (Nat.two_pow_pos _) hm]
  have hmul : spF a * 2 ^ spZ a = mg (rung a) := by rw [hF, hm, Nat.mul_comm]
  have hE : spE a = (up (rung a) : Int) - 1074 + spZ a := by unfold spE; rw [if_neg h0]
  have hb := half_bd hmul h0
  have hF0 : spF a ≠ 0 := by omega
  have hj := join_end (f := spF a) (k := spZ a) (e := spE a) hF0 (by rw [hmul]; exact hlt) (by rw [hE]; omega) (by rw [hmul, hE]; have := mg_up_ok (rung a); omega)
  have hrm := rung_mg (rung a)
  refine ⟨by omega, by omega, by omega, ?_, ?_⟩
  · have h3 : 2 ^ spZ a ≤ mg (rung a) := by rw [← hmul]; exact Nat.le_mul_of_pos_left _ (by omega)
    have h5 : spZ a < 53 := hb.2.2
    omega
  · unfold jR
    rw [hj.1, hmul]
    have := hj.2
    omega
theorem join_split {a : Nat} (ha : a < 18446744073709551616) (hf : finB a = true) : okP (spF a) (spE a) = true ∧ joinF (sgn a) (spF a) (spE a) = a := by
  have hr : rung a < 9218868437227405312 := by unfold finB at hf; simpa using hf
  have hw := rung_of a ha
  by_cases h0 : rung a = 0
  · have e1 : spF a = 0 := by unfold spF; rw [if_pos h0]
    have e2 : spE a = 0 := by unfold spE; rw [if_pos h0]
    rw [e1, e2]
    refine ⟨by decide, ?_⟩
    cases hs : sgn a
    · rw [hs, h0] at hw; simp only [Bool.false_eq_true, if_false] at hw; rw [hw]; decide
    · rw [hs, h0] at hw; simp only [if_true] at hw; rw [hw]; decide
  · obtain ⟨s1, s2, s3, s4, s5⟩ := sp_ok hf h0
    have hF0 : spF a ≠ 0 := by omega
    have hk : okP (spF a) (spE a) = true := by unfold okP; rw [if_neg hF0, s5]; simp; omega
    refine ⟨hk, ?_⟩
    have hv : valR (spF a) (spE a) = rung a := by unfold valR; rw [if_neg hF0, hk]; exact s5
    unfold joinF; rw [hk, hv]
    simp only [if_true]
    exact hw.symm
theorem split_join {n : Bool} {f : Nat} {e : Int} (hk : okP f e = true) : finB (joinF n f e) = true ∧ sgn (joinF n f e) = n ∧ spF (joinF n f e) = f ∧ spE (joinF n f e) = e := by
  have hv := valR_lt f e
  have hj : joinF n f e = Ieee.double.word n (valR f e) := by
    unfold joinF; rw [hk]; cases n
    · rfl
    · rw [word_neg]; rfl
  obtain ⟨r1, r2⟩ := word_rung n (r := valR f e) (by omega)
  rw [hj]
  refine ⟨by unfold finB; rw [r1]; simpa using hv, r2, ?_⟩
  by_cases h0 : f = 0
  · have he : e = 0 := by unfold okP at hk; rw [if_pos h0] at hk; simpa using hk
    have hz : valR f e = 0 := by unfold valR; rw [if_pos h0]
    rw [hz] at r1 ⊢
    unfold spF spE
    rw [r1, if_pos rfl, if_pos rfl]
    exact ⟨h0.symm, he.symm⟩
  · have hp : f % 2 = 1 ∧ f < 9007199254740992 ∧ -1074 ≤ e ∧ e ≤ 1023 ∧ jR f e < 9218868437227405312 := by unfold okP at hk; rw [if_neg h0] at hk; simpa using hk
    have hvj : valR f e = jR f e := by unfold valR; rw [if_neg h0, hk]; rfl
    obtain ⟨v1, v2, v3, v4⟩ := val_jR (e := e) h0 hp.2.1 hp.2.2.1
    have hl := log2_lt53 h0 hp.2.1
    rw [hvj] at r1 ⊢
    have hne : rung (Ieee.double.word n (jR f e)) ≠ 0 := by rw [r1]; exact v4
    obtain ⟨k, hk1, hk2⟩ : ∃ k : Nat, f * 2 ^ k = jM f e ∧ (jU f e : Int) - 1074 + k = e := by
      unfold jM jU
      by_cases hc : -1022 ≤ e + f.log2
      · exact ⟨52 - f.log2, by rw [if_pos hc], by rw [if_pos hc]; omega⟩
      · exact ⟨(e + 1074).toNat, by rw [if_neg hc], by rw [if_neg hc]; omega⟩
    obtain ⟨z1, z2⟩ := split_end (a := Ieee.double.word n (jR f e)) (m := f) (k := k) hne hp.1 (by rw [r1, v2]; exact hk1)
    refine ⟨z2, ?_⟩
    unfold spE
    rw [if_neg hne, z1, r1, v3]
    exact hk2
end Go.Proofs.YtekejddblgkcgaaDoor
