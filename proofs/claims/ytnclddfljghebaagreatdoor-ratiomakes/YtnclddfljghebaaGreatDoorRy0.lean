/- What a dyad, a float are as ratios: least forms: no program in this text. -/
import Derived.Test.YtnclddfljghebaaGreatDoorRx2
import Derived.Test.YtnclddfljghebaaGreatDoorRu0
namespace Go.Proofs.YtnclddfljghebaaGreatDoor
open Go.RowKit

theorem lo_pow_len7 {N s a b : Nat} (h : (lo N).length ≤ a) (hs : s ≤ 64 * b) : (lo (N * 2 ^ s)).length ≤ a + b := by
  rw [lo_length] at h ⊢
  refine nl_le ?_
  have h1 := nl_fits N
  have h2 : N * 2 ^ s < 2 ^ (64 * nl N) * 2 ^ s := Nat.mul_lt_mul_of_pos_right h1 (Nat.two_pow_pos s)
  rw [← Nat.pow_add] at h2
  exact Nat.lt_of_lt_of_le h2 (Nat.pow_le_pow_right (by omega) (by omega))
theorem gcd_pow2 {V k : Nat} (h : V % 2 = 1) : Nat.gcd V (2 ^ k) = 1 := by
  have h2 : Nat.gcd V 2 = 1 := by
    have a := Nat.gcd_dvd_right V 2
    have b := Nat.gcd_dvd_left V 2
    have c := Nat.le_of_dvd (by omega) a
    have d : Nat.gcd V 2 ≠ 0 := fun e => by rw [e] at a; have := Nat.eq_zero_of_zero_dvd a; omega
    have e : Nat.gcd V 2 ≠ 2 := fun e => by rw [e] at b; omega
    omega
  exact Nat.Coprime.pow_right k h2
theorem nm_pow {n : Bool} {V : Nat} {e : Int} (h : V % 2 = 1) : toT (nmA n (V * 2 ^ e.toNat) (2 ^ (-e).toNat)) = toT (if nl (V * 2 ^ e.toNat) ≤ 256 ∧ nl (2 ^ (-e).toNat) ≤ 256 then some (n, V * 2 ^ e.toNat, 2 ^ (-e).toNat) else none, 3) := by
  have hD : (2 : Nat) ^ (-e).toNat ≠ 0 := Nat.ne_of_gt (Nat.two_pow_pos _)
  have hN : V * 2 ^ e.toNat ≠ 0 := Nat.mul_ne_zero (by omega) (Nat.ne_of_gt (Nat.two_pow_pos _))
  have hg : Nat.gcd (V * 2 ^ e.toNat) (2 ^ (-e).toNat) = 1 := by
    rcases Int.le_total 0 e with c | c
    · rw [show (-e).toNat = 0 by omega, Nat.pow_zero, Nat.gcd_one_right]
    · rw [show e.toNat = 0 by omega, Nat.pow_zero, Nat.mul_one]
      exact gcd_pow2 h
  unfold nmA
  rw [if_neg hD, if_neg hN, hg, Nat.div_one, Nat.div_one]
  split <;> rfl
theorem od_like {d : Dy} (hL : Lm d.mag) (hr : rightB d = true) : toT (nmA d.neg (vl d.mag * 2 ^ d.exp.toNat) (2 ^ (-d.exp).toNat)) = toT (odA d) := by
  unfold odA
  rw [if_pos hr]
  by_cases h0 : d.mag.length = 0
  · unfold rightB at hr
    rw [if_pos h0] at hr
    simp only [Bool.and_eq_true, Bool.not_eq_true', decide_eq_true_eq] at hr
    obtain ⟨h1, h2⟩ := hr
    have hv : vl d.mag = 0 := by rw [List.eq_nil_of_length_eq_zero h0]; rfl
    rw [h1, h2, hv]
    rfl
  · have hr2 := hr
    unfold rightB at hr2
    rw [if_neg h0, decide_eq_true_eq] at hr2
    exact nm_pow (by rw [vl_odd hL h0]; exact hr2.2.1)
theorem of_like {x : Nat} (hf : finB x = true) : toT (nmA (sgn x) (spF x * 2 ^ (spE x).toNat) (2 ^ (-(spE x)).toNat)) = toT (ofR x) := by
  have h5 : ¬ (finB x = false) := by rw [hf]; decide
  by_cases h0 : rung x = 0
  · have e1 : spF x = 0 := by unfold spF; rw [if_pos h0]
    have e2 : spE x = 0 := by unfold spE; rw [if_pos h0]
    have e3 : ofD x = (dy0, 0) := by unfold ofD; rw [if_neg h5, if_pos e1]
    unfold ofR
    rw [e3, e1, e2]
    simp only [if_true]
    cases sgn x <;> rfl
  · obtain ⟨p1, p2, p3⟩ := sp_parts h0
    obtain ⟨b1, b2, b3, b4, b5, b6⟩ := sp_bd hf h0
    have e3 : ofD x = (⟨sgn x, [spF x], spE x⟩, 0) := by unfold ofD; rw [if_neg h5, if_neg b1]
    have hr : rightB ⟨sgn x, [spF x], spE x⟩ = true := right_of (by simp) ⟨by simp, by simpa using p2, by simpa using b1, by simp only; omega, by simp only; omega⟩
    have := od_like (d := ⟨sgn x, [spF x], spE x⟩) (one_lm (by omega)) hr
    simp only [one_vl] at this
    unfold ofR
    rw [e3]
    simp only [if_true]
    exact this
theorem of_bad {x : Nat} (hf : finB x = false) : ofR x = (none, 5) := by
  have e3 : ofD x = (dy0, 5) := by unfold ofD; rw [if_pos hf]
  unfold ofR
  rw [e3]
  rfl
end Go.Proofs.YtnclddfljghebaaGreatDoor
