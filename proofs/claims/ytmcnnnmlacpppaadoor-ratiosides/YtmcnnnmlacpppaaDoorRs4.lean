/- A float's ratio, held against another ratio: no program in this text. -/
import Derived.Test.YtmcnnnmlacpppaaDoorRs3
import Derived.Test.YtmcnnnmlacpppaaDoorRtn
import Derived.Test.YtmcnnnmlacpppaaDoorQ7
namespace Go.Proofs.YtmcnnnmlacpppaaDoor
open Go.RowKit

theorem sg_scale {x y : Int} {c d : Nat} (hc : 0 < c) (hd : 0 < d) (h : x * (c : Int) = y * (d : Int)) : sgI x = sgI y := by
  have c1 : (0 : Int) < (c : Int) := by omega
  have d1 : (0 : Int) < (d : Int) := by omega
  unfold sgI
  rcases Int.lt_trichotomy x 0 with a | a | a
  · have h1 := Int.mul_neg_of_neg_of_pos a c1
    rcases Int.lt_trichotomy y 0 with b | b | b
    · rw [if_pos a, if_pos b]
    · subst b; rw [Int.zero_mul] at h; omega
    · have := Int.mul_pos b d1; omega
  · subst a
    rw [Int.zero_mul] at h
    rcases Int.lt_trichotomy y 0 with b | b | b
    · have := Int.mul_neg_of_neg_of_pos b d1; omega
    · subst b; rfl
    · have := Int.mul_pos b d1; omega
  · have h1 := Int.mul_pos a c1
    rcases Int.lt_trichotomy y 0 with b | b | b
    · have := Int.mul_neg_of_neg_of_pos b d1; omega
    · subst b; rw [Int.zero_mul] at h; omega
    · rw [if_neg (by omega), if_neg (by omega), if_neg (by omega), if_neg (by omega)]
theorem of_noughtQ {a : Nat} (hf : finB a = true) (h0 : rung a = 0) : ofD a = (dy0, 0) := by
  unfold ofD
  rw [if_neg (by rw [hf]; decide), if_pos (by unfold spF; rw [if_pos h0])]
theorem of_someQ {a : Nat} (hf : finB a = true) (h0 : rung a ≠ 0) : ofD a = (⟨sgn a, [spF a], spE a⟩, 0) := by
  unfold ofD
  rw [if_neg (by rw [hf]; decide), if_neg (sp_bd hf h0).1]
/-- What is said of a float's ratio. -/
structure FlQ (a : Nat) (sa : Bool) (Na Da : Nat) : Prop where
  of : ofR a = (some (sa, Na, Da), 3)
  R : RqB sa Na Da
  v : Na * 2 ^ eU = val (rung a) * Da
  s : rung a ≠ 0 → sa = sgn a
  bn : bl Na ≤ 1100
  bd : bl Da ≤ 1100
theorem nl_pow_le {x : Nat} {k : Nat} (h : x < 2 ^ k) (hk : k ≤ 16384) : nl x ≤ 256 := by
  have := bl_le_iff.2 h
  unfold nl
  omega
theorem of_about {a : Nat} (hf : finB a = true) : ∃ sa Na Da, FlQ a sa Na Da := by
  by_cases h0 : rung a = 0
  · refine ⟨false, 0, 1, ?_, ⟨by decide, by decide, by decide, by decide, fun _ => rfl⟩, ?_, fun h => absurd h0 h, by decide, by decide⟩
    · have e : ofD a = (dy0, 0) := of_noughtQ hf h0
      have h1 : odA dy0 = (some (false, 0, 1), 3) := by kernel_rfl
      unfold ofR
      rw [e]
      simp only [if_true]
      exact h1
    · rw [h0, val_zero, Nat.zero_mul, Nat.zero_mul]
  · obtain ⟨p1, p2, p3⟩ := sp_parts h0
    obtain ⟨b1, b2, b3, b4, b5, b6⟩ := sp_bd hf h0
    have hr : rightB ⟨sgn a, [spF a], spE a⟩ = true := right_of (by simp) ⟨by simp, by simpa using p2, by simpa using b1, by simp only; omega, by simp only; omega⟩
    have hval : val (rung a) = spF a * 2 ^ (spE a + 1074).toNat := by
      rw [← mg_up, ← p1, Nat.mul_assoc, ← Nat.pow_add]
      congr 2
      omega
    have bn : bl (spF a * 2 ^ (spE a).toNat) ≤ 1100 := by
      have h := bl_le_iff.2 (show spF a * 2 ^ (spE a).toNat < 2 ^ (53 + (spE a).toNat) by rw [Nat.pow_add]; exact Nat.mul_lt_mul_of_pos_right (by omega) (Nat.two_pow_pos _))
      omega
    have bd : bl (2 ^ (-(spE a)).toNat) ≤ 1100 := by
      have h := bl_le_iff.2 (show 2 ^ (-(spE a)).toNat < 2 ^ ((-(spE a)).toNat + 1) by exact Nat.pow_lt_pow_right (by omega) (by omega))
      omega
    have n1 : nl (spF a * 2 ^ (spE a).toNat) ≤ 256 := by
      refine nl_pow_le (k := 53 + (spE a).toNat) ?_ (by omega)
      rw [Nat.pow_add]
      exact Nat.mul_lt_mul_of_pos_right (by omega) (Nat.two_pow_pos _)
    have n2 : nl (2 ^ (-(spE a)).toNat) ≤ 256 := by
      refine nl_pow_le (k := (-(spE a)).toNat + 1) ?_ (by omega)
      exact Nat.pow_lt_pow_right (by omega) (by omega)
    refine ⟨sgn a, spF a * 2 ^ (spE a).toNat, 2 ^ (-(spE a)).toNat, ?_, ⟨Nat.ne_of_gt (Nat.two_pow_pos _), ?_, n1, n2, ?_⟩, ?_, fun _ => rfl, bn, bd⟩
    · have e : ofD a = (⟨sgn a, [spF a], spE a⟩, 0) := of_someQ hf h0
      unfold ofR
      rw [e]
      have hv : vl [spF a] = spF a := by simp [vl]
      simp only [if_true]
      unfold odA
      simp only [hr, if_true, hv]
      rw [if_pos ⟨n1, n2⟩]
    · rcases Int.le_total 0 (spE a) with c | c
      · rw [show (-(spE a)).toNat = 0 by omega, Nat.pow_zero]; exact Nat.gcd_one_right _
      · rw [show (spE a).toNat = 0 by omega, Nat.pow_zero, Nat.mul_one]
        have : Nat.Coprime (spF a) 2 := by
          unfold Nat.Coprime
          rw [Nat.gcd_comm, Nat.gcd_rec, p2]
          rfl
        exact Nat.Coprime.pow_right _ this
    · intro h
      exact absurd (Nat.mul_eq_zero.1 h) (fun k => k.elim (fun k => b1 k) (fun k => Nat.ne_of_gt (Nat.two_pow_pos _) k))
    · rw [hval, Nat.mul_assoc, Nat.mul_assoc, ← Nat.pow_add, ← Nat.pow_add]
      congr 2
      have := eU_eq
      omega
/-- A float against a ratio: their values. -/
theorem cm_float {a : Nat} {sa n : Bool} {Na Da N D : Nat} (hQ : FlQ a sa Na Da) (R : RqB n N D) : cmR sa n Na Da N D = sgI (pz (sgn a) (val (rung a)) * (D : Int) - pz n (N * 2 ^ eU)) := by
  rw [cmR_eq hQ.R R]
  refine sg_scale (c := 2 ^ eU) (d := Da) (Nat.two_pow_pos _) (Nat.pos_of_ne_zero hQ.R.d0) ?_
  have hv : pz sa Na * ((2 ^ eU : Nat) : Int) = pz (sgn a) (val (rung a)) * (Da : Int) := by
    rw [← pz_mul, ← pz_mul, hQ.v]
    by_cases h0 : rung a = 0
    · rw [h0, val_zero, Nat.zero_mul]
      cases sa <;> cases sgn a <;> rfl
    · rw [hQ.s h0]
  rw [pz_mul, Int.sub_mul, Int.sub_mul]
  have e1 : pz sa Na * (D : Int) * ((2 ^ eU : Nat) : Int) = pz sa Na * ((2 ^ eU : Nat) : Int) * (D : Int) := by
    rw [Int.mul_assoc, Int.mul_comm (D : Int), ← Int.mul_assoc]
  rw [e1, hv]
  generalize ((2 ^ eU : Nat) : Int) = t
  generalize pz (sgn a) (val (rung a)) = x
  generalize pz n N = y
  generalize (D : Int) = d
  generalize (Da : Int) = e
  grind
end Go.Proofs.YtmcnnnmlacpppaaDoor
