/- Rounding a dyad's size to a float, as a plain function on words; a float's own dyad is rounded to it; no program in this text. -/
import Derived.Test.YtomohmjjaijlbaaGreatDoorZa
import Derived.Test.YtomohmjjaijlbaaGreatDoorZg
namespace Go.Proofs.YtomohmjjaijlbaaGreatDoor
open Go.RowKit

theorem mul_zero {e : Int} (h1 : -1074 ≤ e) (h2 : e ≤ 1023) : floatBits .mul .f64 0 (pw e) = some 0 := by
  obtain ⟨p1, p2, p3⟩ := pw_ok h1 h2
  have r0 : Ieee.double.read 0 = .number false 0 (-1074) := by decide
  unfold floatBits
  simp only [fmt64, Ieee.Format.mul]
  rw [r0, read_pos p1]
  simp only [Ieee.Datum.product, Option.map_some, Ieee.Format.write, Option.some.injEq]
  rw [Bool.xor_self, Nat.zero_mul]
  unfold Ieee.Format.nearest
  rw [if_pos rfl]; rfl
/-- The parts of a finite float that is not nought, by its magnitude. -/
theorem sp_parts {a : Nat} (h0 : rung a ≠ 0) : spF a * 2 ^ spZ a = mg (rung a) ∧ spF a % 2 = 1 ∧ spE a = (up (rung a) : Int) - 1074 + spZ a := by
  have hlt := mg_lt (rung a)
  have hne := mg_ne h0
  obtain ⟨m, hm, hz⟩ := Lib.ctzFrom_spec 64 (mg (rung a)) (by omega) (by omega)
  have e : spZ a = Lib.ctzFrom 64 (mg (rung a)) := by unfold spZ Lib.ctz; rw [if_neg hne]
  rw [← e] at hm
  have hF : spF a = 2 * m + 1 := by
    unfold spF; rw [if_neg h0]
    rw [Nat.div_eq_of_eq_mul_right (Nat.two_pow_pos _) hm]
  exact ⟨by rw [hF, hm, Nat.mul_comm], by omega, by unfold spE; rw [if_neg h0]⟩
theorem sp_bd {a : Nat} (hf : finB a = true) (h0 : rung a ≠ 0) : spF a ≠ 0 ∧ spF a < 9007199254740992 ∧ spZ a < 53 ∧ -1074 ≤ spE a ∧ spE a ≤ 1023 ∧ up (rung a) < 2046 := by
  obtain ⟨p1, p2, p3⟩ := sp_parts h0
  have hlt := mg_lt (rung a)
  have hr : rung a < 9218868437227405312 := by unfold finB at hf; simpa using hf
  have hu : up (rung a) < 2046 := by unfold up; split <;> omega
  have h1 : spF a ≤ spF a * 2 ^ spZ a := Nat.le_mul_of_pos_right _ (Nat.two_pow_pos _)
  have h2 : 2 ^ spZ a ≤ spF a * 2 ^ spZ a := Nat.le_mul_of_pos_left _ (by omega)
  have h3 : 2 ^ spZ a < 2 ^ 53 := by omega
  have h4 : spZ a < 53 := (Nat.pow_lt_pow_iff_right (by omega : 1 < 2)).1 h3
  omega
end Go.Proofs.YtomohmjjaijlbaaGreatDoor
