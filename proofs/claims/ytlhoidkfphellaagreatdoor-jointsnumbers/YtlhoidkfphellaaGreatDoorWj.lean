/- What power, sizeOf, Join and SameFloat answer, call by call. -/
import Derived.Test.YtlhoidkfphellaaGreatDoorK1
import Derived.Test.YtlhoidkfphellaaGreatDoorZg
namespace Go.Proofs.YtlhoidkfphellaaGreatDoor
open Go.RowKit

theorem neg_word {r : Nat} (h : r < 9223372036854775808) : Op.negFloat .f64 r = 9223372036854775808 + r := by
  unfold Op.negFloat
  rw [fmt64]
  have e : (2 : Nat) ^ (Ieee.double.exponentBits + Ieee.double.fractionBits) = 2 ^ 63 := rfl
  rw [e]
  have h1 := Nat.two_pow_add_eq_or_of_lt (i := 63) (b := r) (by omega) 1
  rw [Nat.mul_one] at h1
  have h2 : r ^^^ 2 ^ 63 = 2 ^ 63 ||| r := by
    apply Nat.eq_of_testBit_eq
    intro k
    rw [Nat.testBit_xor, Nat.testBit_or, Nat.testBit_two_pow]
    by_cases hk : 63 = k
    · subst hk
      have : r.testBit 63 = false := Nat.testBit_lt_two_pow (by omega)
      simp [this]
    · simp [hk]
  rw [h2, ← h1]

set_option maxHeartbeats 400000 in
theorem samef_any (a b : Nat) (ha : a < 18446744073709551616) (hb : b < 18446744073709551616) (w : World) :
    Calls Tryz.prog 10 #[.float .f64 a, .float .f64 b] w fun e w' => e = .returned (.bool (sameB a b)) ∧ w' = w := by
  have fa := run_fbits a
  have fb := run_fbits b
  have na := ord_self a ha
  have nb := ord_self b hb
  by_cases h : a = b
  · have b1 : ((a : Int) == (b : Int)) = true := by simp; omega
    have HE : Hid (sameB a b = true) := (show sameB a b = true by unfold sameB; subst h; cases nanB a <;> simp)
    clear h
    go_enter Tryz.func10, Tryz.ntmps10
    go_wp2
    go_ret
    exact ⟨end_bool HE.out.symm, rfl⟩
  · have b1 : ((a : Int) == (b : Int)) = false := by simp; omega
    have HE : Hid (sameB a b = (nanB a && nanB b)) := (show sameB a b = (nanB a && nanB b) by unfold sameB; cases nanB a <;> simp [h])
    clear h
    cases ea : nanB a
    all_goals
      rw [ea] at na
      go_enter Tryz.func10, Tryz.ntmps10
      go_wp2
      go_ret
      exact ⟨end_bool (by rw [HE.out, ea]; rfl), rfl⟩
end Go.Proofs.YtlhoidkfphellaaGreatDoor
