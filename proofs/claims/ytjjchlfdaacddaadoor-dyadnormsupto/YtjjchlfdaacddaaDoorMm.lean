/- What the reference's far, Add answer. -/
import Derived.Test.YtjjchlfdaacddaaDoorMk
import Derived.Test.YtjjchlfdaacddaaDoorNn
import Derived.Test.YtjjchlfdaacddaaDoorDx
namespace Go.Proofs.YtjjchlfdaacddaaDoor
open Go.RowKit

theorem addD_at {a b : Dy} (ra : rightB a = true) (rb : rightB b = true) {k : Nat} (hk : b.exp = a.exp + k) : addD a b = nrm (sv a + sv b * 2 ^ k) a.exp := by
  have h1 := right_exp ra
  have h2 := right_exp rb
  unfold addD
  rw [ra, rb]
  simp only [Bool.and_self, if_true]
  have s := nrm_shift (sv a + sv b * 2 ^ k) a.exp (a.exp + 65536).toNat
  rw [show a.exp - ((a.exp + 65536).toNat : Int) = -65536 by omega] at s
  rw [← s]
  congr 1
  unfold qd
  rw [hk, show (a.exp + (k : Int) + 65536).toNat = k + (a.exp + 65536).toNat by omega, Int.pow_add, Int.add_mul, Int.mul_assoc]
theorem addD_turn (a b : Dy) : addD a b = addD b a := by
  unfold addD
  rw [Bool.and_comm, Int.add_comm]
theorem far_abs {A B : Nat} {k : Nat} (hA : A < 2 ^ (k - 2)) (hB : B ≠ 0) (hk : 2 ≤ k) : 2 ^ (k - 1) ≤ B * 2 ^ k - A := by
  have h1 : 2 ^ k = 2 * 2 ^ (k - 1) := by rw [← Nat.pow_succ']; congr 1; omega
  have h2 : 2 ^ (k - 1) = 2 * 2 ^ (k - 2) := by rw [← Nat.pow_succ']; congr 1; omega
  have h3 : 2 ^ k ≤ B * 2 ^ k := Nat.le_mul_of_pos_left _ (Nat.pos_of_ne_zero hB)
  omega
theorem far_add {a b : Dy} (ra : rightB a = true) (rb : rightB b = true) (la : Lm a.mag) (na : a.mag.length ≠ 0) (nb : b.mag.length ≠ 0) {k : Nat} (hk : b.exp = a.exp + k) (hf : 16385 < k) : addD a b = (dy0, 3) := by
  rw [addD_at ra rb hk]
  obtain ⟨a0, ao⟩ := right_ne ra na
  obtain ⟨b0, bo⟩ := right_ne rb nb
  have xa := right_exp ra
  have hA : vl a.mag < 2 ^ (k - 2) := Nat.lt_of_lt_of_le (vl_lt la) (Nat.pow_le_pow_right (by omega) (by omega))
  have hab := far_abs hA b0 (show 2 ≤ k by omega)
  obtain ⟨P, hP⟩ : ∃ P, vl b.mag * 2 ^ k = P := ⟨_, rfl⟩
  have hPe : P % 2 = 0 := by
    rw [← hP, show k = (k - 1) + 1 by omega, Nat.pow_succ, ← Nat.mul_assoc, Nat.mul_mod_left]
  have hPb : (sv b * 2 ^ k).natAbs = P := by
    rw [Int.natAbs_mul, sv_abs, Int.natAbs_pow, ← hP]; rfl
  have hAa := sv_abs a
  rw [hP] at hab
  obtain ⟨Y, hY⟩ : ∃ Y, sv b * 2 ^ k = Y := ⟨_, rfl⟩
  rw [hY] at hPb ⊢
  obtain ⟨Q, hQ⟩ : ∃ Q, 2 ^ (k - 1) = Q := ⟨_, rfl⟩
  rw [hQ] at hab
  have hS : Q ≤ (sv a + Y).natAbs := by omega
  have hva : vl a.mag % 2 = 1 := by rw [vl_odd la na]; omega
  have hodd : (sv a + Y).natAbs % 2 = 1 := by omega
  have hQp : 0 < Q := by rw [← hQ]; exact Nat.two_pow_pos _
  have ht : tz (sv a + Y).natAbs = 0 := tz_odd hodd
  have hbl : k ≤ bl (sv a + Y).natAbs := by
    by_cases h : k ≤ bl (sv a + Y).natAbs
    · exact h
    · have : (sv a + Y).natAbs < 2 ^ (k - 1) := bl_le_iff.1 (by omega)
      omega
  unfold nrm
  rw [if_neg (by omega), if_pos (by omega)]
/-- Are two dyads so far apart that their sum is too long? -/
def farB (a b : Dy) : Bool := decide (a.mag.length ≠ 0) && (decide (b.mag.length ≠ 0) && (decide (16385 < a.exp - b.exp) || decide (16385 < b.exp - a.exp)))
set_option maxHeartbeats 1000000 in
theorem far_any (a b : Dy) (ao bo : Option Addr) (cap bcap : Nat) (w : World) (he : -1000000 ≤ a.exp ∧ a.exp ≤ 1000000) (hf : -1000000 ≤ b.exp ∧ b.exp ≤ 1000000) :
    Calls Tryd.prog 65 #[.agg #[.bool a.neg, .slice ao a.mag.length cap, .int .i64 a.exp], .agg #[.bool b.neg, .slice bo b.mag.length bcap, .int .i64 b.exp]] w fun e w' => e = .returned (.bool (farB a b)) ∧ Below w.heap.size w w' := by
  have HE : Hid (farB a b = (decide (a.mag.length ≠ 0) && (decide (b.mag.length ≠ 0) && (decide (16385 < a.exp - b.exp) || decide (16385 < b.exp - a.exp))))) := rfl
  obtain ⟨n1, xs, ex⟩ := a
  obtain ⟨n2, ys, ey⟩ := b
  simp only at *
  have hend : ∀ o1 o2, Below w.heap.size w ((w.alloc o1).alloc o2) := fun o1 o2 => (((Below.refl _ _).alloc (Nat.le_refl _) o1).alloc (by simp) o2)
  by_cases h1 : xs.length = 0
  · have e1 : ((xs.length : Int) == 0) = true := beq_iff_eq.2 (by omega)
    go_enter Tryd.func65, Tryd.ntmps65
    go_wp2
    go_ret
    exact ⟨retB (by rw [HE.out]; simp [h1]), hend _ _⟩
  · have e1 : ((xs.length : Int) == 0) = false := beq_eq_false_iff_ne.2 (by omega)
    by_cases h2 : ys.length = 0
    · have e2 : ((ys.length : Int) == 0) = true := beq_iff_eq.2 (by omega)
      go_enter Tryd.func65, Tryd.ntmps65
      go_wp2
      go_ret
      exact ⟨retB (by rw [HE.out]; simp [h2]), hend _ _⟩
    · have e2 : ((ys.length : Int) == 0) = false := beq_eq_false_iff_ne.2 (by omega)
      by_cases h3 : 16385 < ex - ey <;> by_cases h4 : 16385 < ey - ex <;>
        first
        | (exfalso; omega)
        | (go_enter Tryd.func65, Tryd.ntmps65
           go_wp2
           go_ret
           exact ⟨retB (by rw [HE.out]; simp [h1, h2, h3, h4]), hend _ _⟩)
end Go.Proofs.YtjjchlfdaacddaaDoor
