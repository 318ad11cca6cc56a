/- What is right is least. -/
import Derived.Test.YtnclddfljghebaaGreatDoorRv3
namespace Go.Proofs.YtnclddfljghebaaGreatDoor
open Go.RowKit

theorem rt_right {neg : Bool} {xs ys : List Nat} (hL : Lm xs) (hM : Lm ys) (h : rtB neg xs ys = true) : xs = lo (vl xs) ∧ ys = lo (vl ys) ∧ RqB neg (vl xs) (vl ys) := by
  obtain ⟨c1, c2⟩ := rt_cases neg xs ys hL hM
  have a0 : ¬ 256 < xs.length := fun k => by rw [c1 (Or.inl k)] at h; cases h
  have a1 : ¬ 256 < ys.length := fun k => by rw [c1 (Or.inr (Or.inl k))] at h; cases h
  have a2 : ¬ (lo (vl xs)).length ≠ xs.length := fun k => by rw [c1 (Or.inr (Or.inr (Or.inl k)))] at h; cases h
  have a3 : ¬ (lo (vl ys)).length ≠ ys.length := fun k => by rw [c1 (Or.inr (Or.inr (Or.inr (Or.inl k))))] at h; cases h
  have a4 : ¬ ys.length = 0 := fun k => by rw [c1 (Or.inr (Or.inr (Or.inr (Or.inr k))))] at h; cases h
  obtain ⟨d0, d1, d2⟩ := c2 a0 a1 a2 a3 a4
  have T : ∀ {zs : List Nat}, Lm zs → (lo (vl zs)).length = zs.length → zs = lo (vl zs) := by
    intro zs hz e
    have := loW_take hz
    rw [← lo_length, e, List.take_of_length_le (Nat.le_refl _)] at this
    exact this.symm
  refine ⟨T hL (by omega), T hM (by omega), d0, ?_, ?_, ?_, ?_⟩
  · by_cases hx : xs.length = 0
    · have e := (d1 hx).symm.trans h
      have hx0 : vl xs = 0 := by rw [List.eq_nil_of_length_eq_zero hx]; rfl
      rw [hx0, Nat.gcd_zero_left]
      simp at e
      exact e.2
    · have e := (d2 hx).symm.trans h
      simpa using e
  · rw [← lo_length]; omega
  · rw [← lo_length]; omega
  · intro hx0
    have hx : xs.length = 0 := by
      rcases Nat.eq_zero_or_pos xs.length with k | k
      · exact k
      · have : (lo (vl xs)).length = 0 := by rw [hx0]; rfl
        omega
    have e := (d1 hx).symm.trans h
    simp at e
    exact e.1
end Go.Proofs.YtnclddfljghebaaGreatDoor
