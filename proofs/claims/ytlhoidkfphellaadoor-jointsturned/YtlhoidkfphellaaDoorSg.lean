/- What the document's sum tells, and that it is what round's tells. -/
import Derived.Test.YtlhoidkfphellaaDoorSf
namespace Go.Proofs.YtlhoidkfphellaaDoor
open Go.RowKit

/-- The document's answer for a finite sum. -/
def refM (a b n r : Nat) (m : Int) : Nat := if finB n then (if rung n == 0 then noughtR (rung a == 0) (sgn a) b m else sideR n (signF r) m) else greatR n m
/-- Both tell the same. -/
theorem refM_addM {a b n t r : Nat} {c : Bool} (m : Int) (ha : a < 18446744073709551616) (hb : b < 18446744073709551616) (fa : finB a = true) (fb : finB b = true)
    (hnl : n < 18446744073709551616) (hni : rung n ≤ 9218868437227405312) (h00 : rung n = 0 → sgn a = sgn b → rung a = 0 ∧ rung b = 0)
    (ht : floatBits .sub .f64 n (if c then b else a) = some t) (hr : floatBits .sub .f64 (if c then a else b) t = some r) : refM a b n r m = addM a b n r m := by
  unfold refM addM
  cases fn : finB n
  · have hi : rung n = 9218868437227405312 := by unfold finB at fn; simp at fn; omega
    have e1 : (rung n == 0) = false := by rw [hi]; rfl
    have hx : (if c then b else a) < 18446744073709551616 ∧ finB (if c then b else a) = true ∧ (if c then a else b) < 18446744073709551616 ∧ finB (if c then a else b) = true := by cases c <;> exact ⟨by assumption, by assumption, by assumption, by assumption⟩
    obtain ⟨g1, g2, g3⟩ := rest_inf hnl hi hx.1 hx.2.1 hx.2.2.1 hx.2.2.2
    rw [g1] at ht
    obtain rfl : n = t := Option.some.inj ht
    rw [g2] at hr
    obtain rfl : negW n = r := Option.some.inj hr
    rw [e1, g3]
    simp only [Bool.false_eq_true, if_false]
    exact (step_great m hnl hi).symm
  · cases e1 : (rung n == 0)
    · simp only [Bool.false_eq_true, if_false, if_true]
      exact (step_side _ m hnl (fin_rung fn) (by simpa using e1)).symm
    · simp only [if_true]
      unfold noughtR noughtF
      cases hs : (sgn a == sgn b)
      · simp
      · have hs' : sgn a = sgn b := by simpa using hs
        obtain ⟨r1, r2⟩ := h00 (by simpa using e1) hs'
        rw [r1, r2]
        simp only [beq_self_eq_true, Bool.and_true, if_true]
        rcases word_two ha with ⟨w1, s1⟩ | ⟨w1, s1⟩ <;> rcases word_two hb with ⟨w2, s2⟩ | ⟨w2, s2⟩ <;> rw [s1, s2] at hs' <;> first | (cases hs'; done) | omega
end Go.Proofs.YtlhoidkfphellaaDoor
