/- SumsExact, of any list and any way: both sides are one. -/
import Derived.Test.YtfhejejfeffdcaaDoorRB
import Derived.Test.YtfhejejfeffdcaaDoorCi
import Derived.Test.YtfhejejfeffdcaaDoorZ10
namespace Go.Proofs.YtfhejejfeffdcaaDoor
open Go.RowKit

theorem nan_fin {s : Nat} (h : nanB s = true) : finB s = false := by
  unfold nanB at h; unfold finB
  simp only [decide_eq_true_eq] at h
  simp; omega
theorem rung64 (a : Nat) : rung a < 18446744073709551616 := by have := rung_lt a; omega
def finO : Option Nat → Bool
  | none => false
  | some v => finB v
theorem NR_fin {o : Option Nat} {r : Nat} (h : NR o r) : finB r = finO o := by
  cases o with
  | none => exact nan_fin h.2
  | some v => have e : r = v := h.2; rw [e]; rfl
theorem NR_num {o : Option Nat} {r : Nat} (h : NR o r) (hf : finO o = true) : r = o.getD 0 := by
  cases o with
  | none => cases hf
  | some v => exact h.2
end Go.Proofs.YtfhejejfeffdcaaDoor

namespace Go.Proofs.YtfhejejfeffdcaaDoor
open Go.RowKit

theorem NR_none0 : NR (some 0) 0 := ⟨by omega, rfl⟩
end Go.Proofs.YtfhejejfeffdcaaDoor

namespace Go.Proofs.YtfhejejfeffdcaaDoor
open Go.RowKit

end Go.Proofs.YtfhejejfeffdcaaDoor

namespace Go.Proofs.YtfhejejfeffdcaaDoor
open Go.RowKit

theorem exW_lt {xs : List Nat} (h : xs.all finB = true) (hn : xs.length ≤ 1125899906842624) (m : Int) : exW xs m < 18446744073709551616 := by
  obtain ⟨r1, _, _⟩ := sD_qd h hn (Nat.le_refl xs.length) (K := 64462) rfl
  unfold exW rndW
  by_cases hl : (sD xs xs.length).mag.length = 0
  · rw [if_pos hl]; omega
  · rw [if_neg hl]
    have h0 := (right_ne r1 hl).1
    have := rSz_lt (vl (sD xs xs.length).mag) (sD xs xs.length).exp (szm (sD xs xs.length).neg m) h0
    split <;> omega
theorem samef_one (a : Nat) (ha : a < 18446744073709551616) (w : World) : Calls Tryd.prog 8 #[.float .f64 a, .float .f64 a] w fun e w' => e = .returned (.bool true) ∧ w' = w := by
  have h := samef_any a a ha ha w
  rw [show sameB a a = true by unfold sameB; cases nanB a <;> simp] at h
  exact h
end Go.Proofs.YtfhejejfeffdcaaDoor
