/- Has a ratio more limbs than are looked at? -/
import Derived.Test.YtnclddfljghebaaGreatDoorQ4
namespace Go.Proofs.YtnclddfljghebaaGreatDoor
open Go.RowKit

/-- Has a ratio more limbs than are looked at? -/
theorem great7_any (n : Bool) (xs ys : List Nat) (ao bo : Option Addr) (ac bc : Nat) (w : World) :
    Calls Tryz.prog 5 #[.agg #[.bool n, .slice ao xs.length ac, .slice bo ys.length bc]] w fun e w' => e = .returned (.bool (decide (300 < xs.length) || decide (300 < ys.length))) ∧ Below w.heap.size w w' := by
  have hb0 : Below w.heap.size w (w.alloc (.cells #[.bool n, .slice ao xs.length ac, .slice bo ys.length bc] 24)) := (Below.refl _ _).alloc (Nat.le_refl _) _
  obtain ⟨x, hx⟩ : ∃ x, xs.length = x := ⟨_, rfl⟩
  obtain ⟨y, hy⟩ : ∃ y, ys.length = y := ⟨_, rfl⟩
  rw [hx, hy] at hb0 ⊢
  by_cases c1 : 300 < x
  · have i1 : (300 : Int) < (x : Int) := by omega
    rw [decide_eq_true c1, Bool.true_or]
    go_enter Tryz.func5, Tryz.ntmps5
    go_wp2
    go_ret
    exact ⟨rfl, hb0⟩
  · have i1 : ¬ (300 : Int) < (x : Int) := by omega
    rw [decide_eq_false c1, Bool.false_or]
    by_cases c2 : 300 < y
    · have i2 : (300 : Int) < (y : Int) := by omega
      rw [decide_eq_true c2]
      go_enter Tryz.func5, Tryz.ntmps5
      go_wp2
      go_ret
      exact ⟨rfl, hb0⟩
    · have i2 : ¬ (300 : Int) < (y : Int) := by omega
      rw [decide_eq_false c2]
      go_enter Tryz.func5, Tryz.ntmps5
      go_wp2
      go_ret
      exact ⟨rfl, hb0⟩
end Go.Proofs.YtnclddfljghebaaGreatDoor
