/- What round's Int answers, and Add and the document's sum of finite floats. -/
import Derived.Test.YtajcfdcmbiffbaaGreatDoorSg
import Derived.Test.YtajcfdcmbiffbaaGreatDoorSx
import Derived.Test.YtajcfdcmbiffbaaGreatDoorZo
namespace Go.Proofs.YtajcfdcmbiffbaaGreatDoor
open Go.RowKit

theorem dadd_gen (a b : Nat) (m : Int) (ha : a < 18446744073709551616) (hb : b < 18446744073709551616) (fa : finB a = true) (fb : finB b = true) (w : World) :
    Calls Tryz.prog 41 #[.float .f64 a, .float .f64 b, .int .i8 m] w fun e w' => e = .returned (.float .f64 (addV a b m)) ∧ Below w.heap.size w w' := by
  obtain ⟨h1, h2, h3, h4, h5, h6, h7⟩ := sum_parts ha hb fa fb
  have h := dadd_fin a b _ _ _ _ m ha hb fa fb rfl h1 h2 h3 h4 h5 h6 w
  rw [refM_addM m ha hb fa fb h4 h5 h7 h2 h3] at h
  exact h
end Go.Proofs.YtajcfdcmbiffbaaGreatDoor
