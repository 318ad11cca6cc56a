/- What Finite, Sign, Fits answer. -/
import Derived.Test.YtmffalpckdkabaaDoorZo
import Derived.Test.YtmffalpckdkabaaDoorFz
namespace Go.Proofs.YtmffalpckdkabaaDoor
open Go.RowKit

set_option maxHeartbeats 400000 in
theorem fin_yes (a : Nat) (ha : a < 18446744073709551616) (hf : finB a = true) (w : World) :
    Calls Tryd.prog 9 #[.float .f64 a] w fun e w' => e = .returned (.bool true) ∧ w' = w := by
  have hm := fun w => run_float_arith (P := Tryd.prog) w .sub 24 .f64 _ _ _ (sub_self ha hf)
  have ho : (FloatKind.f64.format.order 0 0 == some .eq) = true := by kernel_rfl
  go_enter Tryd.func9, Tryd.ntmps9
  go_wp2
  go_ret
  exact ⟨end_bool ho, rfl⟩
set_option maxHeartbeats 400000 in
theorem fin_no (a : Nat) (ha : a < 18446744073709551616) (hf : finB a = false) (w : World) :
    Calls Tryd.prog 9 #[.float .f64 a] w fun e w' => e = .returned (.bool false) ∧ w' = w.drew := by
  have hm := run_nan (P := Tryd.prog) .sub (Or.inl rfl) 24 a a (sub_inf ha hf)
  obtain ⟨h1, h2⟩ := nanW_nan a a w
  have ho : (FloatKind.f64.format.order (nanW a a w) 0 == some .eq) = false := by rw [ord_nan h2 (by omega) (Or.inl h1)]; rfl
  go_enter Tryd.func9, Tryd.ntmps9
  go_wp2
  go_ret
  exact ⟨rfl, rfl⟩

/-- Is a right dyad a finite float? -/
def fitB (d : Dy) : Bool := rightB d && decide (d.mag.length ≤ 1) && okP (lmb d.mag 0) d.exp
end Go.Proofs.YtmffalpckdkabaaDoor
