/- What the small functions of the program answer, call by call: no condition but that a float is a word below 2^64. -/
import Derived.Test.YtlkmmfmnggejlaaDoorRows
import Derived.Test.YtlkmmfmnggejlaaDoorZf
namespace Go.Proofs.YtlkmmfmnggejlaaDoor
open Go.RowKit

theorem run_fbits (a : Nat) (w : World) : (callFunc 39 #[.float .f64 a]).run Tryd.prog w = .ok (.value (.int .u64 a)) w := by
  rw [run_callFunc_extern (e := Extern.MathFloatBits.float64bits) Tryd.func39 (by kernel_rfl) (by kernel_rfl) (by kernel_rfl) (by kernel_rfl)]
  rfl
theorem run_ffrom (n : Int) (w : World) : (callFunc 38 #[.int .u64 n]).run Tryd.prog w = .ok (.value (.float .f64 n.toNat)) w := by
  rw [run_callFunc_extern (e := Extern.MathFloatBits.float64frombits) Tryd.func38 (by kernel_rfl) (by kernel_rfl) (by kernel_rfl) (by kernel_rfl)]
  rfl

set_option maxHeartbeats 400000 in
theorem isnan_any (a : Nat) (ha : a < 18446744073709551616) (w : World) :
    Calls Tryd.prog 76 #[.float .f64 a] w fun e w' => e = .returned (.bool (nanB a)) ∧ w' = w := by
  go_enter Tryd.func76, Tryd.ntmps76
  go_wp2
  go_ret
  exact ⟨end_bool (ord_self a ha), rfl⟩

set_option maxHeartbeats 400000 in
theorem signbit_any (a : Nat) (ha : a < 18446744073709551616) (w : World) :
    Calls Tryd.prog 101 #[.float .f64 a] w fun e w' => e = .returned (.bool (sgn a)) ∧ w' = w := by
  have hb := run_fbits a
  go_enter Tryd.func101, Tryd.ntmps101
  go_wp2
  go_ret
  exact ⟨end_bool (sgn_wrap a ha), rfl⟩

set_option maxHeartbeats 400000 in
theorem place_any (a : Nat) (ha : a < 18446744073709551616) (w : World) :
    Calls Tryd.prog 105 #[.float .f64 a] w fun e w' => e = .returned (.tuple #[.int .i64 (plc a), .bool (!nanB a)]) ∧ w' = w := by
  have fa := run_fbits a
  cases na : nanB a
  · have HE : Hid (plc a = place a) := (show plc a = place a by unfold plc; rw [na]; rfl)
    go_enter Tryd.func105, Tryd.ntmps105
    go_wp2_with (go_at_call 76; refine (isnan_any _ (by assumption) _).mono ?_; rintro e w' ⟨rfl, rfl⟩)
    · rename_i hs
      rw [and_sign_ne a ha] at hs
      go_ret2
      exact ⟨end_ib (by rw [andNot_sign a ha, HE.out]; exact place_neg hs) rfl, rfl⟩
    · rename_i hs
      rw [and_sign_ne a ha] at hs
      go_ret2
      exact ⟨end_ib (by rw [HE.out]; exact place_pos ha hs) rfl, rfl⟩
  · have HE : Hid (plc a = 0) := (show plc a = 0 by unfold plc; rw [na]; rfl)
    go_enter Tryd.func105, Tryd.ntmps105
    go_wp2_with (go_at_call 76; refine (isnan_any _ (by assumption) _).mono ?_; rintro e w' ⟨rfl, rfl⟩)
    go_ret2
    exact ⟨end_ib HE.out.symm rfl, rfl⟩

end Go.Proofs.YtlkmmfmnggejlaaDoor
