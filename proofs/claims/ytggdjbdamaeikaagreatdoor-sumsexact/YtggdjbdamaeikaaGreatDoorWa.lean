/- What the small functions of the program answer, call by call: no condition but that a float is a word below 2^64. -/
import Derived.Test.YtggdjbdamaeikaaGreatDoorRows
import Derived.Test.YtggdjbdamaeikaaGreatDoorZf
namespace Go.Proofs.YtggdjbdamaeikaaGreatDoor
open Go.RowKit

theorem run_fbits (a : Nat) (w : World) : (callFunc 18 #[.float .f64 a]).run Tryz.prog w = .ok (.value (.int .u64 a)) w := by
  rw [run_callFunc_extern (e := Extern.MathFloatBits.float64bits) Tryz.func18 (by kernel_rfl) (by kernel_rfl) (by kernel_rfl) (by kernel_rfl)]
  rfl
theorem run_ffrom (n : Int) (w : World) : (callFunc 65 #[.int .u64 n]).run Tryz.prog w = .ok (.value (.float .f64 n.toNat)) w := by
  rw [run_callFunc_extern (e := Extern.MathFloatBits.float64frombits) Tryz.func65 (by kernel_rfl) (by kernel_rfl) (by kernel_rfl) (by kernel_rfl)]
  rfl

set_option maxHeartbeats 400000 in
theorem isnan_any (a : Nat) (ha : a < 18446744073709551616) (w : World) :
    Calls Tryz.prog 119 #[.float .f64 a] w fun e w' => e = .returned (.bool (nanB a)) ∧ w' = w := by
  go_enter Tryz.func119, Tryz.ntmps119
  go_wp2
  go_ret
  exact ⟨end_bool (ord_self a ha), rfl⟩

set_option maxHeartbeats 400000 in
theorem signbit_any (a : Nat) (ha : a < 18446744073709551616) (w : World) :
    Calls Tryz.prog 47 #[.float .f64 a] w fun e w' => e = .returned (.bool (sgn a)) ∧ w' = w := by
  have hb := run_fbits a
  go_enter Tryz.func47, Tryz.ntmps47
  go_wp2
  go_ret
  exact ⟨end_bool (sgn_wrap a ha), rfl⟩

set_option maxHeartbeats 400000 in
theorem place_any (a : Nat) (ha : a < 18446744073709551616) (w : World) :
    Calls Tryz.prog 93 #[.float .f64 a] w fun e w' => e = .returned (.tuple #[.int .i64 (plc a), .bool (!nanB a)]) ∧ w' = w := by
  have fa := run_fbits a
  cases na : nanB a
  · have HE : Hid (plc a = place a) := (show plc a = place a by unfold plc; rw [na]; rfl)
    go_enter Tryz.func93, Tryz.ntmps93
    go_wp2_with (go_at_call 119; refine (isnan_any _ (by assumption) _).mono ?_; rintro e w' ⟨rfl, rfl⟩)
    · rename_i hs
      rw [and_sign_ne a ha] at hs
      go_ret2
      exact ⟨end_ib (by rw [andNot_sign a ha, HE.out]; exact place_neg hs) rfl, rfl⟩
    · rename_i hs
      rw [and_sign_ne a ha] at hs
      go_ret2
      exact ⟨end_ib (by rw [HE.out]; exact place_pos ha hs) rfl, rfl⟩
  · have HE : Hid (plc a = 0) := (show plc a = 0 by unfold plc; rw [na]; rfl)
    go_enter Tryz.func93, Tryz.ntmps93
    go_wp2_with (go_at_call 119; refine (isnan_any _ (by assumption) _).mono ?_; rintro e w' ⟨rfl, rfl⟩)
    go_ret2
    exact ⟨end_ib HE.out.symm rfl, rfl⟩

end Go.Proofs.YtggdjbdamaeikaaGreatDoor
