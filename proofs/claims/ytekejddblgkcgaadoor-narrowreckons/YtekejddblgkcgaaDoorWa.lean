/- What the small functions of the program answer, call by call: no condition but that a float is a word below 2^64. -/
import Derived.Test.YtekejddblgkcgaaDoorRows
import Derived.Test.YtekejddblgkcgaaDoorZf
namespace Go.Proofs.YtekejddblgkcgaaDoor
open Go.RowKit

theorem run_fbits (a : Nat) (w : World) : (callFunc 31 #[.float .f64 a]).run Tryd.prog w = .ok (.value (.int .u64 a)) w := by
  rw [run_callFunc_extern (e := Extern.MathFloatBits.float64bits) Tryd.func31 (by kernel_rfl) (by kernel_rfl) (by kernel_rfl) (by kernel_rfl)]
  rfl
theorem run_ffrom (n : Int) (w : World) : (callFunc 43 #[.int .u64 n]).run Tryd.prog w = .ok (.value (.float .f64 n.toNat)) w := by
  rw [run_callFunc_extern (e := Extern.MathFloatBits.float64frombits) Tryd.func43 (by kernel_rfl) (by kernel_rfl) (by kernel_rfl) (by kernel_rfl)]
  rfl

set_option maxHeartbeats 400000 in
theorem isnan_any (a : Nat) (ha : a < 18446744073709551616) (w : World) :
    Calls Tryd.prog 50 #[.float .f64 a] w fun e w' => e = .returned (.bool (nanB a)) ∧ w' = w := by
  go_enter Tryd.func50, Tryd.ntmps50
  go_wp2
  go_ret
  exact ⟨end_bool (ord_self a ha), rfl⟩

set_option maxHeartbeats 400000 in
theorem signbit_any (a : Nat) (ha : a < 18446744073709551616) (w : World) :
    Calls Tryd.prog 23 #[.float .f64 a] w fun e w' => e = .returned (.bool (sgn a)) ∧ w' = w := by
  have hb := run_fbits a
  go_enter Tryd.func23, Tryd.ntmps23
  go_wp2
  go_ret
  exact ⟨end_bool (sgn_wrap a ha), rfl⟩

set_option maxHeartbeats 400000 in
theorem same_any (a b : Nat) (ha : a < 18446744073709551616) (hb : b < 18446744073709551616) (w : World) :
    Calls Tryd.prog 32 #[.float .f64 a, .float .f64 b] w fun e w' => e = .returned (.bool (sameB a b)) ∧ w' = w := by
  have fa := run_fbits a
  have fb := run_fbits b
  cases na : nanB a
  · have HE : Hid (sameB a b = decide (a = b)) := (show sameB a b = decide (a = b) by unfold sameB; rw [na]; rfl)
    go_enter Tryd.func32, Tryd.ntmps32
    go_wp2_with (first | (go_at_call 50; refine (isnan_any _ (by assumption) _).mono ?_; rintro e w' ⟨rfl, rfl⟩))
    go_ret
    exact ⟨end_bool (by rw [HE.out, Bool.eq_iff_iff]; simp; omega), rfl⟩
  · have HE : Hid (sameB a b = nanB b) := (show sameB a b = nanB b by unfold sameB; rw [na]; rfl)
    go_enter Tryd.func32, Tryd.ntmps32
    go_wp2_with (first | (go_at_call 50; refine (isnan_any _ (by assumption) _).mono ?_; rintro e w' ⟨rfl, rfl⟩))
    go_ret
    exact ⟨end_bool HE.out.symm, rfl⟩

set_option maxHeartbeats 400000 in
theorem place_any (a : Nat) (ha : a < 18446744073709551616) (w : World) :
    Calls Tryd.prog 70 #[.float .f64 a] w fun e w' => e = .returned (.tuple #[.int .i64 (plc a), .bool (!nanB a)]) ∧ w' = w := by
  have fa := run_fbits a
  cases na : nanB a
  · have HE : Hid (plc a = place a) := (show plc a = place a by unfold plc; rw [na]; rfl)
    go_enter Tryd.func70, Tryd.ntmps70
    go_wp2_with (go_at_call 50; refine (isnan_any _ (by assumption) _).mono ?_; rintro e w' ⟨rfl, rfl⟩)
    · rename_i hs
      rw [and_sign_ne a ha] at hs
      go_ret2
      exact ⟨end_ib (by rw [andNot_sign a ha, HE.out]; exact place_neg hs) rfl, rfl⟩
    · rename_i hs
      rw [and_sign_ne a ha] at hs
      go_ret2
      exact ⟨end_ib (by rw [HE.out]; exact place_pos ha hs) rfl, rfl⟩
  · have HE : Hid (plc a = 0) := (show plc a = 0 by unfold plc; rw [na]; rfl)
    go_enter Tryd.func70, Tryd.ntmps70
    go_wp2_with (go_at_call 50; refine (isnan_any _ (by assumption) _).mono ?_; rintro e w' ⟨rfl, rfl⟩)
    go_ret2
    exact ⟨end_ib HE.out.symm rfl, rfl⟩

end Go.Proofs.YtekejddblgkcgaaDoor
