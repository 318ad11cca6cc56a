/- What the small functions of the program answer, call by call: no condition but that a float is a word below 2^64. -/
import Derived.Test.YtlmllpkcmfnpnaaRows
import Derived.Test.YtlmllpkcmfnpnaaZf
namespace Go.Proofs.Ytlmllpkcmfnpnaa
open Go.RowKit

theorem run_fbits (a : Nat) (w : World) : (callFunc 36 #[.float .f64 a]).run Try.prog w = .ok (.value (.int .u64 a)) w := by
  rw [run_callFunc_extern (e := Extern.MathFloatBits.float64bits) Try.func36 (by kernel_rfl) (by kernel_rfl) (by kernel_rfl) (by kernel_rfl)]
  rfl
theorem run_ffrom (n : Int) (w : World) : (callFunc 35 #[.int .u64 n]).run Try.prog w = .ok (.value (.float .f64 n.toNat)) w := by
  rw [run_callFunc_extern (e := Extern.MathFloatBits.float64frombits) Try.func35 (by kernel_rfl) (by kernel_rfl) (by kernel_rfl) (by kernel_rfl)]
  rfl

set_option maxHeartbeats 400000 in
theorem isnan_any (a : Nat) (ha : a < 18446744073709551616) (w : World) :
    Calls Try.prog 39 #[.float .f64 a] w fun e w' => e = .returned (.bool (nanB a)) ∧ w' = w := by
  go_enter Try.func39, Try.ntmps39
  go_wp2
  go_ret
  exact ⟨end_bool (ord_self a ha), rfl⟩

set_option maxHeartbeats 400000 in
theorem signbit_any (a : Nat) (ha : a < 18446744073709551616) (w : World) :
    Calls Try.prog 38 #[.float .f64 a] w fun e w' => e = .returned (.bool (sgn a)) ∧ w' = w := by
  have hb := run_fbits a
  go_enter Try.func38, Try.ntmps38
  go_wp2
  go_ret
  exact ⟨end_bool (sgn_wrap a ha), rfl⟩

set_option maxHeartbeats 400000 in
theorem same_any (a b : Nat) (ha : a < 18446744073709551616) (hb : b < 18446744073709551616) (w : World) :
    Calls Try.prog 45 #[.float .f64 a, .float .f64 b] w fun e w' => e = .returned (.bool (sameB a b)) ∧ w' = w := by
  have fa := run_fbits a
  have fb := run_fbits b
  cases na : nanB a
  · have HE : Hid (sameB a b = decide (a = b)) := (show sameB a b = decide (a = b) by unfold sameB; rw [na]; rfl)
    go_enter Try.func45, Try.ntmps45
    go_wp2_with (first | (go_at_call 39; refine (isnan_any _ (by assumption) _).mono ?_; rintro e w' ⟨rfl, rfl⟩))
    go_ret
    exact ⟨end_bool (by rw [HE.out, Bool.eq_iff_iff]; simp; omega), rfl⟩
  · have HE : Hid (sameB a b = nanB b) := (show sameB a b = nanB b by unfold sameB; rw [na]; rfl)
    go_enter Try.func45, Try.ntmps45
    go_wp2_with (first | (go_at_call 39; refine (isnan_any _ (by assumption) _).mono ?_; rintro e w' ⟨rfl, rfl⟩))
    go_ret
    exact ⟨end_bool HE.out.symm, rfl⟩

end Go.Proofs.Ytlmllpkcmfnpnaa
