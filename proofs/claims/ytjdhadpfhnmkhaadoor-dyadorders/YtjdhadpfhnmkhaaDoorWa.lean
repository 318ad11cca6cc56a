/- What the small functions of the program answer, call by call: no condition but that a float is a word below 2^64. -/
import Derived.Test.YtjdhadpfhnmkhaaDoorRows
import Derived.Test.YtjdhadpfhnmkhaaDoorZf
namespace Go.Proofs.YtjdhadpfhnmkhaaDoor
open Go.RowKit

theorem run_fbits (a : Nat) (w : World) : (callFunc 36 #[.float .f64 a]).run Tryd.prog w = .ok (.value (.int .u64 a)) w := by
  rw [run_callFunc_extern (e := Extern.MathFloatBits.float64bits) Tryd.func36 (by kernel_rfl) (by kernel_rfl) (by kernel_rfl) (by kernel_rfl)]
  rfl
theorem run_ffrom (n : Int) (w : World) : (callFunc 66 #[.int .u64 n]).run Tryd.prog w = .ok (.value (.float .f64 n.toNat)) w := by
  rw [run_callFunc_extern (e := Extern.MathFloatBits.float64frombits) Tryd.func66 (by kernel_rfl) (by kernel_rfl) (by kernel_rfl) (by kernel_rfl)]
  rfl

set_option maxHeartbeats 400000 in
theorem isnan_any (a : Nat) (ha : a < 18446744073709551616) (w : World) :
    Calls Tryd.prog 61 #[.float .f64 a] w fun e w' => e = .returned (.bool (nanB a)) ∧ w' = w := by
  go_enter Tryd.func61, Tryd.ntmps61
  go_wp2
  go_ret
  exact ⟨end_bool (ord_self a ha), rfl⟩

set_option maxHeartbeats 400000 in
theorem place_any (a : Nat) (ha : a < 18446744073709551616) (w : World) :
    Calls Tryd.prog 43 #[.float .f64 a] w fun e w' => e = .returned (.tuple #[.int .i64 (plc a), .bool (!nanB a)]) ∧ w' = w := by
  have fa := run_fbits a
  cases na : nanB a
  · have HE : Hid (plc a = place a) := (show plc a = place a by unfold plc; rw [na]; rfl)
    go_enter Tryd.func43, Tryd.ntmps43
    go_wp2_with (go_at_call 61; refine (isnan_any _ (by assumption) _).mono ?_; rintro e w' ⟨rfl, rfl⟩)
    · rename_i hs
      rw [and_sign_ne a ha] at hs
      go_ret2
      exact ⟨end_ib (by rw [andNot_sign a ha, HE.out]; exact place_neg hs) rfl, rfl⟩
    · rename_i hs
      rw [and_sign_ne a ha] at hs
      go_ret2
      exact ⟨end_ib (by rw [HE.out]; exact place_pos ha hs) rfl, rfl⟩
  · have HE : Hid (plc a = 0) := (show plc a = 0 by unfold plc; rw [na]; rfl)
    go_enter Tryd.func43, Tryd.ntmps43
    go_wp2_with (go_at_call 61; refine (isnan_any _ (by assumption) _).mono ?_; rintro e w' ⟨rfl, rfl⟩)
    go_ret2
    exact ⟨end_ib HE.out.symm rfl, rfl⟩

set_option maxHeartbeats 400000 in
theorem between_any (a b : Nat) (ha : a < 18446744073709551616) (hb : b < 18446744073709551616) (w : World) :
    Calls Tryd.prog 24 #[.float .f64 a, .float .f64 b] w fun e w' => e = .returned (.tuple #[.int .u64 (btwN a b), .bool (btwB a b)]) ∧ w' = w := by
  cases na : nanB a <;> cases nb : nanB b
  · have h3 := place_bd a
    have h4 := place_bd b
    have HP : Hid (plc a = place a) := (show plc a = place a by unfold plc; rw [na]; rfl)
    have HQ : Hid (plc b = place b) := (show plc b = place b by unfold plc; rw [nb]; rfl)
    by_cases h1 : place a ≤ place b
    · have HB : Hid (btwB a b = true) := (show btwB a b = true by unfold btwB; rw [na, nb]; simpa using h1)
      have HE : Hid (btwN a b = place b - place a) := (show btwN a b = place b - place a by unfold btwN; rw [HB.out]; rfl)
      have hq : plc a ≤ plc b := by rw [HP.out, HQ.out]; exact h1
      clear h1
      go_enter Tryd.func24, Tryd.ntmps24
      go_wp2_with (go_at_call 43; refine (place_any _ (by assumption) _).mono ?_; rintro e w' ⟨rfl, rfl⟩)
      go_ret2
      exact ⟨end_ib (by rw [HE.out, HP.out, HQ.out] at *; exact btw_wrap _ _ (by omega) (by omega) (by omega)) HB.out.symm, rfl⟩
    · have HB : Hid (btwB a b = false) := (show btwB a b = false by unfold btwB; rw [na, nb]; simpa using h1)
      have HE : Hid (btwN a b = 0) := (show btwN a b = 0 by unfold btwN; rw [HB.out]; rfl)
      have hq : plc b < plc a := by rw [HP.out, HQ.out]; omega
      clear h1
      go_enter Tryd.func24, Tryd.ntmps24
      go_wp2_with (go_at_call 43; refine (place_any _ (by assumption) _).mono ?_; rintro e w' ⟨rfl, rfl⟩)
      go_ret2
      exact ⟨end_ib HE.out.symm HB.out.symm, rfl⟩
  all_goals
    have HB : Hid (btwB a b = false) := (show btwB a b = false by unfold btwB; rw [na, nb]; rfl)
    have HE : Hid (btwN a b = 0) := (show btwN a b = 0 by unfold btwN; rw [HB.out]; rfl)
    go_enter Tryd.func24, Tryd.ntmps24
    go_wp2_with (go_at_call 43; refine (place_any _ (by assumption) _).mono ?_; rintro e w' ⟨rfl, rfl⟩)
    go_ret2
    exact ⟨end_ib HE.out.symm HB.out.symm, rfl⟩
end Go.Proofs.YtjdhadpfhnmkhaaDoor
