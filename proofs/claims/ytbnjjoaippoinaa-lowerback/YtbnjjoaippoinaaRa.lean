/- What the document's answer for layer 1 (fields, Kind, Nan, Finite, Same, Place, Order, Between) computes, call by call: no condition but that a float is a word below 2^64. -/
import Derived.Test.YtbnjjoaippoinaaU1
import Derived.Test.YtbnjjoaippoinaaZg
namespace Go.Proofs.Ytbnjjoaippoinaa
open Go.RowKit

theorem end_bii {k l : IntKind} {a a' : Bool} {b b' c c' : Int} (h : a = a') (g : b = b') (f : c = c') : Ending.returned (.tuple #[.bool a, .int k b, .int l c]) = .returned (.tuple #[.bool a', .int k b', .int l c']) := by subst h; subst g; subst f; rfl
theorem sgn_div {a : Nat} (ha : a < 18446744073709551616) : ((a : Int) / 9223372036854775808 == 1) = sgn a := by
  unfold sgn; rw [Bool.eq_iff_iff]; simp; omega
theorem expo_int {a : Nat} : (a : Int) / 4503599627370496 % 2048 = (expo a : Int) := by unfold expo; omega
theorem frc_int {a : Nat} : (a : Int) % 4503599627370496 = (frc a : Int) := by unfold frc rung; omega
theorem rung_ef {a : Nat} (ha : a < 18446744073709551616) : rung a = expo a * 4503599627370496 + frc a := by unfold frc; rw [expo_rung ha]; omega
theorem expo_lt (a : Nat) : expo a < 2048 := by unfold expo; omega
theorem frc_lt (a : Nat) : frc a < 4503599627370496 := by unfold frc; omega

set_option maxHeartbeats 400000 in
theorem fields_any (a : Nat) (ha : a < 18446744073709551616) (w : World) :
    Calls Try.prog 67 #[.float .f64 a] w fun e w' => e = .returned (.tuple #[.bool (sgn a), .int .i64 (expo a), .int .u64 (frc a)]) ∧ w' = w := by
  have fa := run_fbits a
  go_enter Try.func67, Try.ntmps67
  go_wp2
  go_ret3
  exact ⟨end_bii (sgn_div ha) expo_int frc_int, rfl⟩

def kindF (a : Nat) : Int := if expo a = 2047 then (if frc a = 0 then 3 else 4) else if expo a = 0 then (if frc a = 0 then 0 else 1) else 2
theorem kind_nan {a : Nat} (ha : a < 18446744073709551616) : (kindF a == 4) = nanB a := by
  have h1 := rung_ef ha
  have h2 := expo_lt a
  have h3 := frc_lt a
  unfold kindF nanB
  rw [Bool.eq_iff_iff]
  simp only [beq_iff_eq, decide_eq_true_eq]
  (repeat' split) <;> omega
theorem kind_fin {a : Nat} (ha : a < 18446744073709551616) : decide (kindF a < 3) = finB a := by
  have h1 := rung_ef ha
  have h2 := expo_lt a
  have h3 := frc_lt a
  unfold kindF finB
  rw [decide_eq_decide]
  (repeat' split) <;> omega

set_option maxHeartbeats 400000 in
theorem rkind_any (a : Nat) (ha : a < 18446744073709551616) (w : World) :
    Calls Try.prog 66 #[.float .f64 a] w fun e w' => e = .returned (.int .i64 (kindF a)) ∧ w' = w := by
  have he := expo_lt a
  by_cases h1 : expo a = 2047
  · have b1 : ((expo a : Int) == 2047) = true := by simp; omega
    by_cases h2 : frc a = 0
    · have b2 : ((frc a : Int) != 0) = false := by simp; omega
      have HE : Hid (kindF a = 3) := (show kindF a = 3 by unfold kindF; rw [if_pos h1, if_pos h2])
      clear h1 h2
      go_enter Try.func66, Try.ntmps66
      go_wp2_with (go_at_call 67; refine (fields_any _ (by assumption) _).mono ?_; rintro e w' ⟨rfl, rfl⟩)
      go_ret
      exact ⟨end_int HE.out.symm, rfl⟩
    · have b2 : ((frc a : Int) != 0) = true := by simp; omega
      have HE : Hid (kindF a = 4) := (show kindF a = 4 by unfold kindF; rw [if_pos h1, if_neg h2])
      clear h1 h2
      go_enter Try.func66, Try.ntmps66
      go_wp2_with (go_at_call 67; refine (fields_any _ (by assumption) _).mono ?_; rintro e w' ⟨rfl, rfl⟩)
      go_ret
      exact ⟨end_int HE.out.symm, rfl⟩
  · have b1 : ((expo a : Int) == 2047) = false := by simp; omega
    by_cases h3 : expo a = 0
    · have b3 : ¬ (0 < (expo a : Int)) := by omega
      by_cases h2 : frc a = 0
      · have b2 : ((frc a : Int) != 0) = false := by simp; omega
        have HE : Hid (kindF a = 0) := (show kindF a = 0 by unfold kindF; rw [if_neg h1, if_pos h3, if_pos h2])
        clear h1 h2 h3
        go_enter Try.func66, Try.ntmps66
        go_wp2_with (go_at_call 67; refine (fields_any _ (by assumption) _).mono ?_; rintro e w' ⟨rfl, rfl⟩)
        go_ret
        exact ⟨end_int HE.out.symm, rfl⟩
      · have b2 : ((frc a : Int) != 0) = true := by simp; omega
        have HE : Hid (kindF a = 1) := (show kindF a = 1 by unfold kindF; rw [if_neg h1, if_pos h3, if_neg h2])
        clear h1 h2 h3
        go_enter Try.func66, Try.ntmps66
        go_wp2_with (go_at_call 67; refine (fields_any _ (by assumption) _).mono ?_; rintro e w' ⟨rfl, rfl⟩)
        go_ret
        exact ⟨end_int HE.out.symm, rfl⟩
    · have b3 : (0 < (expo a : Int)) := by omega
      have HE : Hid (kindF a = 2) := (show kindF a = 2 by unfold kindF; rw [if_neg h1, if_neg h3])
      clear h1 h3
      go_enter Try.func66, Try.ntmps66
      go_wp2_with (go_at_call 67; refine (fields_any _ (by assumption) _).mono ?_; rintro e w' ⟨rfl, rfl⟩)
      go_ret
      exact ⟨end_int HE.out.symm, rfl⟩

set_option maxHeartbeats 400000 in
theorem rnan_any (a : Nat) (ha : a < 18446744073709551616) (w : World) :
    Calls Try.prog 62 #[.float .f64 a] w fun e w' => e = .returned (.bool (nanB a)) ∧ w' = w := by
  go_enter Try.func62, Try.ntmps62
  go_wp2_with (go_at_call 66; refine (rkind_any _ (by assumption) _).mono ?_; rintro e w' ⟨rfl, rfl⟩)
  go_ret
  exact ⟨end_bool (kind_nan ha), rfl⟩

set_option maxHeartbeats 400000 in
theorem rsame_any (a b : Nat) (ha : a < 18446744073709551616) (hb : b < 18446744073709551616) (w : World) :
    Calls Try.prog 48 #[.float .f64 a, .float .f64 b] w fun e w' => e = .returned (.bool (sameB a b)) ∧ w' = w := by
  have fa := run_fbits a
  have fb := run_fbits b
  by_cases h : a = b
  · have b1 : ((a : Int) == (b : Int)) = true := by simp; omega
    have HE : Hid (sameB a b = true) := (show sameB a b = true by unfold sameB; subst h; cases nanB a <;> simp)
    clear h
    go_enter Try.func48, Try.ntmps48
    go_wp2_with (first | (go_at_call 62; refine (rnan_any _ (by assumption) _).mono ?_; rintro e w' ⟨rfl, rfl⟩))
    go_ret
    exact ⟨end_bool HE.out.symm, rfl⟩
  · have b1 : ((a : Int) == (b : Int)) = false := by simp; omega
    have HE : Hid (sameB a b = (nanB a && nanB b)) := (show sameB a b = (nanB a && nanB b) by unfold sameB; cases nanB a <;> simp [h])
    clear h
    cases na : nanB a
    all_goals
      go_enter Try.func48, Try.ntmps48
      go_wp2_with (first | (go_at_call 62; refine (rnan_any _ (by assumption) _).mono ?_; rintro e w' ⟨rfl, rfl⟩))
      go_ret
      exact ⟨end_bool (by rw [HE.out, na]; rfl), rfl⟩
end Go.Proofs.Ytbnjjoaippoinaa
