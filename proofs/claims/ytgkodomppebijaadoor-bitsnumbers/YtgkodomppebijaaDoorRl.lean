/- What Kind and Ulp answer, and the document's Ulp and Next. -/
import Derived.Test.YtgkodomppebijaaDoorRk
namespace Go.Proofs.YtgkodomppebijaaDoor
open Go.RowKit

theorem place_of_small {r : Nat} (h : r < 9223372036854775808) : place r = r := place_small h
theorem nan_rung (a : Nat) : nanB (rung a) = nanB a := by unfold nanB; rw [rung_rung]
theorem gt_max {a : Nat} (na : nanB a = false) : (FloatKind.f64.format.order (rung a) 9218868437227405311 == some .gt) = decide (9218868437227405312 ≤ rung a) := by
  have hr := rung_lt a
  rw [gt_num (by omega) (by omega) (by rw [nan_rung]; exact na) (nan_small (by omega)), place_small hr, place_small (by omega), decide_eq_decide]
  omega
theorem ge_norm {a : Nat} (na : nanB a = false) : (FloatKind.f64.format.order (rung a) 4503599627370496 == some .gt || FloatKind.f64.format.order (rung a) 4503599627370496 == some .eq) = decide (4503599627370496 ≤ rung a) := by
  have hr := rung_lt a
  rw [gt_num (by omega) (by omega) (by rw [nan_rung]; exact na) (nan_small (by omega)), eq_num (by omega) (by omega) (by rw [nan_rung]; exact na) (nan_small (by omega)), place_small hr, place_small (by omega), Bool.eq_iff_iff]
  simp; omega
theorem gt_zero {a : Nat} (na : nanB a = false) : (FloatKind.f64.format.order (rung a) 0 == some .gt) = decide (0 < rung a) := by
  have hr := rung_lt a
  rw [gt_num (by omega) (by omega) (by rw [nan_rung]; exact na) (nan_small (by omega)), place_small hr, place_small (by omega), decide_eq_decide]
  omega
theorem pw_norm : pw (-1022) = 4503599627370496 := by decide
theorem kind_num {a : Nat} (ha : a < 18446744073709551616) (na : nanB a = false) : kindF a = if 9218868437227405312 ≤ rung a then 3 else if 4503599627370496 ≤ rung a then 2 else if 0 < rung a then 1 else 0 := by
  have h1 := rung_ef ha
  have h2 := expo_lt a
  have h3 := frc_lt a
  have h4 : ¬ 9218868437227405312 < rung a := by unfold nanB at na; simpa using na
  unfold kindF
  (repeat' split) <;> omega
theorem kind_isnan {a : Nat} (ha : a < 18446744073709551616) (na : nanB a = true) : kindF a = 4 := by
  have := kind_nan ha
  rw [na] at this
  simpa using this

set_option maxHeartbeats 400000 in
theorem kind_any (a : Nat) (ha : a < 18446744073709551616) (w : World) :
    Calls Tryd.prog 21 #[.float .f64 a] w fun e w' => e = .returned (.int .i64 (kindF a)) ∧ w' = w := by
  cases na : nanB a
  · have hk := kind_num ha na
    have g1 := gt_max na
    have g2 := ge_norm na
    have g3 := gt_zero na
    have hpw := pw_norm
    by_cases c1 : 9218868437227405312 ≤ rung a
    · rw [if_pos c1] at hk
      rw [decide_eq_true c1] at g1
      have HE : Hid (kindF a = 3) := hk
      clear hk g2 g3 c1
      go_enter Tryd.func21, Tryd.ntmps21
      go_wp2_with (first | (go_at_call 37; refine (abs_any _ (by assumption) _).mono ?_; rintro e w' ⟨rfl, rfl⟩) | (go_at_call 44; refine (isnan_any _ (by assumption) _).mono ?_; rintro e w' ⟨rfl, rfl⟩))
      go_ret
      exact ⟨end_int HE.out.symm, rfl⟩
    · rw [if_neg c1] at hk
      rw [decide_eq_false c1] at g1
      by_cases c2 : 4503599627370496 ≤ rung a
      · rw [if_pos c2] at hk
        rw [decide_eq_true c2] at g2
        have HE : Hid (kindF a = 2) := hk
        clear hk g3 c1 c2
        go_enter Tryd.func21, Tryd.ntmps21
        go_wp2_with (first | (go_at_call 37; refine (abs_any _ (by assumption) _).mono ?_; rintro e w' ⟨rfl, rfl⟩) | (go_at_call 44; refine (isnan_any _ (by assumption) _).mono ?_; rintro e w' ⟨rfl, rfl⟩) | (go_at_call 42; refine (power_any _ (by omega) (by omega) _).mono ?_; rintro e w' ⟨rfl, rfl⟩))
        go_ret
        exact ⟨end_int HE.out.symm, rfl⟩
      · rw [if_neg c2] at hk
        rw [decide_eq_false c2] at g2
        by_cases c3 : 0 < rung a
        · rw [if_pos c3] at hk
          rw [decide_eq_true c3] at g3
          have HE : Hid (kindF a = 1) := hk
          clear hk c1 c2 c3
          go_enter Tryd.func21, Tryd.ntmps21
          go_wp2_with (first | (go_at_call 37; refine (abs_any _ (by assumption) _).mono ?_; rintro e w' ⟨rfl, rfl⟩) | (go_at_call 44; refine (isnan_any _ (by assumption) _).mono ?_; rintro e w' ⟨rfl, rfl⟩) | (go_at_call 42; refine (power_any _ (by omega) (by omega) _).mono ?_; rintro e w' ⟨rfl, rfl⟩))
          go_ret
          exact ⟨end_int HE.out.symm, rfl⟩
        · rw [if_neg c3] at hk
          rw [decide_eq_false c3] at g3
          have HE : Hid (kindF a = 0) := hk
          clear hk c1 c2 c3
          go_enter Tryd.func21, Tryd.ntmps21
          go_wp2_with (first | (go_at_call 37; refine (abs_any _ (by assumption) _).mono ?_; rintro e w' ⟨rfl, rfl⟩) | (go_at_call 44; refine (isnan_any _ (by assumption) _).mono ?_; rintro e w' ⟨rfl, rfl⟩) | (go_at_call 42; refine (power_any _ (by omega) (by omega) _).mono ?_; rintro e w' ⟨rfl, rfl⟩))
          go_ret
          exact ⟨end_int HE.out.symm, rfl⟩
  · have HE : Hid (kindF a = 4) := kind_isnan ha na
    go_enter Tryd.func21, Tryd.ntmps21
    go_wp2_with (first | (go_at_call 37; refine (abs_any _ (by assumption) _).mono ?_; rintro e w' ⟨rfl, rfl⟩) | (go_at_call 44; refine (isnan_any _ (by assumption) _).mono ?_; rintro e w' ⟨rfl, rfl⟩))
    go_ret
    exact ⟨end_int HE.out.symm, rfl⟩

def ulpF (a : Nat) : Nat := if finB a then pw ((up (rung a) : Int) - 1074) else 0

set_option maxHeartbeats 400000 in
theorem ulp_any (a : Nat) (ha : a < 18446744073709551616) (w : World) :
    Calls Tryd.prog 14 #[.float .f64 a] w fun e w' => e = .returned (.tuple #[.float .f64 (ulpF a), .bool (finB a)]) ∧ w' = w := by
  have fa := run_fbits a
  cases hf : finB a
  · have HE : Hid (ulpF a = 0) := (show ulpF a = 0 by unfold ulpF; rw [hf]; rfl)
    go_enter Tryd.func14, Tryd.ntmps14
    go_wp2_with (first | (go_at_call 41; refine (finite_any _ (by assumption) _).mono ?_; rintro e w' ⟨rfl, rfl⟩))
    go_ret2
    exact ⟨end_fb HE.out.symm rfl, rfl⟩
  · have HE : Hid (ulpF a = pw ((up (rung a) : Int) - 1074)) := (show ulpF a = _ by unfold ulpF; rw [hf]; rfl)
    have hu := up_lt hf
    go_enter Tryd.func14, Tryd.ntmps14
    go_wp2_with (first | (go_at_call 41; refine (finite_any _ (by assumption) _).mono ?_; rintro e w' ⟨rfl, rfl⟩) | (go_at_call 43; refine (lastBit_any _ (by assumption) _).mono ?_; rintro e w' ⟨rfl, rfl⟩) | (go_at_call 42; refine (power_any _ (by omega) (by omega) _).mono ?_; rintro e w' ⟨rfl, rfl⟩))
    go_ret2
    exact ⟨end_fb HE.out.symm rfl, rfl⟩

theorem join_one {E : Int} (h1 : -1074 ≤ E) (h2 : E ≤ 1023) : okP 1 E = true ∧ joinF false 1 E = pw E := by
  have hl : Nat.log2 1 = 0 := by decide
  have hj : jR 1 E = pw E := by
    unfold jR jU jM pw
    rw [hl]
    by_cases hc : E < -1022
    · rw [if_pos hc, if_neg (by omega), if_neg (by omega)]; omega
    · rw [if_neg hc, if_pos (by omega), if_pos (by omega)]
      rw [show 1 * 2 ^ (52 - 0) = 4503599627370496 from rfl]
      omega
  have hp := (pw_ok h1 h2).1
  have hk : okP 1 E = true := by unfold okP; rw [if_neg (by omega)]; simp; omega
  refine ⟨hk, ?_⟩
  unfold joinF valR
  rw [hk]
  simp only [if_true, Bool.false_eq_true, if_false]
  rw [if_neg (by omega)]
  exact hj

set_option maxHeartbeats 400000 in
theorem rulp_any (a : Nat) (ha : a < 18446744073709551616) (w : World) :
    Calls Tryd.prog 27 #[.float .f64 a] w fun e w' => e = .returned (.tuple #[.float .f64 (ulpF a), .bool (finB a)]) ∧ Below w.heap.size w w' := by
  cases hf : finB a
  · have HE : Hid (ulpF a = 0) := (show ulpF a = 0 by unfold ulpF; rw [hf]; rfl)
    go_enter Tryd.func27, Tryd.ntmps27
    go_wp2_with (first | (go_at_call 48; refine (rfinite_any _ (by assumption) _).mono ?_; rintro e w' ⟨rfl, rfl⟩))
    go_ret2
    exact ⟨end_fb HE.out.symm rfl, Below.refl _ _⟩
  · have HE : Hid (ulpF a = pw ((up (rung a) : Int) - 1074)) := (show ulpF a = _ by unfold ulpF; rw [hf]; rfl)
    have hu := up_lt hf
    have hx := expo_rung ha
    have hl := expo_lt a
    by_cases h1 : 1 < expo a
    · have hup : (up (rung a) : Int) = expo a - 1 := by rw [hx]; unfold up; rw [if_neg (by omega)]; omega
      have hj := (join_one (E := (expo a : Int) - 1075) (by omega) (by omega))
      obtain ⟨hk, hj⟩ := hj
      have HJ : Hid (joinF false 1 ((expo a : Int) - 1075) = ulpF a) := (show _ = _ by rw [hj, HE.out, hup]; exact congrArg pw (by omega))
      have h2 : (1 : Int) < (expo a : Int) := by omega
      clear hj hx hup h1
      go_enter Tryd.func27, Tryd.ntmps27
      go_wp2_with (first | (go_at_call 48; refine (rfinite_any _ (by assumption) _).mono ?_; rintro e w' ⟨rfl, rfl⟩) | (go_at_call 49; refine (fields_any _ (by assumption) _).mono ?_; rintro e w' ⟨rfl, rfl⟩) | (go_at_call 30; refine (rjoin_any false 1 _ _).mono ?_; rintro e w1 ⟨rfl, hb1⟩))
      go_ret2
      exact ⟨end_fb HJ.out rfl, ((Below.refl _ _).alloc (Nat.le_refl _) _).trans (hb1.mono (by simp))⟩
    · have hup : (up (rung a) : Int) = 0 := by unfold up; split <;> omega
      obtain ⟨hk, hj⟩ := (join_one (E := -1074) (by omega) (by omega))
      have HJ : Hid (joinF false 1 (-1074) = ulpF a) := (show _ = _ by rw [hj, HE.out, hup]; rfl)
      have h2 : ¬ (1 : Int) < (expo a : Int) := by omega
      clear hj hx hup h1
      go_enter Tryd.func27, Tryd.ntmps27
      go_wp2_with (first | (go_at_call 48; refine (rfinite_any _ (by assumption) _).mono ?_; rintro e w' ⟨rfl, rfl⟩) | (go_at_call 49; refine (fields_any _ (by assumption) _).mono ?_; rintro e w' ⟨rfl, rfl⟩) | (go_at_call 30; refine (rjoin_any false 1 _ _).mono ?_; rintro e w1 ⟨rfl, hb1⟩))
      go_ret2
      exact ⟨end_fb HJ.out rfl, ((Below.refl _ _).alloc (Nat.le_refl _) _).trans (hb1.mono (by simp))⟩
end Go.Proofs.YtgkodomppebijaaDoor
