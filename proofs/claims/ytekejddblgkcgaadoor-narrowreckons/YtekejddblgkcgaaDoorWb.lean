/- What Abs, finite, exponent, lastBit, TrailingZeros64, At, Next, Inf and Split answer, call by call. -/
import Derived.Test.YtekejddblgkcgaaDoorWa
import Derived.Test.YtekejddblgkcgaaDoorZf
namespace Go.Proofs.YtekejddblgkcgaaDoor
open Go.RowKit

set_option maxHeartbeats 400000 in
theorem abs_any (a : Nat) (ha : a < 18446744073709551616) (w : World) :
    Calls Tryd.prog 63 #[.float .f64 a] w fun e w' => e = .returned (.float .f64 (rung a)) ∧ w' = w := by
  have fa := run_fbits a
  have ff := run_ffrom
  go_enter Tryd.func63, Tryd.ntmps63
  go_wp2
  go_ret
  exact ⟨end_flt (by rw [andNot_sign a ha]; rfl), rfl⟩

set_option maxHeartbeats 400000 in
theorem finite_any (a : Nat) (ha : a < 18446744073709551616) (w : World) :
    Calls Tryd.prog 81 #[.float .f64 a] w fun e w' => e = .returned (.bool (finB a)) ∧ w' = w := by
  go_enter Tryd.func81, Tryd.ntmps81
  go_wp2_with (go_at_call 63; refine (abs_any _ (by assumption) _).mono ?_; rintro e w' ⟨rfl, rfl⟩)
  go_ret
  exact ⟨end_bool (fin_le a), rfl⟩

set_option maxHeartbeats 400000 in
theorem exponent_any (a : Nat) (ha : a < 18446744073709551616) (w : World) :
    Calls Tryd.prog 83 #[.int .u64 a] w fun e w' => e = .returned (.int .i64 (expo a)) ∧ w' = w := by
  go_enter Tryd.func83, Tryd.ntmps83
  go_wp2
  go_ret
  exact ⟨end_int (expo_wrap ha), rfl⟩

set_option maxHeartbeats 400000 in
theorem lastBit_any (a : Nat) (ha : a < 18446744073709551616) (w : World) :
    Calls Tryd.prog 82 #[.int .u64 a] w fun e w' => e = .returned (.int .i64 ((up (rung a) : Int) - 1074)) ∧ w' = w := by
  have he : expo a < 2048 := by unfold expo; omega
  go_enter Tryd.func82, Tryd.ntmps82
  go_wp2_with (go_at_call 83; refine (exponent_any _ (by assumption) _).mono ?_; rintro e w' ⟨rfl, rfl⟩)
  · go_ret
    exact ⟨end_int (by rw [lastBit_up ha, if_pos (by assumption)]; rfl), rfl⟩
  · go_ret
    exact ⟨end_int (by rw [lastBit_up ha, if_neg (by omega)]; omega), rfl⟩

set_option maxHeartbeats 400000 in
theorem at_any (p : Int) (h1 : -9223372036854775808 ≤ p) (h2 : p ≤ 9223372036854775807) (w : World) :
    Calls Tryd.prog 71 #[.int .i64 p] w fun e w' => e = .returned (.tuple #[.float .f64 (atF p), .bool (atB p)]) ∧ w' = w := by
  have ff := run_ffrom
  go_enter Tryd.func71, Tryd.ntmps71
  go_wp2
  · rename_i h
    go_ret2
    exact ⟨end_fb (at_out h) (atB_out h).symm, rfl⟩
  · rename_i h g
    go_ret2
    exact ⟨end_fb (at_neg (by omega)) (atB_in h).symm, rfl⟩
  · rename_i h g
    go_ret2
    exact ⟨end_fb (at_pos (by omega)) (atB_in h).symm, rfl⟩
  · rename_i h
    go_ret2
    exact ⟨end_fb (at_out (Or.inl h)) (atB_out (Or.inl h)).symm, rfl⟩

set_option maxHeartbeats 400000 in
theorem next_any (a : Nat) (up : Bool) (ha : a < 18446744073709551616) (w : World) :
    Calls Tryd.prog 64 #[.float .f64 a, .bool up] w fun e w' => e = .returned (.float .f64 (nextF a up)) ∧ w' = w := by
  cases na : nanB a
  · have hb := place_nan na
    have HP : Hid (plc a = place a) := (show plc a = place a by unfold plc; rw [na]; rfl)
    have hp : -9218868437227405312 ≤ plc a ∧ plc a ≤ 9218868437227405312 := by rw [HP.out]; exact hb
    clear hb
    cases up
    · have HE : Hid (nextF a false = atF (max (plc a - 1) (-9218868437227405312))) := (show nextF a false = atF (max (plc a - 1) (-9218868437227405312)) by unfold nextF; rw [na, HP.out]; rfl)
      go_enter Tryd.func64, Tryd.ntmps64
      go_wp2_with (first | (go_at_call 70; refine (place_any _ (by assumption) _).mono ?_; rintro e w' ⟨rfl, rfl⟩) | (go_at_call 71; refine (at_any _ (by omega) (by omega) _).mono ?_; rintro e w' ⟨rfl, rfl⟩))
      · go_ret
        exact ⟨end_flt (by rw [HE.out]; exact congrArg atF (by omega)), rfl⟩
      · go_ret
        exact ⟨end_flt (by rw [HE.out]; exact congrArg atF (by omega)), rfl⟩
    · have HE : Hid (nextF a true = atF (min (plc a + 1) 9218868437227405312)) := (show nextF a true = atF (min (plc a + 1) 9218868437227405312) by unfold nextF; rw [na, HP.out]; rfl)
      go_enter Tryd.func64, Tryd.ntmps64
      go_wp2_with (first | (go_at_call 70; refine (place_any _ (by assumption) _).mono ?_; rintro e w' ⟨rfl, rfl⟩) | (go_at_call 71; refine (at_any _ (by omega) (by omega) _).mono ?_; rintro e w' ⟨rfl, rfl⟩))
      · go_ret
        exact ⟨end_flt (by rw [HE.out]; exact congrArg atF (by omega)), rfl⟩
      · go_ret
        exact ⟨end_flt (by rw [HE.out]; exact congrArg atF (by omega)), rfl⟩
  · have HE : Hid (nextF a up = a) := (show nextF a up = a by unfold nextF; rw [na]; rfl)
    go_enter Tryd.func64, Tryd.ntmps64
    go_wp2_with (first | (go_at_call 70; refine (place_any _ (by assumption) _).mono ?_; rintro e w' ⟨rfl, rfl⟩))
    go_ret
    exact ⟨end_flt HE.out.symm, rfl⟩

set_option maxHeartbeats 400000 in
theorem inf_any (w : World) :
    Calls Tryd.prog 48 #[.int .i64 1] w fun e w' => e = .returned (.float .f64 9218868437227405312) ∧ w' = w := by
  have ff := run_ffrom
  go_enter Tryd.func48, Tryd.ntmps48
  go_wp2
  go_ret
  exact ⟨rfl, rfl⟩
end Go.Proofs.YtekejddblgkcgaaDoor
