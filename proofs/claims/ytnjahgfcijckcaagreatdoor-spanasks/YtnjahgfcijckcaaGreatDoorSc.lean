/- What Copysign, and round's and the document's small functions (finite, sign, step, nought, sum; Finite, sign, up, down, side, great, nought), answer, call by call. -/
import Derived.Test.YtnjahgfcijckcaaGreatDoorSb
import Derived.Test.YtnjahgfcijckcaaGreatDoorK1
namespace Go.Proofs.YtnjahgfcijckcaaGreatDoor
open Go.RowKit

theorem or_none {r : Nat} (h : r < 9223372036854775808) : bits .or .u64 (r : Int) 0 = (r : Int) := by
  have h1 := u64_or_nat r 0 (by omega) (by omega)
  rw [show ((0 : Nat) : Int) = 0 from rfl] at h1
  rw [h1, Nat.or_zero]
theorem or_sgn {r : Nat} (s : Nat) (h : r < 9223372036854775808) : (bits .or .u64 (r : Int) (if sgn s then 9223372036854775808 else 0)).toNat = r + (if sgn s then 9223372036854775808 else 0) := by
  cases sgn s
  · simp only [Bool.false_eq_true, if_false]
    have : bits .or .u64 (r : Int) 0 = (r : Int) := or_none h
    rw [this]; omega
  · simp only [if_true]
    have h1 := or_sign h
    have h2 : bits .or .u64 (r : Int) 9223372036854775808 = bits .or .u64 9223372036854775808 (r : Int) := by
      unfold bits
      simp [BitVec.or_comm]
    rw [h2, h1]; omega
set_option maxHeartbeats 400000 in
theorem copysign_any (f s : Nat) (hf : f < 18446744073709551616) (hs : s < 18446744073709551616) (w : World) :
    Calls Tryz.prog 124 #[.float .f64 f, .float .f64 s] w fun e w' => e = .returned (.float .f64 (cpy f s)) ∧ w' = w := by
  have fa := run_fbits f
  have fs := run_fbits s
  have ff := run_ffrom
  go_enter Tryz.func124, Tryz.ntmps124
  go_wp2
  go_ret
  exact ⟨end_flt (by rw [andNot_sign f hf, and_sign s hs]; exact or_sgn s (rung_lt f)), rfl⟩

theorem zero_lt {x : Nat} (hx : x < 18446744073709551616) : (FloatKind.f64.format.order x 0 == some .lt) = (!nanB x && decide (place x < 0)) := by
  cases hn : nanB x
  · rw [lt_num hx (by omega) hn (nan_small (by omega))]; rfl
  · rw [ord_nan hx (by omega) (Or.inl hn)]; rfl
theorem zero_gt {x : Nat} (hx : x < 18446744073709551616) : (FloatKind.f64.format.order x 0 == some .gt) = (!nanB x && decide (0 < place x)) := by
  cases hn : nanB x
  · rw [gt_num hx (by omega) hn (nan_small (by omega))]; rfl
  · rw [ord_nan hx (by omega) (Or.inl hn)]; rfl
theorem zero_eq {x : Nat} (hx : x < 18446744073709551616) : (FloatKind.f64.format.order x 0 == some .eq) = (rung x == 0) := by
  cases hn : nanB x
  · rw [eq_num hx (by omega) hn (nan_small (by omega)), show place 0 = 0 from rfl]
    unfold place
    by_cases h : rung x = 0
    · rw [h]; cases sgn x <;> rfl
    · have h1 : (rung x == 0) = false := by simpa using h
      rw [h1, decide_eq_false]
      split <;> omega
  · rw [ord_nan hx (by omega) (Or.inl hn)]
    have h : rung x ≠ 0 := by unfold nanB at hn; simp at hn; omega
    have h1 : (rung x == 0) = false := by simpa using h
    rw [h1]; rfl
theorem zero_ne {x : Nat} (hx : x < 18446744073709551616) : (FloatKind.f64.format.order x 0 != some .eq) = (rung x != 0) := by
  have h := zero_eq hx
  unfold bne
  rw [h]
/-- A float converted to its own type. -/
theorem conv64 (b : Nat) (w : World) : (convert 22 22 (.float .f64 b)).run Tryz.prog w = .ok (.float .f64 b) w := by
  simp [convert, run_underlying Tryz.underlying22, Result.andThen]
  rfl
set_option maxHeartbeats 400000 in
theorem rofin_any (a : Nat) (ha : a < 18446744073709551616) (w : World) :
    Calls Tryz.prog 93 #[.float .f64 a] w fun e w' => e = .returned (.bool (finB a)) ∧ w' = w := by
  go_enter Tryz.func93, Tryz.ntmps93
  go_wp2_with (go_at_call 62; refine (abs_any _ (by assumption) _).mono ?_; rintro e w' ⟨rfl, rfl⟩)
  go_ret
  exact ⟨end_bool (fin_le a), rfl⟩
set_option maxHeartbeats 400000 in
theorem rsign_any (x : Nat) (hx : x < 18446744073709551616) (w : World) :
    Calls Tryz.prog 96 #[.float .f64 x] w fun e w' => e = .returned (.int .i64 (signF x)) ∧ w' = w := by
  have h1 := zero_lt hx
  have h2 := zero_gt hx
  have HE : Hid (signF x = if (!nanB x && decide (place x < 0)) then -1 else if (!nanB x && decide (0 < place x)) then 1 else 0) := by
    show _ = _
    unfold signF
    cases nanB x <;> simp
  cases g1 : (!nanB x && decide (place x < 0)) <;> cases g2 : (!nanB x && decide (0 < place x)) <;> rw [g1] at h1 <;> rw [g2] at h2 <;>
    (go_enter Tryz.func96, Tryz.ntmps96
     go_wp2
     go_ret
     exact ⟨end_int (by rw [HE.out, g1, g2]; rfl), rfl⟩)
set_option maxHeartbeats 400000 in
theorem dsign_any (x : Nat) (hx : x < 18446744073709551616) (w : World) :
    Calls Tryz.prog 101 #[.float .f64 x] w fun e w' => e = .returned (.int .i64 (signF x)) ∧ w' = w := by
  have h1 := zero_lt hx
  have h2 := zero_gt hx
  have HE : Hid (signF x = if (!nanB x && decide (place x < 0)) then -1 else if (!nanB x && decide (0 < place x)) then 1 else 0) := by
    show _ = _
    unfold signF
    cases nanB x <;> simp
  cases g1 : (!nanB x && decide (place x < 0)) <;> cases g2 : (!nanB x && decide (0 < place x)) <;> rw [g1] at h1 <;> rw [g2] at h2 <;>
    (go_enter Tryz.func101, Tryz.ntmps101
     go_wp2
     go_ret
     exact ⟨end_int (by rw [HE.out, g1, g2]; rfl), rfl⟩)
theorem nextF_lt {x : Nat} (b : Bool) (hx : x < 18446744073709551616) : nextF x b < 18446744073709551616 := by
  unfold nextF
  split
  · exact hx
  · exact atF_lt _
set_option maxHeartbeats 1000000 in
theorem step_any (x : Nat) (r m : Int) (hx : x < 18446744073709551616) (w : World) :
    Calls Tryz.prog 95 #[.float .f64 x, .int .i64 r, .int .i8 m] w fun e w' => e = .returned (.float .f64 (stepF x r m)) ∧ w' = w := by
  have HE : Hid (stepF x r m = if (dnB m (sgn x) && decide (r < 0)) || (upB m (sgn x) && decide (0 < r)) then cpy (nextF x (decide (0 < r))) x else x) := rfl
  cases e1 : (m == 1) <;> cases e2 : (m == 2) <;> cases e3 : (m == 3) <;> cases hs : sgn x <;> by_cases h1 : r < 0 <;> by_cases h2 : 0 < r <;>
    first
    | (exfalso; simp at e1 e2 e3; omega)
    | (go_enter Tryz.func95, Tryz.ntmps95
       go_wp2_with (first
        | (go_at_call 76; refine (signbit_any _ (by assumption) _).mono ?_; rintro e w' ⟨rfl, rfl⟩)
        | (go_at_call 125; refine (next_any _ _ (by assumption) _).mono ?_; rintro e w' ⟨rfl, rfl⟩)
        | (go_at_call 124; refine (copysign_any _ _ (nextF_lt _ (by assumption)) (by assumption) _).mono ?_; rintro e w' ⟨rfl, rfl⟩))
       go_ret
       exact ⟨end_flt (by rw [HE.out]; unfold dnB upB; simp [e1, e2, e3, hs, h1, h2]; try (intro _; omega)), rfl⟩)
end Go.Proofs.YtnjahgfcijckcaaGreatDoor
