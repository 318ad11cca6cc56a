/- What Copysign, and round's and the document's small functions (finite, sign, step, nought, sum; Finite, sign, up, down, side, great, nought), answer, call by call. -/
import Derived.Test.YtclldmdhpojciaaSb
import Derived.Test.YtclldmdhpojciaaWb
namespace Go.Proofs.Ytclldmdhpojciaa
open Go.RowKit

theorem or_none {r : Nat} (h : r < 9223372036854775808) : bits .or .u64 (r : Int) 0 = (r : Int) := by
  have h1 := u64_or_nat r 0 (by omega) (by omega)
  rw [show ((0 : Nat) : Int) = 0 from rfl] at h1
  rw [h1, Nat.or_zero]
theorem or_sgn {r : Nat} (s : Nat) (h : r < 9223372036854775808) : (bits .or .u64 (r : Int) (if sgn s then 9223372036854775808 else 0)).toNat = r + (if sgn s then 9223372036854775808 else 0) := by
  cases sgn s
  · simp only [Bool.false_eq_true, if_false]
    have : bits .or .u64 (r : Int) 0 = (r : Int) := or_none h
    rw [this]; omega
  · simp only [if_true]
    have h1 := or_sign h
    have h2 : bits .or .u64 (r : Int) 9223372036854775808 = bits .or .u64 9223372036854775808 (r : Int) := by
      unfold bits
      simp [BitVec.or_comm]
    rw [h2, h1]; omega
set_option maxHeartbeats 400000 in
theorem copysign_any (f s : Nat) (hf : f < 18446744073709551616) (hs : s < 18446744073709551616) (w : World) :
    Calls Try.prog 12 #[.float .f64 f, .float .f64 s] w fun e w' => e = .returned (.float .f64 (cpy f s)) ∧ w' = w := by
  have fa := run_fbits f
  have fs := run_fbits s
  have ff := run_ffrom
  go_enter Try.func12, Try.ntmps12
  go_wp2
  go_ret
  exact ⟨end_flt (by rw [andNot_sign f hf, and_sign s hs]; exact or_sgn s (rung_lt f)), rfl⟩

theorem zero_lt {x : Nat} (hx : x < 18446744073709551616) : (FloatKind.f64.format.order x 0 == some .lt) = (!nanB x && decide (place x < 0)) := by
  cases hn : nanB x
  · rw [lt_num hx (by omega) hn (nan_small (by omega))]; rfl
  · rw [ord_nan hx (by omega) (Or.inl hn)]; rfl
theorem zero_gt {x : Nat} (hx : x < 18446744073709551616) : (FloatKind.f64.format.order x 0 == some .gt) = (!nanB x && decide (0 < place x)) := by
  cases hn : nanB x
  · rw [gt_num hx (by omega) hn (nan_small (by omega))]; rfl
  · rw [ord_nan hx (by omega) (Or.inl hn)]; rfl
theorem zero_eq {x : Nat} (hx : x < 18446744073709551616) : (FloatKind.f64.format.order x 0 == some .eq) = (rung x == 0) := by
  cases hn : nanB x
  · rw [eq_num hx (by omega) hn (nan_small (by omega)), show place 0 = 0 from rfl]
    unfold place
    by_cases h : rung x = 0
    · rw [h]; cases sgn x <;> rfl
    · have h1 : (rung x == 0) = false := by simpa using h
      rw [h1, decide_eq_false]
      split <;> omega
  · rw [ord_nan hx (by omega) (Or.inl hn)]
    have h : rung x ≠ 0 := by unfold nanB at hn; simp at hn; omega
    have h1 : (rung x == 0) = false := by simpa using h
    rw [h1]; rfl
theorem zero_ne {x : Nat} (hx : x < 18446744073709551616) : (FloatKind.f64.format.order x 0 != some .eq) = (rung x != 0) := by
  have h := zero_eq hx
  unfold bne
  rw [h]
/-- A float converted to its own type. -/
theorem conv64 (b : Nat) (w : World) : (convert 29 29 (.float .f64 b)).run Try.prog w = .ok (.float .f64 b) w := by
  simp [convert, run_underlying Try.underlying29, Result.andThen]
  rfl
theorem nextF_lt {x : Nat} (b : Bool) (hx : x < 18446744073709551616) : nextF x b < 18446744073709551616 := by
  unfold nextF
  split
  · exact hx
  · exact atF_lt _
end Go.Proofs.Ytclldmdhpojciaa
