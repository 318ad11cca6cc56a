/- What the document's answer for sums (Finite, up, down, side, great, nought, Add) tells. -/
import Derived.Test.YtlhoidkfphellaaGreatDoorZi
namespace Go.Proofs.YtlhoidkfphellaaGreatDoor
open Go.RowKit

set_option maxHeartbeats 400000 in
theorem dfin_yes (a : Nat) (ha : a < 18446744073709551616) (hf : finB a = true) (w : World) :
    Calls Tryz.prog 26 #[.float .f64 a] w fun e w' => e = .returned (.bool true) ∧ w' = w := by
  have hm := fun w => run_float_arith (P := Tryz.prog) w .sub 26 .f64 _ _ _ (sub_self ha hf)
  have ho : (FloatKind.f64.format.order 0 0 == some .eq) = true := by kernel_rfl
  go_enter Tryz.func26, Tryz.ntmps26
  go_wp2
  go_ret
  exact ⟨end_bool ho, rfl⟩
set_option maxHeartbeats 400000 in
theorem dfin_no (a : Nat) (ha : a < 18446744073709551616) (hf : finB a = false) (w : World) :
    Calls Tryz.prog 26 #[.float .f64 a] w fun e w' => e = .returned (.bool false) ∧ w' = w.drew := by
  have hm := run_nan (P := Tryz.prog) .sub (Or.inl rfl) 26 a a (sub_inf ha hf)
  obtain ⟨h1, h2⟩ := nanW_nan a a w
  have ho : (FloatKind.f64.format.order (nanW a a w) 0 == some .eq) = false := by rw [ord_nan h2 (by omega) (Or.inl h1)]; rfl
  go_enter Tryz.func26, Tryz.ntmps26
  go_wp2
  go_ret
  exact ⟨rfl, rfl⟩
theorem u64_up {x : Nat} (h : x + 1 < 18446744073709551616) : IntKind.u64.wrap ((x : Int) + 1) = ((x + 1 : Nat) : Int) := by
  rw [IntKind.wrap_u64]; omega
theorem u64_dn {x : Nat} (h : x < 18446744073709551616) (h0 : x ≠ 0) : IntKind.u64.wrap ((x : Int) - 1) = ((x - 1 : Nat) : Int) := by
  rw [IntKind.wrap_u64]; omega
theorem nan_two {x : Nat} (hn : nanB x = false) (h0 : rung x ≠ 0) : (!nanB x && decide (0 < place x)) = !sgn x ∧ (!nanB x && decide (place x < 0)) = sgn x := by
  rw [hn]
  unfold place
  cases sgn x <;> simp <;> omega
set_option maxHeartbeats 400000 in
theorem further_any (x : Nat) (hx : x + 1 < 18446744073709551616) (w : World) :
    Calls Tryz.prog 59 #[.float .f64 x] w fun e w' => e = .returned (.float .f64 (x + 1)) ∧ w' = w := by
  have fa := run_fbits x
  have ff := run_ffrom
  have hwr := u64_up hx
  go_enter Tryz.func59, Tryz.ntmps59
  go_wp2
  go_ret
  exact ⟨end_flt (by omega), rfl⟩
set_option maxHeartbeats 400000 in
theorem nearer_any (x : Nat) (hx : x < 18446744073709551616) (h0 : x ≠ 0) (w : World) :
    Calls Tryz.prog 60 #[.float .f64 x] w fun e w' => e = .returned (.float .f64 (x - 1)) ∧ w' = w := by
  have fa := run_fbits x
  have ff := run_ffrom
  have hwr := u64_dn hx h0
  go_enter Tryz.func60, Tryz.ntmps60
  go_wp2
  go_ret
  exact ⟨end_flt (by omega), rfl⟩
set_option maxHeartbeats 400000 in
theorem dup_any (x : Nat) (hx : x < 18446744073709551616) (hn : nanB x = false) (w : World) :
    Calls Tryz.prog 45 #[.float .f64 x] w fun e w' => e = .returned (.float .f64 (upR x)) ∧ w' = w := by
  have ff := run_ffrom
  have h1 := zero_eq hx
  have h2 := zero_gt hx
  have HE : Hid (upR x = if rung x = 0 then 1 else if sgn x then x - 1 else x + 1) := rfl
  have hr := rung_lt x
  have hw := word_two hx
  by_cases h0 : rung x = 0
  · have e0 : (rung x == 0) = true := by simpa using h0
    rw [e0] at h1
    go_enter Tryz.func45, Tryz.ntmps45
    go_wp2
    go_ret
    exact ⟨end_flt (by rw [HE.out, if_pos h0]), rfl⟩
  · have e0 : (rung x == 0) = false := by simpa using h0
    rw [e0] at h1
    rw [(nan_two hn h0).1] at h2
    cases hs : sgn x <;> rw [hs] at h2
    · have hx1 : x + 1 < 18446744073709551616 := by
        rcases hw with ⟨e, _⟩ | ⟨_, h⟩
        · omega
        · rw [hs] at h; cases h
      clear hw
      go_enter Tryz.func45, Tryz.ntmps45
      go_wp2_with (go_at_call 59; refine (further_any _ hx1 _).mono ?_; rintro e w' ⟨rfl, rfl⟩)
      go_ret
      exact ⟨end_flt (by rw [HE.out, if_neg h0, hs]; rfl), rfl⟩
    · have hx0 : x ≠ 0 := by
        rcases hw with ⟨_, h⟩ | ⟨e, _⟩
        · rw [hs] at h; cases h
        · omega
      clear hw
      go_enter Tryz.func45, Tryz.ntmps45
      go_wp2_with (go_at_call 60; refine (nearer_any _ hx hx0 _).mono ?_; rintro e w' ⟨rfl, rfl⟩)
      go_ret
      exact ⟨end_flt (by rw [HE.out, if_neg h0, hs]; rfl), rfl⟩
set_option maxHeartbeats 400000 in
theorem ddown_any (x : Nat) (hx : x < 18446744073709551616) (hn : nanB x = false) (w : World) :
    Calls Tryz.prog 44 #[.float .f64 x] w fun e w' => e = .returned (.float .f64 (downR x)) ∧ w' = w := by
  have hu := run_negf
  go_enter Tryz.func44, Tryz.ntmps44
  go_wp2_with (go_at_call 45; refine (dup_any _ (negW_lt hx) ((neg_place hx).2.1.trans hn) _).mono ?_; rintro e w' ⟨rfl, rfl⟩)
  go_ret
  exact ⟨rfl, rfl⟩
set_option maxHeartbeats 2000000 in
theorem side_any (x : Nat) (r m : Int) (hx : x < 18446744073709551616) (hn : nanB x = false) (h0 : rung x ≠ 0) (w : World) :
    Calls Tryz.prog 28 #[.float .f64 x, .int .i64 r, .int .i8 m] w fun e w' => e = .returned (.float .f64 (sideR x r m)) ∧ w' = w := by
  have HE : Hid (sideR x r m = if decide (r < 0) && (m == 1 || (m == 3 && (!sgn x && rung x != 0))) then downR x else if decide (0 < r) && (m == 2 || (m == 3 && (sgn x && rung x != 0))) then upR x else x) := rfl
  have hz := zero_ne hx
  have h0' : (rung x != 0) = true := by simpa using h0
  rw [h0'] at hz
  cases e1 : (m == 1) <;> cases e2 : (m == 2) <;> cases e3 : (m == 3) <;> cases hs : sgn x <;> by_cases h1 : r < 0 <;> by_cases h2 : 0 < r <;>
    first
    | (exfalso; simp at e1 e2 e3; omega)
    | (go_enter Tryz.func28, Tryz.ntmps28
       go_wp2_with (first
        | (go_at_call 37; refine (signbit_any _ (by assumption) _).mono ?_; rw [hs]; rintro e w' ⟨rfl, rfl⟩)
        | (go_at_call 45; refine (dup_any _ hx hn _).mono ?_; rintro e w' ⟨rfl, rfl⟩)
        | (go_at_call 44; refine (ddown_any _ hx hn _).mono ?_; rintro e w' ⟨rfl, rfl⟩))
       go_ret
       exact ⟨end_flt (by rw [HE.out, e1, e2, e3, hs, h0']; simp [h1, h2]; try (intro _; omega)), rfl⟩)
end Go.Proofs.YtlhoidkfphellaaGreatDoor
