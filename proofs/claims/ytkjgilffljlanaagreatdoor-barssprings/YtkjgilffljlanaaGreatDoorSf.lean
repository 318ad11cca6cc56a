/- What the document's answer for sums (Finite, up, down, side, great, nought, Add) tells. -/
import Derived.Test.YtkjgilffljlanaaGreatDoorZi
namespace Go.Proofs.YtkjgilffljlanaaGreatDoor
open Go.RowKit
set_option maxHeartbeats 400000 in
theorem dfin_yes (a : Nat) (ha : a < 18446744073709551616) (hf : finB a = true) (w : World) :
  Calls Tryz.prog 85 #[.float .f64 a] w fun e w' => e = .returned (.bool true) ∧ w' = w := by
 have hm := fun w => run_float_arith (P := Tryz.prog) w .sub 40 .f64 _ _ _ (sub_self ha hf)
 have ho : (FloatKind.f64.format.order 0 0 == some .eq) = true := by kernel_rfl
 go_enter Tryz.func85, Tryz.ntmps85
 go_wp2
 go_ret
 exact ⟨end_bool ho, rfl⟩
set_option maxHeartbeats 400000 in
theorem dfin_no (a : Nat) (ha : a < 18446744073709551616) (hf : finB a = false) (w : World) :
  Calls Tryz.prog 85 #[.float .f64 a] w fun e w' => e = .returned (.bool false) ∧ w' = w.drew := by
 have hm := run_nan (P := Tryz.prog) .sub (Or.inl rfl) 40 a a (sub_inf ha hf)
 obtain ⟨h1, h2⟩ := nanW_nan a a w
 have ho : (FloatKind.f64.format.order (nanW a a w) 0 == some .eq) = false := by rw [ord_nan h2 (by omega) (Or.inl h1)]; rfl
 go_enter Tryz.func85, Tryz.ntmps85
 go_wp2
 go_ret
 exact ⟨rfl, rfl⟩
theorem u64_up {x : Nat} (h : x + 1 < 18446744073709551616) : IntKind.u64.wrap ((x : Int) + 1) = ((x + 1 : Nat) : Int) := by
 rw [IntKind.wrap_u64]; omega
theorem u64_dn {x : Nat} (h : x < 18446744073709551616) (h0 : x ≠ 0) : IntKind.u64.wrap ((x : Int) - 1) = ((x - 1 : Nat) : Int) := by
 rw [IntKind.wrap_u64]; omega
theorem nan_two {x : Nat} (hn : nanB x = false) (h0 : rung x ≠ 0) : (!nanB x && decide (0 < place x)) = !sgn x ∧ (!nanB x && decide (place x < 0)) = sgn x := by
 rw [hn]
 unfold place
 cases sgn x <;> simp <;> omega
set_option maxHeartbeats 400000 in
theorem further_any (x : Nat) (hx : x + 1 < 18446744073709551616) (w : World) :
  Calls Tryz.prog 135 #[.float .f64 x] w fun e w' => e = .returned (.float .f64 (x + 1)) ∧ w' = w := by
 have fa := run_fbits x
 have ff := run_ffrom
 have hwr := u64_up hx
 go_enter Tryz.func135, Tryz.ntmps135
 go_wp2
 go_ret
 exact ⟨end_flt (by omega), rfl⟩
set_option maxHeartbeats 400000 in
theorem nearer_any (x : Nat) (hx : x < 18446744073709551616) (h0 : x ≠ 0) (w : World) :
  Calls Tryz.prog 136 #[.float .f64 x] w fun e w' => e = .returned (.float .f64 (x - 1)) ∧ w' = w := by
 have fa := run_fbits x
 have ff := run_ffrom
 have hwr := u64_dn hx h0
 go_enter Tryz.func136, Tryz.ntmps136
 go_wp2
 go_ret
 exact ⟨end_flt (by omega), rfl⟩
set_option maxHeartbeats 400000 in
theorem dup_any (x : Nat) (hx : x < 18446744073709551616) (hn : nanB x = false) (w : World) :
  Calls Tryz.prog 114 #[.float .f64 x] w fun e w' => e = .returned (.float .f64 (upR x)) ∧ w' = w := by
 have ff := run_ffrom
 have h1 := zero_eq hx
 have h2 := zero_gt hx
 have HE : Hid (upR x = if rung x = 0 then 1 else if sgn x then x - 1 else x + 1) := rfl
 have hr := rung_lt x
 have hw := word_two hx
 by_cases h0 : rung x = 0
 ·have e0 : (rung x == 0) = true := by simpa using h0
  rw [e0] at h1
  go_enter Tryz.func114, Tryz.ntmps114
  go_wp2
  go_ret
  exact ⟨end_flt (by rw [HE.out, if_pos h0]), rfl⟩
 ·have e0 : (rung x == 0) = false := by simpa using h0
  rw [e0] at h1
  rw [(nan_two hn h0).1] at h2
  cases hs : sgn x <;> rw [hs] at h2
  ·have hx1 : x + 1 < 18446744073709551616 := by
    rcases hw with ⟨e, _⟩ | ⟨_, h⟩
    ·omega
    ·rw [hs] at h; cases h
   clear hw
   go_enter Tryz.func114, Tryz.ntmps114
   go_wp2_with (go_at_call 135; refine (further_any _ hx1 _).mono ?_; rintro e w' ⟨rfl, rfl⟩)
   go_ret
   exact ⟨end_flt (by rw [HE.out, if_neg h0, hs]; rfl), rfl⟩
  ·have hx0 : x ≠ 0 := by
    rcases hw with ⟨_, h⟩ | ⟨e, _⟩
    ·rw [hs] at h; cases h
    ·omega
   clear hw
   go_enter Tryz.func114, Tryz.ntmps114
   go_wp2_with (go_at_call 136; refine (nearer_any _ hx hx0 _).mono ?_; rintro e w' ⟨rfl, rfl⟩)
   go_ret
   exact ⟨end_flt (by rw [HE.out, if_neg h0, hs]; rfl), rfl⟩
set_option maxHeartbeats 400000 in
theorem ddown_any (x : Nat) (hx : x < 18446744073709551616) (hn : nanB x = false) (w : World) :
  Calls Tryz.prog 113 #[.float .f64 x] w fun e w' => e = .returned (.float .f64 (downR x)) ∧ w' = w := by
 have hu := run_negf
 go_enter Tryz.func113, Tryz.ntmps113
 go_wp2_with (go_at_call 114; refine (dup_any _ (negW_lt hx) ((neg_place hx).2.1.trans hn) _).mono ?_; rintro e w' ⟨rfl, rfl⟩)
 go_ret
 exact ⟨rfl, rfl⟩
set_option maxHeartbeats 2000000 in
theorem side_any (x : Nat) (r m : Int) (hx : x < 18446744073709551616) (hn : nanB x = false) (h0 : rung x ≠ 0) (w : World) :
    Calls Tryz.prog 87 #[.float .f64 x, .int .i64 r, .int .i8 m] w fun e w' => e = .returned (.float .f64 (sideR x r m)) ∧ w' = w := by
  have HE : Hid (sideR x r m = if decide (r < 0) && (m == 1 || (m == 3 && (!sgn x && rung x != 0))) then downR x else if decide (0 < r) && (m == 2 || (m == 3 && (sgn x && rung x != 0))) then upR x else x) := rfl
  have hz := zero_ne hx
  have h0' : (rung x != 0) = true := by simpa using h0
  rw [h0'] at hz
  cases e1 : (m == 1) <;> cases e2 : (m == 2) <;> cases e3 : (m == 3) <;> cases hs : sgn x <;> by_cases h1 : r < 0 <;> by_cases h2 : 0 < r <;>
    first
    | (exfalso; simp at e1 e2 e3; omega)
    | (go_enter Tryz.func87, Tryz.ntmps87
       go_wp2_with (first
        | (go_at_call 65; refine (signbit_any _ (by assumption) _).mono ?_; rw [hs]; rintro e w' ⟨rfl, rfl⟩)
        | (go_at_call 114; refine (dup_any _ hx hn _).mono ?_; rintro e w' ⟨rfl, rfl⟩)
        | (go_at_call 113; refine (ddown_any _ hx hn _).mono ?_; rintro e w' ⟨rfl, rfl⟩))
       go_ret
       exact ⟨end_flt (by rw [HE.out, e1, e2, e3, hs, h0']; simp [h1, h2]; try (intro _; omega)), rfl⟩)
set_option maxHeartbeats 1000000 in
theorem great_any (x : Nat) (m : Int) (hx : x < 18446744073709551616) (hn : nanB x = false) (h0 : rung x ≠ 0) (w : World) :
    Calls Tryz.prog 148 #[.float .f64 x, .int .i8 m] w fun e w' => e = .returned (.float .f64 (greatR x m)) ∧ w' = w := by
  have HE : Hid (greatR x m = if m == 3 || (!sgn x && m == 1) || (sgn x && m == 2) then cpy 9218868437227405311 x else x) := rfl
  have hg := zero_gt hx
  have hl := zero_lt hx
  rw [(nan_two hn h0).1] at hg
  rw [(nan_two hn h0).2] at hl
  cases e1 : (m == 1) <;> cases e2 : (m == 2) <;> cases e3 : (m == 3) <;> cases hs : sgn x <;> rw [hs] at hg hl <;>
    first
    | (exfalso; simp at e1 e2 e3; omega)
    | (go_enter Tryz.func148, Tryz.ntmps148
       go_wp2_with (go_at_call 103; refine (copysign_any _ _ (by omega) hx _).mono ?_; rintro e w' ⟨rfl, rfl⟩)
       go_ret
       exact ⟨end_flt (by rw [HE.out, e1, e2, e3, hs]; rfl), rfl⟩)
end Go.Proofs.YtkjgilffljlanaaGreatDoor
