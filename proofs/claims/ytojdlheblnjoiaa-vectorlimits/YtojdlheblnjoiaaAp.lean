/- What Pick and Edge answer where VectorLimits asks them: some float. -/
import Derived.Test.YtojdlheblnjoiaaAn
namespace Go.Proofs.Ytojdlheblnjoiaa
open Go.RowKit

set_option maxHeartbeats 400000 in
theorem vpick (n k : Nat) (h : n < 1000) (hk : n % 64 = k) (w : World) : Calls Try.prog 31 #[.int .i64 n, .int .i64 64] w fun e w' => e = .returned (.int .i64 k) ∧ w' = w := by
  have h1 : (n : Int).tmod 64 = k := by rw [Int.tmod_eq_emod_of_nonneg (by omega)]; omega
  have h2 : ¬ (k : Int) < 0 := by omega
  clear hk
  go_enter Try.func31, Try.ntmps31
  go_wp2
  go_ret
  exact ⟨rfl, rfl⟩
set_option maxHeartbeats 400000 in
theorem vnan (w : World) : Calls Try.prog 27 #[] w fun e w' => e = .returned (.float .f64 9221120237041090561) ∧ w' = w := by
  have ff := run_ffrom
  go_enter Try.func27, Try.ntmps27
  go_wp2
  go_ret
  exact ⟨rfl, rfl⟩
theorem half_wrap (x : Int) : (IntKind.u64.wrap x / 2).toNat < 18446744073709551616 := by
  rw [IntKind.wrap_u64]; omega
/-- Some float. -/
def SomeV (w : World) (e : Ending) (w' : World) : Prop := ∃ r, e = .returned (.float .f64 r) ∧ r < 18446744073709551616 ∧ w' = w
set_option maxHeartbeats 4000000 in
theorem edge_lo (n : Nat) (h : n < 1000) (hk : 0 ≤ n % 64 ∧ n % 64 < 40) (w : World) : Calls Try.prog 26 #[.int .i64 n] w (SomeV w) := by
  have ff := run_ffrom
  have hu := run_negf
  have hi := inf_any
  have hn := vnan
  have hw : ∀ x, x < 18446744073709551616 → negW x < 18446744073709551616 := fun x hx => negW_lt hx
  have cp := vpick n (n % 64) h rfl
  generalize n % 64 = k at *
  rcases (show k = 0 ∨ k = 1 ∨ k = 2 ∨ k = 3 ∨ k = 4 ∨ k = 5 ∨ k = 6 ∨ k = 7 ∨ k = 8 ∨ k = 9 ∨ k = 10 ∨ k = 11 ∨ k = 12 ∨ k = 13 ∨ k = 14 ∨ k = 15 ∨ k = 16 ∨ k = 17 ∨ k = 18 ∨ k = 19 ∨ k = 20 ∨ k = 21 ∨ k = 22 ∨ k = 23 ∨ k = 24 ∨ k = 25 ∨ k = 26 ∨ k = 27 ∨ k = 28 ∨ k = 29 ∨ k = 30 ∨ k = 31 ∨ k = 32 ∨ k = 33 ∨ k = 34 ∨ k = 35 ∨ k = 36 ∨ k = 37 ∨ k = 38 ∨ k = 39 by omega) with rfl | rfl | rfl | rfl | rfl | rfl | rfl | rfl | rfl | rfl | rfl | rfl | rfl | rfl | rfl | rfl | rfl | rfl | rfl | rfl | rfl | rfl | rfl | rfl | rfl | rfl | rfl | rfl | rfl | rfl | rfl | rfl | rfl | rfl | rfl | rfl | rfl | rfl | rfl | rfl
  all_goals
      clear hk
      go_enter Try.func26, Try.ntmps26
      go_wp2_with (first
        | (go_at_call 31; refine (cp _).mono ?_; rintro e w' ⟨rfl, h'⟩; subst w')
        | (go_at_call 47; refine (hi _).mono ?_; rintro e w' ⟨rfl, h'⟩; subst w')
        | (go_at_call 27; refine (hn _).mono ?_; rintro e w' ⟨rfl, h'⟩; subst w'))
      go_ret
      exact ⟨_, rfl, by first | decide | exact hw _ (by decide), rfl⟩
set_option maxHeartbeats 4000000 in
theorem edge_hi (n : Nat) (h : n < 1000) (hk : 40 ≤ n % 64 ∧ n % 64 < 64) (w : World) : Calls Try.prog 26 #[.int .i64 n] w (SomeV w) := by
  have ff := run_ffrom
  have hu := run_negf
  have hi := inf_any
  have hn := vnan
  have hw : ∀ x, x < 18446744073709551616 → negW x < 18446744073709551616 := fun x hx => negW_lt hx
  have cp := vpick n (n % 64) h rfl
  generalize n % 64 = k at *
  rcases (show k = 40 ∨ k = 41 ∨ k = 42 ∨ k = 43 ∨ k = 44 ∨ k = 45 ∨ k = 46 ∨ k = 47 ∨ k = 48 ∨ k = 49 ∨ k = 50 ∨ k = 51 ∨ k = 52 ∨ k = 53 ∨ k = 54 ∨ k = 55 ∨ k = 56 ∨ k = 57 ∨ k = 58 ∨ k = 59 ∨ k = 60 ∨ k = 61 ∨ k = 62 ∨ k = 63 by omega) with rfl | rfl | rfl | rfl | rfl | rfl | rfl | rfl | rfl | rfl | rfl | rfl | rfl | rfl | rfl | rfl | rfl | rfl | rfl | rfl | rfl | rfl | rfl | rfl
  all_goals
      clear hk
      go_enter Try.func26, Try.ntmps26
      go_wp2_with (first
        | (go_at_call 31; refine (cp _).mono ?_; rintro e w' ⟨rfl, h'⟩; subst w')
        | (go_at_call 47; refine (hi _).mono ?_; rintro e w' ⟨rfl, h'⟩; subst w')
        | (go_at_call 27; refine (hn _).mono ?_; rintro e w' ⟨rfl, h'⟩; subst w'))
      go_ret
      exact ⟨_, rfl, by first | exact half_wrap _ | exact hw _ (half_wrap _), rfl⟩
theorem edge_any (n : Nat) (h : n < 1000) (w : World) : Calls Try.prog 26 #[.int .i64 n] w (SomeV w) := by
  by_cases c : n % 64 < 40
  · exact edge_lo n h ⟨Nat.zero_le _, c⟩ w
  · exact edge_hi n h ⟨by omega, Nat.mod_lt _ (by omega)⟩ w
theorem edge_int (m : Int) (h0 : 0 ≤ m) (h1 : m < 1000) (w : World) : Calls Try.prog 26 #[.int .i64 m] w (SomeV w) := by
  obtain ⟨n, rfl⟩ := Int.eq_ofNat_of_zero_le h0
  exact edge_any n (by omega) w
end Go.Proofs.Ytojdlheblnjoiaa
