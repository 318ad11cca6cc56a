/- What Pick, Edge and Ldexp answer where RoundEdges asks them: some float. -/
import Derived.Test.YtalkdjgmblabgaaGreatDoorZ16
import Derived.Test.YtalkdjgmblabgaaGreatDoorTf
import Derived.Test.YtalkdjgmblabgaaGreatDoorZ4
namespace Go.Proofs.YtalkdjgmblabgaaGreatDoor
open Go.RowKit

/-- Some float. -/
def SomeF (w : World) (e : Ending) (w' : World) : Prop := ∃ r, e = .returned (.float .f64 r) ∧ r < 18446744073709551616 ∧ w' = w
set_option maxHeartbeats 400000 in
theorem pick_small (n : Nat) (h : n < 64) (w : World) : Calls Tryz.prog 52 #[.int .i64 n, .int .i64 64] w fun e w' => e = .returned (.int .i64 n) ∧ w' = w := by
  have h1 : (n : Int).tmod 64 = n := by rw [Int.tmod_eq_emod_of_nonneg (by omega)]; omega
  have h2 : ¬ (n : Int) < 0 := by omega
  go_enter Tryz.func52, Tryz.ntmps52
  go_wp2
  go_ret
  exact ⟨rfl, rfl⟩
set_option maxHeartbeats 400000 in
theorem nan_told (w : World) : Calls Tryz.prog 54 #[] w fun e w' => e = .returned (.float .f64 9221120237041090561) ∧ w' = w := by
  have ff := run_ffrom
  go_enter Tryz.func54, Tryz.ntmps54
  go_wp2
  go_ret
  exact ⟨rfl, rfl⟩
set_option maxHeartbeats 4000000 in
theorem edge_some (n : Nat) (h : n < 40) (w : World) : Calls Tryz.prog 20 #[.int .i64 n] w (SomeF w) := by
  have ff := run_ffrom
  have hu := run_negf
  have hi := inf_any
  have hn := nan_told
  have hw : ∀ x, x < 18446744073709551616 → negW x < 18446744073709551616 := fun x hx => negW_lt hx
  have cp := pick_small n (by omega)
  rcases (show n = 0 ∨ n = 1 ∨ n = 2 ∨ n = 3 ∨ n = 4 ∨ n = 5 ∨ n = 6 ∨ n = 7 ∨ n = 8 ∨ n = 9 ∨ n = 10 ∨ n = 11 ∨ n = 12 ∨ n = 13 ∨ n = 14 ∨ n = 15 ∨ n = 16 ∨ n = 17 ∨ n = 18 ∨ n = 19 ∨ n = 20 ∨ n = 21 ∨ n = 22 ∨ n = 23 ∨ n = 24 ∨ n = 25 ∨ n = 26 ∨ n = 27 ∨ n = 28 ∨ n = 29 ∨ n = 30 ∨ n = 31 ∨ n = 32 ∨ n = 33 ∨ n = 34 ∨ n = 35 ∨ n = 36 ∨ n = 37 ∨ n = 38 ∨ n = 39 by omega) with rfl | rfl | rfl | rfl | rfl | rfl | rfl | rfl | rfl | rfl | rfl | rfl | rfl | rfl | rfl | rfl | rfl | rfl | rfl | rfl | rfl | rfl | rfl | rfl | rfl | rfl | rfl | rfl | rfl | rfl | rfl | rfl | rfl | rfl | rfl | rfl | rfl | rfl | rfl | rfl
  all_goals
    go_enter Tryz.func20, Tryz.ntmps20
    go_wp2_with (first
      | (go_at_call 52; refine (cp _).mono ?_; rintro e w' ⟨rfl, h'⟩; subst w')
      | (go_at_call 53; refine (hi _).mono ?_; rintro e w' ⟨rfl, h'⟩; subst w')
      | (go_at_call 54; refine (hn _).mono ?_; rintro e w' ⟨rfl, h'⟩; subst w'))
    go_ret
    exact ⟨_, rfl, by first | decide | exact hw _ (by decide), rfl⟩
/-- Ldexp of a normal float above 0, within its ends. -/
theorem ldexp_ok (r : Nat) (L : Int) (h1 : 4503599627370496 ≤ r) (hr : r < 9218868437227405312) (hL1 : -1074 ≤ L) (hL2 : L ≤ 200) (hE : -1074 ≤ L + ((r / 4503599627370496 : Nat) : Int) - 1023) (w : World) :
    Calls Tryz.prog 56 #[.float .f64 r, .int .i64 L] w fun e w' => ∃ R, e = .returned (.float .f64 R) ∧ R < 18446744073709551616 ∧ ((-1022 ≤ L + ((r / 4503599627370496 : Nat) : Int) - 1023 ∧ L + ((r / 4503599627370496 : Nat) : Int) - 1023 ≤ 1023) → (R : Int) = (r : Int) + L * 4503599627370496) ∧ w' = w := by
  by_cases c1 : 1023 < L + ((r / 4503599627370496 : Nat) : Int) - 1023
  · refine (ldexp_at r L h1 hr hL1 (by omega) 9218868437227405312 (Or.inl ⟨c1, rfl⟩) w).mono ?_
    rintro e w' ⟨rfl, rfl⟩
    exact ⟨_, rfl, by omega, fun h => by omega, rfl⟩
  · by_cases c2 : -1022 ≤ L + ((r / 4503599627370496 : Nat) : Int) - 1023
    · obtain ⟨R, hR⟩ : ∃ R : Nat, (R : Int) = (r : Int) + L * 4503599627370496 := ⟨((r : Int) + L * 4503599627370496).toNat, by omega⟩
      refine (ldexp_at r L h1 hr hL1 (by omega) R (Or.inr (Or.inl ⟨c2, by omega, hR⟩)) w).mono ?_
      rintro e w' ⟨rfl, rfl⟩
      exact ⟨_, rfl, by omega, fun _ => hR, rfl⟩
    · obtain ⟨y, hy⟩ : ∃ y : Nat, (y : Int) = (r : Int) + (L + 53) * 4503599627370496 := ⟨((r : Int) + (L + 53) * 4503599627370496).toNat, by omega⟩
      have fy : finB y = true := by unfold finB; rw [rung_small (by omega)]; exact decide_eq_true (by omega)
      obtain ⟨R, hR⟩ : ∃ R, floatBits .mul .f64 4368491638549381120 y = some R := by
        rw [(fbits_map _ y).2.2.1, read_fin (by omega) (by decide), read_fin (by omega) fy]
        exact ⟨_, rfl⟩
      refine (ldexp_at r L h1 hr hL1 (by omega) R (Or.inr (Or.inr ⟨hE, by omega, y, hy, hR⟩)) w).mono ?_
      rintro e w' ⟨rfl, rfl⟩
      exact ⟨_, rfl, (op_word (op := .mul) (Or.inr (Or.inr (Or.inl rfl))) hR).1, fun h => by omega, rfl⟩
set_option maxHeartbeats 400000 in
theorem Ldexp_ok (r : Nat) (L : Int) (h1 : 4503599627370496 ≤ r) (hr : r < 9218868437227405312) (hL1 : -1074 ≤ L) (hL2 : L ≤ 200) (hE : -1074 ≤ L + ((r / 4503599627370496 : Nat) : Int) - 1023) (w : World) :
    Calls Tryz.prog 21 #[.float .f64 r, .int .i64 L] w fun e w' => ∃ R, e = .returned (.float .f64 R) ∧ R < 18446744073709551616 ∧ Hid ((-1022 ≤ L + ((r / 4503599627370496 : Nat) : Int) - 1023 ∧ L + ((r / 4503599627370496 : Nat) : Int) - 1023 ≤ 1023) → (R : Int) = (r : Int) + L * 4503599627370496) ∧ w' = w := by
  have cl := ldexp_ok r L h1 hr hL1 hL2 hE
  clear h1 hr hL1 hL2 hE
  go_enter Tryz.func21, Tryz.ntmps21
  go_wp2_with (go_at_call 56; refine (cl _).mono ?_; rintro e w' ⟨R, rfl, hR, hv, h'⟩; subst w'; have HV : Hid _ := hv; clear hv)
  go_ret
  exact ⟨_, rfl, hR, HV, rfl⟩
end Go.Proofs.YtalkdjgmblabgaaGreatDoor
