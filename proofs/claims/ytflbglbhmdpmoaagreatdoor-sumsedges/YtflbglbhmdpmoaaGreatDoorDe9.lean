/- For SumsEdges' walk. -/
import Derived.Test.YtflbglbhmdpmoaaGreatDoorDe7
import Derived.Test.YtflbglbhmdpmoaaGreatDoorIC
import Derived.Test.YtflbglbhmdpmoaaGreatDoorBn
namespace Go.Proofs.YtflbglbhmdpmoaaGreatDoor
open Go.RowKit

/-- Some float. -/
def SomeG (w : World) (e : Ending) (w' : World) : Prop := ∃ r, e = .returned (.float .f64 r) ∧ r < 18446744073709551616 ∧ w' = w
set_option maxHeartbeats 400000 in
theorem pick_sm (n : Nat) (h : n < 64) (w : World) : Calls Tryz.prog 56 #[.int .i64 n, .int .i64 64] w fun e w' => e = .returned (.int .i64 n) ∧ w' = w := by
  have h1 : (n : Int).tmod 64 = n := by rw [Int.tmod_eq_emod_of_nonneg (by omega)]; omega
  have h2 : ¬ (n : Int) < 0 := by omega
  go_enter Tryz.func56, Tryz.ntmps56
  go_wp2
  go_ret
  exact ⟨rfl, rfl⟩
set_option maxHeartbeats 400000 in
theorem nan_tld (w : World) : Calls Tryz.prog 30 #[] w fun e w' => e = .returned (.float .f64 9221120237041090561) ∧ w' = w := by
  have ff := run_ffrom
  go_enter Tryz.func30, Tryz.ntmps30
  go_wp2
  go_ret
  exact ⟨rfl, rfl⟩
set_option maxHeartbeats 4000000 in
theorem edge_sm (n : Nat) (h : n < 40) (w : World) : Calls Tryz.prog 26 #[.int .i64 n] w (SomeG w) := by
  have ff := run_ffrom
  have hu := run_negf
  have hi := inf_any
  have hn := nan_tld
  have hw : ∀ x, x < 18446744073709551616 → negW x < 18446744073709551616 := fun x hx => negW_lt hx
  have cp := pick_sm n (by omega)
  rcases (show n = 0 ∨ n = 1 ∨ n = 2 ∨ n = 3 ∨ n = 4 ∨ n = 5 ∨ n = 6 ∨ n = 7 ∨ n = 8 ∨ n = 9 ∨ n = 10 ∨ n = 11 ∨ n = 12 ∨ n = 13 ∨ n = 14 ∨ n = 15 ∨ n = 16 ∨ n = 17 ∨ n = 18 ∨ n = 19 ∨ n = 20 ∨ n = 21 ∨ n = 22 ∨ n = 23 ∨ n = 24 ∨ n = 25 ∨ n = 26 ∨ n = 27 ∨ n = 28 ∨ n = 29 ∨ n = 30 ∨ n = 31 ∨ n = 32 ∨ n = 33 ∨ n = 34 ∨ n = 35 ∨ n = 36 ∨ n = 37 ∨ n = 38 ∨ n = 39 by omega) with rfl | rfl | rfl | rfl | rfl | rfl | rfl | rfl | rfl | rfl | rfl | rfl | rfl | rfl | rfl | rfl | rfl | rfl | rfl | rfl | rfl | rfl | rfl | rfl | rfl | rfl | rfl | rfl | rfl | rfl | rfl | rfl | rfl | rfl | rfl | rfl | rfl | rfl | rfl | rfl
  all_goals
    go_enter Tryz.func26, Tryz.ntmps26
    go_wp2_with (first
      | (go_at_call 56; refine (cp _).mono ?_; rintro e w' ⟨rfl, h'⟩; subst w')
      | (go_at_call 31; refine (hi _).mono ?_; rintro e w' ⟨rfl, h'⟩; subst w')
      | (go_at_call 30; refine (hn _).mono ?_; rintro e w' ⟨rfl, h'⟩; subst w'))
    go_ret
    exact ⟨_, rfl, by first | decide | exact hw _ (by decide), rfl⟩
theorem edge_in (z : Int) (h1 : 0 ≤ z) (h2 : z < 40) (w : World) : Calls Tryz.prog 26 #[.int .i64 z] w (SomeG w) := by
  obtain ⟨n, rfl⟩ := Int.eq_ofNat_of_zero_le h1
  exact edge_sm n (by omega) w
theorem five_row (w : World) (a b c d e : Nat) (t : TypeId) : GRow (w.alloc (.cells #[.float .f64 a, .float .f64 b, .float .f64 c, .float .f64 d, .float .f64 e] t)) (some ⟨w.heap.size, 0, none⟩) [a, b, c, d, e] := by
  right
  refine ⟨w.heap.size, 0, rfl, fun j hj => ?_⟩
  rcases (show j = 0 ∨ j = 1 ∨ j = 2 ∨ j = 3 ∨ j = 4 by simp at hj; omega) with rfl | rfl | rfl | rfl | rfl <;> go_simp <;> rfl
theorem five_fw {a b c d e : Nat} (h1 : a < 18446744073709551616) (h2 : b < 18446744073709551616) (h3 : c < 18446744073709551616) (h4 : d < 18446744073709551616) (h5 : e < 18446744073709551616) : FW [a, b, c, d, e] := fun x hx => by
  simp at hx
  rcases hx with rfl | rfl | rfl | rfl | rfl <;> assumption
theorem one_row (w : World) (a : Nat) (t : TypeId) : GRow (w.alloc (.cells #[.float .f64 a] t)) (some ⟨w.heap.size, 0, none⟩) [a] := by
  right
  refine ⟨w.heap.size, 0, rfl, fun j hj => ?_⟩
  rcases (show j = 0 by simp at hj; omega) with rfl
  go_simp
theorem twf_row (w : World) (a b : Nat) (t : TypeId) : GRow (w.alloc (.cells #[.float .f64 a, .float .f64 b] t)) (some ⟨w.heap.size, 0, none⟩) [a, b] := by
  right
  refine ⟨w.heap.size, 0, rfl, fun j hj => ?_⟩
  rcases (show j = 0 ∨ j = 1 by simp at hj; omega) with rfl | rfl <;> go_simp <;> rfl
theorem near_big : nW [9218868437227405311, 9218868437227405311] = (0, 0, 6) := by
  have h1 : finO (naiveO [9218868437227405311, 9218868437227405311]) = false := by kernel_rfl
  have h2 : [9218868437227405311, 9218868437227405311].all finB = true := by kernel_rfl
  unfold nW
  rw [h2, h1]
  rfl
theorem fw_one {a : Nat} (h : a < 18446744073709551616) : FW [a] := fun x hx => by simp at hx; subst hx; exact h
theorem fw_nil : FW [] := fun x hx => by cases hx
end Go.Proofs.YtflbglbhmdpmoaaGreatDoor
