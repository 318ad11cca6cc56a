/- Comparing narrow floats; what alike, awake and Fits answer. -/
import Derived.Test.YtekejddblgkcgaaDoorXf
import Derived.Test.YtekejddblgkcgaaDoorSx
namespace Go.Proofs.YtekejddblgkcgaaDoor
open Go.RowKit

theorem s_ord_num {a b : Nat} (ha : a < 4294967296) (hb : b < 4294967296) (na : S.nanB a = false) (nb : S.nanB b = false) :
    FloatKind.f32.format.order a b = some (compare (S.place a) (S.place b)) := by
  rw [fmt32, S.order_eq a b ha hb, na, nb]; rfl
theorem s_ord_nan {a b : Nat} (ha : a < 4294967296) (hb : b < 4294967296) (h : S.nanB a = true ∨ S.nanB b = true) :
    FloatKind.f32.format.order a b = none := by
  rw [fmt32, S.order_eq a b ha hb]
  rcases h with h | h <;> simp [h]
theorem s_lt_num {a b : Nat} (ha : a < 4294967296) (hb : b < 4294967296) (na : S.nanB a = false) (nb : S.nanB b = false) :
    (FloatKind.f32.format.order a b == some .lt) = decide (S.place a < S.place b) := by rw [s_ord_num ha hb na nb, cmp_lt]
theorem s_gt_num {a b : Nat} (ha : a < 4294967296) (hb : b < 4294967296) (na : S.nanB a = false) (nb : S.nanB b = false) :
    (FloatKind.f32.format.order a b == some .gt) = decide (S.place b < S.place a) := by rw [s_ord_num ha hb na nb, cmp_gt]
theorem s_eq_num {a b : Nat} (ha : a < 4294967296) (hb : b < 4294967296) (na : S.nanB a = false) (nb : S.nanB b = false) :
    (FloatKind.f32.format.order a b == some .eq) = decide (S.place a = S.place b) := by rw [s_ord_num ha hb na nb, cmp_eq]
theorem s_ne_num {a b : Nat} (ha : a < 4294967296) (hb : b < 4294967296) (na : S.nanB a = false) (nb : S.nanB b = false) :
    (FloatKind.f32.format.order a b != some .eq) = decide (S.place a ≠ S.place b) := by
  have h := s_eq_num ha hb na nb
  rw [bne, h]; simp
theorem s_ne_self (a : Nat) (ha : a < 4294967296) : (FloatKind.f32.format.order a a != some .eq) = S.nanB a := by
  rw [fmt32, S.order_eq a a ha ha]
  cases S.nanB a
  · simp
  · rfl
theorem aw_to1 : toW 4591870180066957722 1036831949 (toDn 1 (sgn 4591870180066957722)) (toUp 1 (sgn 4591870180066957722)) = 1036831948 := by kernel_rfl
theorem aw_to0 : toW 4591870180066957722 1036831949 (toDn 0 (sgn 4591870180066957722)) (toUp 0 (sgn 4591870180066957722)) = 1036831949 := by kernel_rfl
theorem aw_near (w : World) : Calls Tryd.prog 22 #[.float .f64 4591870180066957722] w fun e w' => e = .returned (.float .f32 1036831949) ∧ w' = w := by
  have h := n_near_num 4591870180066957722 (by omega) (by decide) w
  rw [show nrW 4591870180066957722 = 1036831949 by kernel_rfl] at h
  exact h
set_option maxHeartbeats 800000 in
theorem aw_div (w : World) :
    Calls Tryd.prog 18 #[.float .f32 1065353216, .float .f32 1077936128] w fun e w' => e = .returned (.float .f32 1051372203) ∧ w' = w := by
  have b1 := n_back_any 1065353216 (by omega) (by decide)
  have b3 := n_back_any 1077936128 (by omega) (by decide)
  rw [show bk 1065353216 = 4607182418800017408 by kernel_rfl] at b1
  rw [show bk 1077936128 = 4613937818241073152 by kernel_rfl] at b3
  have hd := rdiv_great 4607182418800017408 4613937818241073152 4599676419421066581 4363988038922010624 0 (by omega) (by omega) (by kernel_rfl) (by kernel_rfl) (by kernel_rfl) (by omega) (by kernel_rfl) (by kernel_rfl) (by omega) (by kernel_rfl)
  rw [show stepF 4599676419421066581 (signF 4363988038922010624) 0 = 4599676419421066581 by kernel_rfl] at hd
  have hn := n_near_num 4599676419421066581 (by omega) (by decide)
  rw [show nrW 4599676419421066581 = 1051372203 by kernel_rfl] at hn
  go_enter Tryd.func18, Tryd.ntmps18
  go_wp2_with (first | (go_at_call_of 9 (Value.float FloatKind.f32 1065353216); refine (b1 _).mono ?_; rintro e w' ⟨rfl, rfl⟩) | (go_at_call_of 9 (Value.float FloatKind.f32 1077936128); refine (b3 _).mono ?_; rintro e w' ⟨rfl, rfl⟩) | (go_at_call 38; refine (hd _).mono ?_; rintro e w' ⟨rfl, rfl⟩) | (go_at_call 22; refine (hn _).mono ?_; rintro e w' ⟨rfl, rfl⟩))
  go_ret
  exact ⟨rfl, rfl⟩
set_option maxHeartbeats 800000 in
theorem n_awake (w : World) : Calls Tryd.prog 11 #[] w fun e w' => e = .returned (.bool true) ∧ w' = w := by
  have h1 := fun w => n_to_num 4591870180066957722 1036831949 1 (by omega) (by decide) (by omega) (by decide) aw_near w
  have h0 := fun w => n_to_num 4591870180066957722 1036831949 0 (by omega) (by decide) (by omega) (by decide) aw_near w
  rw [aw_to1] at h1
  rw [aw_to0] at h0
  have hb := fun w => n_bits_no 1065353216 (by omega) (by decide) w
  have o1 : (FloatKind.f32.format.order 1036831948 1036831948 == some .eq) = true := by kernel_rfl
  have o2 : (FloatKind.f32.format.order 1036831949 1036831949 == some .eq) = true := by kernel_rfl
  have o3 : (FloatKind.f32.format.order 1051372203 1051372203 == some .eq) = true := by kernel_rfl
  go_enter Tryd.func11, Tryd.ntmps11
  go_wp2_with (first | (go_at_call_of 5 (Value.int IntKind.i8 1); refine (h1 _).mono ?_; rintro e w' ⟨rfl, rfl⟩) | (go_at_call 5; refine (h0 _).mono ?_; rintro e w' ⟨rfl, rfl⟩) | (go_at_call 18; refine (aw_div _).mono ?_; rintro e w' ⟨rfl, rfl⟩) | (go_at_call 33; refine (hb _).mono ?_; rintro e w' ⟨rfl, rfl⟩))
  go_ret
  exact ⟨rfl, rfl⟩
/-- Nothing is stepped from a narrow float. -/
theorem toW_self {b : Nat} (dn up : Bool) : toW (bk b) b dn up = b := by
  unfold toW
  have : ¬ place (bk b) < place (bk b) := by omega
  simp
set_option maxHeartbeats 400000 in
theorem n_fits_bk (b : Nat) (hb : b < 4294967296) (hn : S.nanB b = false) (w : World) :
    Calls Tryd.prog 10 #[.float .f64 (bk b)] w fun e w' => e = .returned (.bool true) ∧ w' = w := by
  obtain ⟨_, _, h3, h4⟩ := bk_parts hn
  have ht := fun w => n_to_num (bk b) b 0 h3 h4 hb hn (n_near_bk hb hn) w
  rw [toW_self] at ht
  have hs : sameB (bk b) (bk b) = true := by unfold sameB; rw [h4]; simp
  go_enter Tryd.func10, Tryd.ntmps10
  go_wp2_with (first | (go_at_call 5; refine (ht _).mono ?_; rintro e w' ⟨rfl, rfl⟩) | (go_at_call 9; refine (n_back_any _ hb hn _).mono ?_; rintro e w' ⟨rfl, rfl⟩) | (go_at_call 32; refine (same_any _ _ h3 h3 _).mono ?_; rw [hs]; rintro e w' ⟨rfl, rfl⟩))
  go_ret
  exact ⟨rfl, rfl⟩
set_option maxHeartbeats 400000 in
theorem n_fits_nan (x : Nat) (hx : x < 18446744073709551616) (nx : nanB x = true) (w : World) :
    Calls Tryd.prog 10 #[.float .f64 x] w fun e w' => e = .returned (.bool true) ∧ Below w.heap.size w w' := by
  go_enter Tryd.func10, Tryd.ntmps10
  go_wp2_with (first | (go_at_call 5; refine (n_to_nan x 0 hx nx _).mono ?_; rintro e w1 ⟨n, rfl, n1, n2, b1⟩) | (go_at_call 9; refine (n_back_nan _ n2 n1 _).mono ?_; rintro e w' ⟨c, rfl, c1, c2, rfl⟩) | (go_at_call 32; refine (same_any _ _ c2 hx _).mono ?_; rw [show sameB c x = true by unfold sameB; rw [c1, nx]; rfl]; rintro e w' ⟨rfl, rfl⟩))
  go_ret
  exact ⟨rfl, b1.drew⟩
end Go.Proofs.YtekejddblgkcgaaDoor
