/- NarrowNumbers: the walk. -/
import Derived.Test.YtoggdckaimbjeaaDoorVt
import Derived.Test.YtoggdckaimbjeaaDoorXj
namespace Go.Proofs.YtoggdckaimbjeaaDoor
open Go.RowKit

set_option maxHeartbeats 400000 in
theorem v_nextafter (w : World) :
    Calls Tryd.prog 13 #[.float .f64 5183643170835005440, .float .f64 0] w fun e w' => e = .returned (.float .f64 5183643170835005439) ∧ w' = w := by
  have ff := run_ffrom
  have fb := run_fbits 5183643170835005440
  have h1 := isnan_any 5183643170835005440 (by omega)
  have h2 := isnan_any 0 (by omega)
  rw [show nanB 5183643170835005440 = false by decide] at h1
  rw [show nanB 0 = false by decide] at h2
  have o1 : (FloatKind.f64.format.order 5183643170835005440 0 == some .eq) = false := by kernel_rfl
  have o2 : (FloatKind.f64.format.order 0 5183643170835005440 == some .gt) = false := by kernel_rfl
  have o3 : (FloatKind.f64.format.order 5183643170835005440 0 == some .gt) = true := by kernel_rfl
  go_enter Tryd.func13, Tryd.ntmps13
  go_wp2_with (first
    | (go_at_call_of 40 (Value.float FloatKind.f64 5183643170835005440); refine (h1 _).mono ?_; rintro e w' ⟨rfl, rfl⟩)
    | (go_at_call_of 40 (Value.float FloatKind.f64 0); refine (h2 _).mono ?_; rintro e w' ⟨rfl, rfl⟩))
  go_ret
  exact ⟨rfl, rfl⟩
theorem NS_lit {o : Option Nat} {n z : Nat} (h : NS o n) (e : o.map nrW = some z) : n = z := by
  cases o with
  | none => cases e
  | some v => simp only [Option.map_some, Option.some.injEq] at e; rw [← e]; exact h.2
set_option maxHeartbeats 400000 in
theorem n_fits_any (x : Nat) (hx : x < 18446744073709551616) (nx : nanB x = false) (w : World) :
    Calls Tryd.prog 24 #[.float .f64 x] w fun e w' => e = .returned (.bool (sameB (bk (toS x 0)) x)) ∧ w' = w := by
  obtain ⟨t1, t2, _⟩ := toS_ok x 0
  obtain ⟨_, _, h3, h4⟩ := bk_parts t1
  have ht := n_to_all x 0 hx nx
  go_enter Tryd.func24, Tryd.ntmps24
  go_wp2_with (first | (go_at_call 12; refine (ht _).mono ?_; rintro e w' ⟨rfl, rfl⟩) | (go_at_call 31; refine (n_back_any _ t2 t1 _).mono ?_; rintro e w' ⟨rfl, rfl⟩) | (go_at_call 50; refine (same_any _ _ h3 hx _).mono ?_; rintro e w' ⟨rfl, rfl⟩))
  go_ret
  exact ⟨rfl, rfl⟩
set_option maxHeartbeats 8000000 in
set_option maxRecDepth 100000 in
theorem law_numbers (w : World) (_hT : TabW w) :
    Calls Tryd.prog 3 #[] w fun e w' => e = .returned (.bool true) ∧ Below w.heap.size w w' := by
  have c1 := narrow_num (P := Tryd.prog) Tryd.underlying23 Tryd.underlying22 (b := 2147483648) (by omega) (by decide)
  rw [show bk 2147483648 = 9223372036854775808 by kernel_rfl] at c1
  have c2 := narrow_num (P := Tryd.prog) Tryd.underlying23 Tryd.underlying22 (b := 2139095040) (by omega) (by decide)
  rw [show bk 2139095040 = 9218868437227405312 by kernel_rfl] at c2
  have c3 := narrow_nan (P := Tryd.prog) Tryd.underlying23 Tryd.underlying22 (b := 9221120237041090561) (by omega) (by decide)
  have cp : cpy 0 13830554455654793216 = 9223372036854775808 := by kernel_rfl
  have mi : ∀ w, Calls Tryd.prog 10 #[.int .i64 1] w fun e w' => e = .returned (.float .f64 9218868437227405312) ∧ w' = w := fun w => minf_any 1 (Or.inl rfl) w
  have un : Op.unary .neg (.float .f32 2139095040) = pure (.float .f32 4286578688) := by kernel_rfl
  have t1 : toS 5183643170835005440 0 = 2139095040 := by kernel_rfl
  have t2 : toS 5183643170835005440 1 = 2139095039 := by kernel_rfl
  have t3 : toS 5183643170835005439 0 = 2139095039 := by kernel_rfl
  have t4 : toS 18318360957983683996 3 = 4286578687 := by kernel_rfl
  have t5 : toS 9094988921128908188 2 = 2139095040 := by kernel_rfl
  have t6 : toS 3931642474694443008 0 = 0 := by kernel_rfl
  have t7 : toS 3931642474694443008 2 = 1 := by kernel_rfl
  have t8 : toS 13155014511549218816 2 = 2147483648 := by kernel_rfl
  have t9 : toS 13155014511549218816 1 = 2147483649 := by kernel_rfl
  have t10 : toS 3938397874135498752 0 = 2 := by kernel_rfl
  have t11 : toS 9223372036854775809 77 = 2147483648 := by kernel_rfl
  have t12 : toS 13157266311362904064 2 = 2147483648 := by kernel_rfl
  have t13 : toS 13157266311362904064 3 = 2147483648 := by kernel_rfl
  have t14 : toS 3933894274508128256 1 = 0 := by kernel_rfl
  have x1 : sNext 2147483648 true = 1 := by kernel_rfl
  have x2 : sNext 2147483649 true = 0 := by kernel_rfl
  have x3 : sNext 2139095039 true = 2139095040 := by kernel_rfl
  have x4 : sNext 2139095040 true = 2139095040 := by kernel_rfl
  have o1 : (FloatKind.f32.format.order 2139095039 2139095039 == some .eq) = true := by kernel_rfl
  have o2 : (FloatKind.f32.format.order 4286578687 4286578687 == some .eq) = true := by kernel_rfl
  have o3 : (FloatKind.f32.format.order 1 1 == some .eq) = true := by kernel_rfl
  have o4 : (FloatKind.f32.format.order 2147483649 2147483649 == some .eq) = true := by kernel_rfl
  have o5 : (FloatKind.f32.format.order 2 2 == some .eq) = true := by kernel_rfl
  have o6 : (FloatKind.f32.format.order 1266679808 1266679808 == some .eq) = true := by kernel_rfl
  have o7 : (FloatKind.f32.format.order 1266679810 1266679810 == some .eq) = true := by kernel_rfl
  have o8 : (FloatKind.f32.format.order 1068827891 1068827891 == some .eq) = true := by kernel_rfl
  have s1 : ∀ a, sSame a a = true := fun a => by unfold sSame; simp
  have s2 : sSame 2147483648 0 = false := by kernel_rfl
  have y1 := n_fits_any 4602678819172646912 (by omega) (by decide)
  rw [show sameB (bk (toS 4602678819172646912 0)) 4602678819172646912 = true by kernel_rfl] at y1
  have y2 := n_fits_any 4591870180066957722 (by omega) (by decide)
  rw [show sameB (bk (toS 4591870180066957722 0)) 4591870180066957722 = false by kernel_rfl] at y2
  have y3 := n_fits_nan 9221120237041090561 (by omega) (by decide)
  have bz := Below.refl w.heap.size w
  go_enter Tryd.func3, Tryd.ntmps3
  go_wp2_with (first
    | (go_at_call 9; refine (copysign_any _ _ (by omega) (by omega) _).mono ?_; rw [cp]; rintro e w' ⟨rfl, rfl⟩)
    | (go_at_call 10; refine (mi _).mono ?_; rintro e w' ⟨rfl, rfl⟩)
    | (go_at_call 16; refine (mnan_any _).mono ?_; rintro e w' ⟨rfl, rfl⟩)
    | (go_at_call 13; refine (v_nextafter _).mono ?_; rintro e w' ⟨rfl, rfl⟩)
    | (go_at_call 12; refine (n_to_all _ _ (by omega) (by decide) _).mono ?_; simp only [t1, t2, t3, t4, t5, t6, t7, t8, t9, t10, t11, t12, t13, t14]; rintro e w' ⟨rfl, rfl⟩)
    | (go_at_call 11; refine (l_bits_any _ _ (by omega) (by omega) _).mono ?_; rw [s1]; rintro e w' ⟨rfl, rfl⟩)
    | (go_at_call 14; refine (n_next_num _ _ (by omega) (by decide) _).mono ?_; simp only [x1, x2, x3, x4]; rintro e w' ⟨rfl, rfl⟩)
    | (go_at_call_of 15 (Value.float FloatKind.f32 2147483648); refine (n_bits_no _ (by omega) (by decide) _).mono ?_; rintro e w' ⟨rfl, rfl⟩)
    | (go_at_call 15; refine (n_bits_yes _ (nsW_nan _ _).2 (nsW_nan _ _).1 _).mono ?_; rintro e w' ⟨rfl, rfl⟩; have bz := bz.drew.drew)
    | (go_at_call 17; refine (n_from_any _ _).mono ?_; rintro e w' ⟨rfl, rfl⟩)
    | (go_at_call_of 18 (Value.float FloatKind.f32 0); refine (n_same_any _ _ (by omega) (by omega) _).mono ?_; rw [s2]; rintro e w3 ⟨rfl, bn⟩; have bz := bz.trans (bn.mono bz.size))
    | (go_at_call 18; refine (n_same_any _ _ (by omega) (by omega) _).mono ?_; rw [s1]; rintro e w3 ⟨rfl, bn⟩; have bz := bz.trans (bn.mono bz.size))
    | (go_at_call_of 19 (Value.float FloatKind.f32 1266679808); refine (n_add_any _ _ (by omega) (by omega) _).mono ?_; rintro e w3 ⟨n, rfl, hn, bn⟩; have bz := bz.trans (bn.mono bz.size); obtain rfl : n = 1266679808 := NS_lit hn (by kernel_rfl))
    | (go_at_call 19; refine (n_add_any _ _ (by omega) (by omega) _).mono ?_; rintro e w3 ⟨n, rfl, hn, bn⟩; have bz := bz.trans (bn.mono bz.size); obtain rfl : n = 1266679810 := NS_lit hn (by kernel_rfl))
    | (go_at_call 20; refine (n_sub_any _ _ (by omega) (by omega) _).mono ?_; rintro e w3 ⟨n, rfl, hn, bn⟩; have bz := bz.trans (bn.mono bz.size); obtain rfl : n = 0 := NS_lit hn (by kernel_rfl))
    | (go_at_call_of 21 (Value.float FloatKind.f32 2583691264); refine (n_mul_any _ _ (by omega) (by omega) _).mono ?_; rintro e w3 ⟨n, rfl, hn, bn⟩; have bz := bz.trans (bn.mono bz.size); obtain rfl : n = 2147483648 := NS_lit hn (by kernel_rfl))
    | (go_at_call 21; refine (n_mul_any _ _ (by omega) (by omega) _).mono ?_; rintro e w3 ⟨n, rfl, hn, bn⟩; have bz := bz.trans (bn.mono bz.size); obtain rfl : n = 0 := NS_lit hn (by kernel_rfl))
    | (go_at_call 22; refine (n_div_any _ _ (by omega) (by omega) _).mono ?_; rintro e w3 ⟨n, rfl, hn, bn⟩; have bz := bz.trans (bn.mono bz.size); obtain rfl : n = 4286578688 := NS_lit hn (by kernel_rfl))
    | (go_at_call_of 23 (Value.float FloatKind.f32 1073741824); refine (n_sqrt_any _ (by omega) _).mono ?_; rintro e w3 ⟨n, rfl, hn, bn⟩; have bz := bz.trans (bn.mono bz.size); obtain rfl : n = 1068827891 := NS_lit hn (by kernel_rfl))
    | (go_at_call 23; refine (n_sqrt_any _ (by omega) _).mono ?_; rintro e w3 ⟨n, rfl, hn, bn⟩; have bz := bz.trans (bn.mono bz.size); obtain rfl : n = 2147483648 := NS_lit hn (by kernel_rfl))
    | (go_at_call_of 24 (Value.float FloatKind.f64 4602678819172646912); refine (y1 _).mono ?_; rintro e w' ⟨rfl, rfl⟩)
    | (go_at_call_of 24 (Value.float FloatKind.f64 4591870180066957722); refine (y2 _).mono ?_; rintro e w' ⟨rfl, rfl⟩)
    | (go_at_call 24; refine (y3 _).mono ?_; rintro e w3 ⟨rfl, bn⟩; have bz := bz.trans (bn.mono bz.size))
    | (go_at_call 25; refine (n_awake _).mono ?_; rintro e w' ⟨rfl, rfl⟩))
  go_ret
  exact ⟨rfl, bz⟩
end Go.Proofs.YtoggdckaimbjeaaDoor
