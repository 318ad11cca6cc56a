/- RoundRoots, whatever float, whole number and way it is given. -/
import Derived.Test.YtalkdjgmblabgaaGreatDoorZu
import Derived.Test.YtalkdjgmblabgaaGreatDoorZv
import Derived.Test.YtalkdjgmblabgaaGreatDoorZ10
namespace Go.Proofs.YtalkdjgmblabgaaGreatDoor
open Go.RowKit

set_option maxHeartbeats 2000000 in
theorem roots_law (a : Nat) (n m : Int) (ha : a < 18446744073709551616) (h1 : -9223372036854775808 ≤ n) (h2 : n ≤ 9223372036854775807) (w : World) (hT : TabW w) :
    Calls Tryz.prog 4 #[.float .f64 a, .int .i64 n, .int .i8 m] w fun e w' => e = .returned (.bool true) ∧ Below w.heap.size w w' := by
  have hr : rung a < 18446744073709551616 := by have := rung_lt a; omega
  obtain ⟨o, p1, p2⟩ := sqrt_NR a m ha
  obtain ⟨q, q1, q2⟩ := sqrt_NR (rung a) m hr
  obtain ⟨i1, i2, _⟩ := int_facts h1 h2
  have x1 := fun w h => rint_any n m h1 h2 i2 i1 w h
  have x2 := fun w => dint_any n m h1 h2 w
  have hl : rndW (intD n) m < 18446744073709551616 := by
    by_cases h0 : n = 0
    · subst h0
      have : (intD 0).mag.length = 0 := by kernel_rfl
      unfold rndW; rw [if_pos this]; omega
    · obtain ⟨k, J, _, _, kl, _, _, _, er⟩ := int_told m h1 h2 h0
      rw [er]
      exact stepF_lt _ _ (by split <;> omega)
  have sm : sameB (rndW (intD n) m) (rndW (intD n) m) = true := NR_same (NR_some hl rfl) (NR_some hl rfl)
  generalize rndW (intD n) m = v at *
  go_enter Tryz.func4, Tryz.ntmps4
  go_wp2_with (first
    | (go_at_call 13; refine (abs_any a ha _).mono ?_; rintro e w' ⟨rfl, rfl⟩)
    | (go_at_call_of 14 (Value.float FloatKind.f64 a); refine (p1 _ hT).mono ?_; rintro e w1 ⟨r1, rfl, n1, b1⟩)
    | (go_at_call_of 15 (Value.float FloatKind.f64 a); refine (p2 _).mono ?_; rintro e w2 ⟨r2, rfl, n2, b2⟩; have B2 := b1.trans (b2.mono b1.size))
    | (go_at_call 14; refine (q1 _ (tabW_below hT B2)).mono ?_; rintro e w3 ⟨r3, rfl, n3, b3⟩; have B3 := B2.trans (b3.mono B2.size))
    | (go_at_call 15; refine (q2 _).mono ?_; rintro e w4 ⟨r4, rfl, n4, b4⟩; have B4 := B3.trans (b4.mono B3.size))
    | (go_at_call 16; refine (x1 _ (tabW_below hT B4)).mono ?_; rintro e w5 ⟨rfl, b5⟩; have B5 := B4.trans (b5.mono B4.size))
    | (go_at_call 17; refine (x2 _).mono ?_; rintro e w6 ⟨rfl, b6⟩; have B6 := B5.trans (b6.mono B5.size))
    | (go_at_call_of 7 (Value.float FloatKind.f64 r1); refine (samef_any _ _ n1.1 n2.1 _).mono ?_; rw [NR_same n1 n2]; rintro e w' ⟨rfl, rfl⟩)
    | (go_at_call_of 7 (Value.float FloatKind.f64 r3); refine (samef_any _ _ n3.1 n4.1 _).mono ?_; rw [NR_same n3 n4]; rintro e w' ⟨rfl, rfl⟩)
    | (go_at_call 7; refine (samef_any _ _ hl hl _).mono ?_; rw [sm]; rintro e w' ⟨rfl, rfl⟩)
    | (go_at_call 12; refine (rawake _ (tabW_below hT B6)).mono ?_; rintro e w7 ⟨rfl, b7⟩))
  go_ret
  exact ⟨rfl, B6.trans (b7.mono B6.size)⟩
end Go.Proofs.YtalkdjgmblabgaaGreatDoor
