/- TwoProd on both sides; SumsTwo, of any two floats: both sides are one. -/
import Derived.Test.YtggdjbdamaeikaaGreatDoorZ16
import Derived.Test.YtggdjbdamaeikaaGreatDoorIcp
import Derived.Test.YtggdjbdamaeikaaGreatDoorCp
import Derived.Test.YtggdjbdamaeikaaGreatDoorBn
namespace Go.Proofs.YtggdjbdamaeikaaGreatDoor
open Go.RowKit

set_option maxHeartbeats 1000000 in
theorem rtwoprod_any (a b : Nat) (ha : a < 18446744073709551616) (hb : b < 18446744073709551616) (w : World) :
    Calls Tryz.prog 8 #[.float .f64 a, .float .f64 b] w fun e w' => ∃ s r, e = .returned (.tuple #[.float .f64 s, .float .f64 r]) ∧ NR (floatBits .mul .f64 a b) s ∧ NR (tpO a b) r ∧ Below w.heap.size w w' := by
  have f4 : FourOp .mul := Or.inr (Or.inr (Or.inl rfl))
  have h1 := run_op4 (P := Tryz.prog) (op := .mul) f4 22 a b w
  have hcv := conv64
  have hu := run_negf
  have hN := op_NR (op := .mul) f4 (a := a) (b := b) w
  have hB := opW_below .mul a b (Below.refl w.heap.size w)
  have cf := fun W => dfused_any a b (negW (opR .mul a b w)) 0 ha hb (negW_lt hN.1) W
  simp only [tp_told ha hb hN] at cf
  clear f4
  generalize opR .mul a b w = p at *
  generalize opW .mul a b w = w0 at *
  go_enter Tryz.func8, Tryz.ntmps8
  go_wp2_with (go_at_call 17; refine (cf _).mono ?_; rintro e w1 ⟨r, rfl, n1, b1⟩)
  exact bodyPost_ret (v := .tuple #[.float .f64 p, .float .f64 r]) (by simp [results, Tryz.results8, go_sem]) rfl ⟨_, _, rfl, hN, n1, hB.trans (b1.mono hB.size)⟩
set_option maxRecDepth 100000 in
set_option maxHeartbeats 1000000 in
theorem two_law (a b : Nat) (ha : a < 18446744073709551616) (hb : b < 18446744073709551616) (w : World) (hT : TabW w) :
    Calls Tryz.prog 3 #[.float .f64 a, .float .f64 b] w fun e w' => e = .returned (.bool true) ∧ Below w.heap.size w w' := by
  have c1 := fun W => twosum_any a b ha hb W
  have c2 := fun W => rtwosum_any a b ha hb W
  have c3 := fun W h => twoprod_any a b ha hb W h
  have c4 := fun W => rtwoprod_any a b ha hb W
  generalize tsS a b = o1 at *
  generalize tsR a b = o2 at *
  generalize floatBits .mul .f64 a b = o3 at *
  generalize tpO a b = o4 at *
  go_enter Tryz.func3, Tryz.ntmps3
  go_wp2_with (first
    | (go_at_call 5; refine (c1 _).mono ?_; rintro e w1 ⟨s1, r1, rfl, n1, m1, b1⟩)
    | (go_at_call 6; refine (c2 _).mono ?_; rintro e w2 ⟨s2, r2, rfl, n2, m2, b2⟩; have B2 := b1.trans (b2.mono b1.size))
    | (go_at_call 7; refine (c3 _ (tabW_below hT B2)).mono ?_; rintro e w3 ⟨s3, r3, rfl, n3, m3, b3⟩; have B3 := B2.trans (b3.mono B2.size))
    | (go_at_call 8; refine (c4 _).mono ?_; rintro e w4 ⟨s4, r4, rfl, n4, m4, b4⟩; have B4 := B3.trans (b4.mono B3.size))
    | (go_at_call_of 9 (Value.float FloatKind.f64 s1); refine (sameNR n1 n2 _).mono ?_; rintro e w' ⟨rfl, h'⟩; subst w')
    | (go_at_call_of 9 (Value.float FloatKind.f64 r1); refine (sameNR m1 m2 _).mono ?_; rintro e w' ⟨rfl, h'⟩; subst w')
    | (go_at_call_of 9 (Value.float FloatKind.f64 s3); refine (sameNR n3 n4 _).mono ?_; rintro e w' ⟨rfl, h'⟩; subst w')
    | (go_at_call_of 9 (Value.float FloatKind.f64 r3); refine (sameNR m3 m4 _).mono ?_; rintro e w' ⟨rfl, h'⟩; subst w')
    | (go_at_call 10; refine (uawake _ (tabW_below hT B4)).mono ?_; rintro e w7 ⟨rfl, b7⟩))
  go_ret
  exact ⟨rfl, B4.trans (b7.mono B4.size)⟩
end Go.Proofs.YtggdjbdamaeikaaGreatDoor
