/- What span's Mul, Div answer, where what round answers of their ends is known; and that the fixed answers of 'awake' are so. -/
import Derived.Test.YtmgdkadkokpapaaDoorUc
namespace Go.Proofs.YtmgdkadkokpapaaDoor
open Go.RowKit

set_option maxHeartbeats 1600000 in
theorem smul_of (a b c d : Nat) (R : Int → Nat → Nat → Nat) (ra : sRt a b = true) (rb : sRt c d = true) (h : ∀ m x y, (x = a ∨ x = b) → (y = c ∨ y = d) → Tells3 55 x y m (R m x y) ∧ R m x y < 18446744073709551616) (w : World) :
    Calls Tryd.prog 17 #[spV a b, spV c d] w fun e w' => e = .returned (.tuple #[spV (lsC R a b c d) (grC R a b c d), .int .i64 0]) ∧ Below w.heap.size w w' := by
  have hst := run_storef Tryd.prog
  have hs := sproduct_of a b c d R h
  clear h
  go_enter Tryd.func17, Tryd.ntmps17
  go_wp2_with (first
    | (go_at_call 32; refine (sall_two a b c d _ _ (by go_simp) (by go_simp) (by go_simp) (by go_simp) (by go_simp)).mono ?_; rw [ra, rb]; rintro e w1 ⟨rfl, b1⟩; obtain ⟨a0, a1, _⟩ := ((((Bx.new _ _ _ _).alloc _).alloc _).alloc _).below b1; have D1 := (((Bx.new1 _ _ _ _ _).alloc _).alloc _).below b1; have A1 := ((((Bx.new _ _ _ _).alloc _).alloc _).alloc _).below b1; have d0 := D1.1; have d1 := D1.2.1; have R1 := ((Bx.new2 _ _ _ _ _ _).alloc _).below b1; have g0 := R1.1; have g1 := R1.2.1; have g2 := R1.2.2.1; have g3 := R1.2.2.2.1)
    | (go_at_call 37; refine (hs _).mono ?_; rintro e w2 ⟨rfl, b2⟩; obtain ⟨c0, c1, f0, f1, _⟩ := R1.below b2))
  have b3 := old1 (old3 b1)
  exact bodyPost_ret (v := .tuple #[spV (lsC R a b c d) (grC R a b c d), .int .i64 0]) (by simp [results, Tryd.results17, go_sem, c0, c1]) rfl ⟨rfl, set2 (b3.trans (b2.mono b3.size)) (by omega) _ _⟩
set_option maxHeartbeats 1600000 in
theorem sdiv_zero (a b c d : Nat) (ra : sRt a b = true) (rb : sRt c d = true) (h0 : (sRt c d && finB 0 && leF c 0 && leF 0 d) = true) (w : World) :
    Calls Tryd.prog 27 #[spV a b, spV c d] w fun e w' => e = .returned (.tuple #[spV 0 0, .int .i64 7]) ∧ Below w.heap.size w w' := by
  have hst := run_storef Tryd.prog
  have hh := fun w => shas_any c d 0 (by omega) w
  rw [h0] at hh
  clear h0
  go_enter Tryd.func27, Tryd.ntmps27
  go_wp2_with (first
    | (go_at_call 32; refine (sall_two a b c d _ _ (by go_simp) (by go_simp) (by go_simp) (by go_simp) (by go_simp)).mono ?_; rw [ra, rb]; rintro e w1 ⟨rfl, b1⟩; obtain ⟨a0, a1, _⟩ := ((((Bx.new _ _ _ _).alloc _).alloc _).alloc _).below b1; have D1 := (((Bx.new1 _ _ _ _ _).alloc _).alloc _).below b1; have A1 := ((((Bx.new _ _ _ _).alloc _).alloc _).alloc _).below b1; have d0 := D1.1; have d1 := D1.2.1; have R1 := ((Bx.new2 _ _ _ _ _ _).alloc _).below b1; have g0 := R1.1; have g1 := R1.2.1; have g2 := R1.2.2.1; have g3 := R1.2.2.2.1)
    | (go_at_call 24; refine (hh _).mono ?_; rintro e w2 ⟨rfl, b2⟩; obtain ⟨c0, c1, f0, f1, _⟩ := R1.below b2))
  have b3 := old1 (old3 b1)
  exact bodyPost_ret (v := .tuple #[spV 0 0, .int .i64 7]) (by simp [results, Tryd.results27, go_sem, c0, c1]) rfl ⟨rfl, set2 (b3.trans (b2.mono b3.size)) (by omega) _ _⟩
set_option maxHeartbeats 1600000 in
theorem sdiv_of (a b c d : Nat) (R : Int → Nat → Nat → Nat) (ra : sRt a b = true) (rb : sRt c d = true) (h0 : (sRt c d && finB 0 && leF c 0 && leF 0 d) = false) (h : ∀ m x y, (x = a ∨ x = b) → (y = c ∨ y = d) → Tells3 73 x y m (R m x y) ∧ R m x y < 18446744073709551616) (w : World) :
    Calls Tryd.prog 27 #[spV a b, spV c d] w fun e w' => e = .returned (.tuple #[spV (lsC R a b c d) (grC R a b c d), .int .i64 0]) ∧ Below w.heap.size w w' := by
  have hst := run_storef Tryd.prog
  have hs := squotient_of a b c d R h
  have hh := fun w => shas_any c d 0 (by omega) w
  rw [h0] at hh
  clear h h0
  go_enter Tryd.func27, Tryd.ntmps27
  go_wp2_with (first
    | (go_at_call 32; refine (sall_two a b c d _ _ (by go_simp) (by go_simp) (by go_simp) (by go_simp) (by go_simp)).mono ?_; rw [ra, rb]; rintro e w1 ⟨rfl, b1⟩; obtain ⟨a0, a1, _⟩ := ((((Bx.new _ _ _ _).alloc _).alloc _).alloc _).below b1; have D1 := (((Bx.new1 _ _ _ _ _).alloc _).alloc _).below b1; have A1 := ((((Bx.new _ _ _ _).alloc _).alloc _).alloc _).below b1; have d0 := D1.1; have d1 := D1.2.1; have R1 := ((Bx.new2 _ _ _ _ _ _).alloc _).below b1; have g0 := R1.1; have g1 := R1.2.1; have g2 := R1.2.2.1; have g3 := R1.2.2.2.1)
    | (go_at_call 24; refine (hh _).mono ?_; rintro e w2 ⟨rfl, b2⟩; obtain ⟨p0, p1, _⟩ := D1.below b2; obtain ⟨q0, q1, _⟩ := A1.below b2; have R2 := R1.below b2)
    | (go_at_call 49; refine (hs _).mono ?_; rintro e w3 ⟨rfl, b3⟩; obtain ⟨c0, c1, f0, f1, _⟩ := R2.below b3))
  have b4 := old1 (old3 b1)
  have b5 := b4.trans (b2.mono b4.size)
  exact bodyPost_ret (v := .tuple #[spV (lsC R a b c d) (grC R a b c d), .int .i64 0]) (by simp [results, Tryd.results27, go_sem, c0, c1]) rfl ⟨rfl, set2 (b5.trans (b3.mono b5.size)) (by omega) _ _⟩
end Go.Proofs.YtmgdkadkokpapaaDoor
