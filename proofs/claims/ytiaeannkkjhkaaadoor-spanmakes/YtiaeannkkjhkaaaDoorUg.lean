/- SpanMakes, whatever ends it is given: the walk. -/
import Derived.Test.YtiaeannkkjhkaaaDoorZj
namespace Go.Proofs.YtiaeannkkjhkaaaDoor
open Go.RowKit

theorem make_both (l u : Nat) (hl : l < 18446744073709551616) (hu : u < 18446744073709551616) : ∃ a b n, a < 18446744073709551616 ∧ b < 18446744073709551616 ∧
    (∀ w, Calls Tryd.prog 5 #[.float .f64 l, .float .f64 u] w fun e w' => e = .returned (.tuple #[spV a b, .int .i64 n]) ∧ Below w.heap.size w w') ∧
    (∀ w, Calls Tryd.prog 6 #[.float .f64 l, .float .f64 u] w fun e w' => e = .returned (.tuple #[spV a b, .int .i64 n]) ∧ Below w.heap.size w w') := by
  have h1 := fun w => smake_any l u hl hu w
  have h2 := fun w => rmake_any l u hl hu w
  cases q : (nanB l || nanB u) <;> rw [q] at h1 h2
  · cases r : sRt l u <;> rw [r] at h1 h2
    · exact ⟨0, 0, 2, by omega, by omega, h1, h2⟩
    · exact ⟨l, u, 0, hl, hu, h1, h2⟩
  · exact ⟨0, 0, 5, by omega, by omega, h1, h2⟩
theorem of_both (x : Nat) (hx : x < 18446744073709551616) : ∃ a n, a < 18446744073709551616 ∧
    (∀ w, Calls Tryd.prog 7 #[.float .f64 x] w fun e w' => e = .returned (.tuple #[spV a a, .int .i64 n]) ∧ Below w.heap.size w w') ∧
    (∀ w, Calls Tryd.prog 8 #[.float .f64 x] w fun e w' => e = .returned (.tuple #[spV a a, .int .i64 n]) ∧ Below w.heap.size w w') := by
  have h1 := fun w => sof_any x hx w
  have h2 := fun w => rof_any x hx w
  cases q : finB x <;> rw [q] at h1 h2
  · exact ⟨0, 5, by omega, h1, h2⟩
  · exact ⟨x, 0, hx, h1, h2⟩
theorem undraw {w w1 : World} (h : Below w.drew.heap.size w.drew w1) : Below w.heap.size w w1 := ⟨h.os, h.tape, h.output, h.size, h.block⟩
set_option maxRecDepth 100000 in
set_option maxHeartbeats 2000000 in
theorem law_spanmakes (l u : Nat) (hl : l < 18446744073709551616) (hu : u < 18446744073709551616) (w : World) (_hT : TabW w) :
    Calls Tryd.prog 3 #[.float .f64 l, .float .f64 u] w fun e w' => e = .returned (.bool true) ∧ Below w.heap.size w w' := by
  obtain ⟨a, b, n, ha, hb, m1, m2⟩ := make_both l u hl hu
  obtain ⟨c, k, hc, f1, f2⟩ := of_both l hl
  have r1 := fun w => sright_any l u w
  have r2 := fun w => rright_any l u hl hu w
  obtain ⟨rt, hrt⟩ : ∃ r, sRt l u = r := ⟨_, rfl⟩
  rw [hrt] at r1 r2
  have hrr : (rt == rt) = true := by cases rt <;> rfl
  clear hrt
  have hst := run_storef Tryd.prog
  have t1 := fun w => told_self a b n ha hb w
  have t2 := fun w => told_self c c k hc hc w
  go_enter Tryd.func3, Tryd.ntmps3
  go_upto_region 4 with (first | (go_at_call 4; refine (sawake _).mono ?_; rintro e w1 ⟨rfl, b1⟩) | (go_at_call 5; refine (m1 _).mono ?_; rintro e w2 ⟨rfl, b2⟩))
  go_upto_region 5 with (go_at_call 6; refine (m2 _).mono ?_; rintro e w3 ⟨rfl, b3⟩; have A3 := (Bx.new w2 _ _ _).below b3)
  go_upto_region 6 with (go_at_call 7; refine (f1 _).mono ?_; rintro e w4 ⟨rfl, b4⟩; have A4 := (A3.alloc _).below b4; have B4 := (Bx.new w3 _ _ _).below b4)
  go_upto_region 8 with (go_at_call 8; refine (f2 _).mono ?_; rintro e w5 ⟨rfl, b5⟩; have A5 := (A4.alloc _).below b5; have B5 := (B4.alloc _).below b5; have C5 := (Bx.new w4 _ _ _).below b5)
  have A6 := (A5.alloc (.cells #[.float .f64 c, .float .f64 c] 25)).alloc (.cells #[.float .f64 l, .float .f64 u] 25)
  have B6 := (B5.alloc (.cells #[.float .f64 c, .float .f64 c] 25)).alloc (.cells #[.float .f64 l, .float .f64 u] 25)
  have C6 := (C5.alloc (.cells #[.float .f64 c, .float .f64 c] 25)).alloc (.cells #[.float .f64 l, .float .f64 u] 25)
  have D6 := (Bx.new w5 (.float .f64 c) (.float .f64 c) 25).alloc (.cells #[.float .f64 l, .float .f64 u] 25)
  have E6 := Bx.new1 w5 (.float .f64 l) (.float .f64 u) (.cells #[.float .f64 c, .float .f64 c] 25) 25
  have Z6 : Below w.heap.size w ((w5.alloc (.cells #[.float .f64 c, .float .f64 c] 25)).alloc (.cells #[.float .f64 l, .float .f64 u] 25)) := by
    have h2 := b1.trans (b2.mono b1.size)
    have h5 := bstep (bstep (bstep h2 b3) b4) b5
    exact (h5.alloc h5.size _).alloc (by have := h5.size; simp; omega) _
  generalize ((w5.alloc (.cells #[.float .f64 c, .float .f64 c] 25)).alloc (.cells #[.float .f64 l, .float .f64 u] 25)) = W at *
  clear A3 A4 A5 B4 B5 C5 m1 m2 f1 f2
  generalize w2.heap.size = p1 at *
  generalize w3.heap.size = p2 at *
  generalize w4.heap.size = p3 at *
  generalize w5.heap.size + 1 = p5 at *
  generalize w5.heap.size = p4 at *
  have ka0 := A6.1
  have ka1 := A6.2.1
  have kb0 := B6.1
  have kb1 := B6.2.1
  have kc0 := C6.1
  have kc1 := C6.2.1
  have kd0 := D6.1
  have kd1 := D6.2.1
  have ke0 := E6.1
  have ke1 := E6.2.1
  go_region_held3 (fun w' => w'.cell? ⟨p1, 0, none⟩ = some (.float .f64 a) ∧ w'.cell? ⟨p1, 1, none⟩ = some (.float .f64 b) ∧ w'.cell? ⟨p2, 0, none⟩ = some (.float .f64 a) ∧ w'.cell? ⟨p2, 1, none⟩ = some (.float .f64 b) ∧ w'.cell? ⟨p3, 0, none⟩ = some (.float .f64 c) ∧ w'.cell? ⟨p3, 1, none⟩ = some (.float .f64 c) ∧ w'.cell? ⟨p4, 0, none⟩ = some (.float .f64 c) ∧ w'.cell? ⟨p4, 1, none⟩ = some (.float .f64 c) ∧ w'.cell? ⟨p5, 0, none⟩ = some (.float .f64 l) ∧ w'.cell? ⟨p5, 1, none⟩ = some (.float .f64 u)) (go_keep)
    (first
      | (go_at_call_of 9 (Value.int IntKind.i64 n); refine (t1 _).mono ?_; rintro e x1 ⟨rfl, y1⟩; have z1 := undraw y1; obtain ⟨ka0, ka1, _⟩ := A6.below z1; obtain ⟨kb0, kb1, _⟩ := B6.below z1; obtain ⟨kc0, kc1, _⟩ := C6.below z1; obtain ⟨kd0, kd1, _⟩ := D6.below z1; obtain ⟨ke0, ke1, _⟩ := E6.below z1)
      | (go_at_call_of 9 (Value.int IntKind.i64 k); refine (t2 _).mono ?_; rintro e x2 ⟨rfl, y2⟩; have z2 := z1.trans (y2.mono z1.size); obtain ⟨ka0, ka1, _⟩ := A6.below z2; obtain ⟨kb0, kb1, _⟩ := B6.below z2; obtain ⟨kc0, kc1, _⟩ := C6.below z2; obtain ⟨kd0, kd1, _⟩ := D6.below z2; obtain ⟨ke0, ke1, _⟩ := E6.below z2)
      | (go_at_call 10; refine (r1 _).mono ?_; rintro e x3 ⟨rfl, y3⟩; have z3 := z2.trans (y3.mono z2.size); obtain ⟨ka0, ka1, _⟩ := A6.below z3; obtain ⟨kb0, kb1, _⟩ := B6.below z3; obtain ⟨kc0, kc1, _⟩ := C6.below z3; obtain ⟨kd0, kd1, _⟩ := D6.below z3; obtain ⟨ke0, ke1, _⟩ := E6.below z3)
      | (go_at_call 11; refine (r2 _).mono ?_; rintro e x4 ⟨rfl, y4⟩; have z4 := z3.trans (y4.mono z3.size); obtain ⟨ka0, ka1, _⟩ := A6.below z4; obtain ⟨kb0, kb1, _⟩ := B6.below z4; obtain ⟨kc0, kc1, _⟩ := C6.below z4; obtain ⟨kd0, kd1, _⟩ := D6.below z4; obtain ⟨ke0, ke1, _⟩ := E6.below z4))
  go_wp2
  go_ret
  exact ⟨rfl, Z6.trans (z4.mono Z6.size)⟩
end Go.Proofs.YtiaeannkkjhkaaaDoor
