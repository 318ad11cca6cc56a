/- What span's product, quotient, corners (with what is done at them), Mul and Div answer, where what round answers of their ends is known. -/
import Derived.Test.YtmgdkadkokpapaaDoorUb
namespace Go.Proofs.YtmgdkadkokpapaaDoor
open Go.RowKit

set_option maxHeartbeats 800000 in
theorem sprod_in (x y r : Nat) (m : Int) (hx : x < 18446744073709551616) (hy : y < 18446744073709551616) (fx : finB x = true) (fy : finB y = true) (h : Tells3 44 x y m r) : Tells3 55 x y m r := by
  intro w
  have cx := sfin_any x hx
  have cy := sfin_any y hy
  rw [fx] at cx
  rw [fy] at cy
  have z1 := zero_eq hx
  have z2 := zero_eq hy
  cases q1 : (rung x == 0) <;> rw [q1] at z1 <;> cases q2 : (rung y == 0) <;> rw [q2] at z2 <;>
    (go_enter Tryd.func55, Tryd.ntmps55
     go_wp2_with (first
       | (go_at_call_of 29 (Value.float FloatKind.f64 x); refine (cx _).mono ?_; rintro e w' ⟨rfl, rfl⟩)
       | (go_at_call_of 29 (Value.float FloatKind.f64 y); refine (cy _).mono ?_; rintro e w' ⟨rfl, rfl⟩)
       | (go_at_call 44; refine (h _).mono ?_; rintro e w' ⟨rfl, rfl⟩))
     go_ret
     exact ⟨rfl, rfl⟩)
set_option maxHeartbeats 800000 in
theorem squot_in (x y r : Nat) (m : Int) (hx : x < 18446744073709551616) (fx : finB x = true) (h : Tells3 74 x y m r) : Tells3 73 x y m r := by
  intro w
  have cx := sfin_any x hx
  rw [fx] at cx
  go_enter Tryd.func73, Tryd.ntmps73
  go_wp2_with (first
    | (go_at_call 29; refine (cx _).mono ?_; rintro e w' ⟨rfl, rfl⟩)
    | (go_at_call 74; refine (h _).mono ?_; rintro e w' ⟨rfl, rfl⟩))
  go_ret
  exact ⟨rfl, rfl⟩
theorem cell_al {w : World} {a : Addr} {v : Value} (h : w.cell? a = some v) (o : Obj) : (w.alloc o).cell? a = some v := by
  rw [((Below.refl _ _).alloc (Nat.le_refl _) o).cell (World.block_lt_of_cell? w _ h)]; exact h
theorem Bx.new3 (w : World) (x y : Value) (o p q : Obj) (t : TypeId) : Bx ((((w.alloc o).alloc p).alloc q).alloc (.cells #[x, y] t)) (w.heap.size + 1 + 1 + 1) x y := by
  have h := Bx.new2 (w.alloc o) x y p q t
  have e : (w.alloc o).heap.size = w.heap.size + 1 := by go_simp
  rw [e] at h
  exact h
theorem old4 {w w1 : World} {o p q r : Obj} (hb : Below ((((w.alloc o).alloc p).alloc q).alloc r).heap.size ((((w.alloc o).alloc p).alloc q).alloc r) w1) : Below w.heap.size w w1 := old1 (old3 hb)
/-- The least, the greatest at four corners. -/
def lsC (R : Int → Nat → Nat → Nat) (a b c d : Nat) : Nat := lsF (lsF (lsF (R 1 a c) (R 1 a d)) (R 1 b c)) (R 1 b d)
def grC (R : Int → Nat → Nat → Nat) (a b c d : Nat) : Nat := grF (grF (grF (R 2 a c) (R 2 a d)) (R 2 b c)) (R 2 b d)
set_option maxHeartbeats 1600000 in
theorem sall4_p (a b c d D A C : Nat) (R : Nat → Nat → Nat) (m : Int) (h : ∀ x y, (x = a ∨ x = b) → (y = c ∨ y = d) → Tells3 55 x y m (R x y))
    (w : World) (cd : w.cell? ⟨D, 0, none⟩ = some (.func (.func 55) #[] #[])) (ca : w.cell? ⟨A, 0, none⟩ = some (.float .f64 a)) (cb : w.cell? ⟨A, 1, none⟩ = some (.float .f64 b)) (cc : w.cell? ⟨C, 0, none⟩ = some (.float .f64 c)) (ce : w.cell? ⟨C, 1, none⟩ = some (.float .f64 d)) :
    Calls Tryd.prog 85 #[.int .i8 m, .pointer (some ⟨D, 0, none⟩), .pointer (some ⟨A, 0, none⟩), .pointer (some ⟨C, 0, none⟩)] w fun e w' => e = .returned (.tuple #[.float .f64 (R a c), .float .f64 (R a d), .float .f64 (R b c), .float .f64 (R b d)]) ∧ Below w.heap.size w w' := by
  go_enter Tryd.func85, Tryd.ntmps85
  go_wp2
  go_quiet ((go_at_call 55; exact Calls.quiet_of_same (h _ _ (by first | exact Or.inl rfl | exact Or.inr rfl) (by first | exact Or.inl rfl | exact Or.inr rfl) _)))
  go_wp2
  exact bodyPost_ret (v := .tuple #[.float .f64 (R a c), .float .f64 (R a d), .float .f64 (R b c), .float .f64 (R b d)]) (by simp [results, Tryd.results85, go_sem]) rfl ⟨rfl, below_drewN (Below.refl _ _) _⟩
set_option maxHeartbeats 2000000 in
theorem scorn_p (a b c d : Nat) (R : Int → Nat → Nat → Nat) (h : ∀ m x y, (x = a ∨ x = b) → (y = c ∨ y = d) → Tells3 55 x y m (R m x y) ∧ R m x y < 18446744073709551616) (w : World) :
    Calls Tryd.prog 54 #[spV a b, spV c d, .func (.func 55) #[] #[]] w fun e w' => e = .returned (spV (lsC R a b c d) (grC R a b c d)) ∧ Below w.heap.size w w' := by
  have hst := run_storef Tryd.prog
  have h1 := fun x y p q => (h 1 x y p q).1
  have h2 := fun x y p q => (h 2 x y p q).1
  have hl := fun m x y p q => (h m x y p q).2
  have b11 := hl 1 a c (Or.inl rfl) (Or.inl rfl)
  have b12 := hl 1 a d (Or.inl rfl) (Or.inr rfl)
  have b13 := hl 1 b c (Or.inr rfl) (Or.inl rfl)
  have b14 := hl 1 b d (Or.inr rfl) (Or.inr rfl)
  have b21 := hl 2 a c (Or.inl rfl) (Or.inl rfl)
  have b22 := hl 2 a d (Or.inl rfl) (Or.inr rfl)
  have b23 := hl 2 b c (Or.inr rfl) (Or.inl rfl)
  have b24 := hl 2 b d (Or.inr rfl) (Or.inr rfl)
  have eL : Hid (lsC R a b c d = lsF (lsF (lsF (R 1 a c) (R 1 a d)) (R 1 b c)) (R 1 b d)) := rfl
  have eG : Hid (grC R a b c d = grF (grF (grF (R 2 a c) (R 2 a d)) (R 2 b c)) (R 2 b d)) := rfl
  clear h hl
  go_enter Tryd.func54, Tryd.ntmps54
  go_wp2_with (first
    | (go_at_call_of 85 (Value.int IntKind.i8 1); refine (sall4_p a b c d _ _ _ (R 1) 1 h1 _ (by go_simp) (by go_simp) (by go_simp) (by go_simp) (by go_simp)).mono ?_; rintro e w1 ⟨rfl, b1⟩; have A1 := ((((Bx.new _ _ _ _).alloc _).alloc _).alloc _).below b1; have C1 := (((Bx.new1 _ _ _ _ _).alloc _).alloc _).below b1; have R1 := (Bx.new3 _ _ _ _ _ _ _).below b1; have D1 : w1.cell? ⟨w.heap.size + 1 + 1, 0, none⟩ = some (.func (.func 55) #[] #[]) := ((oldc b1).1 (w.heap.size + 1 + 1) 0 (by go_simp)).trans (by go_simp); have B1 := old4 b1)
    | (go_at_call_of 85 (Value.int IntKind.i8 2); refine (sall4_p a b c d _ _ _ (R 2) 2 h2 _ (cell_al D1 _) (A1.alloc _).1 (A1.alloc _).2.1 (C1.alloc _).1 (C1.alloc _).2.1).mono ?_; rintro e w2 ⟨rfl, b2⟩; have R2 := (R1.alloc _).below b2; have B2 := old1 b2)
    | (go_at_call 86; refine (sleast_four _ _ _ _ _ b11 b12 b13 b14 _ (by go_simp) (by go_simp) (by go_simp)).mono ?_; rw [← eL.out]; rintro e w' ⟨rfl, rfl⟩)
    | (go_at_call 71; refine (sgreatest_four _ _ _ _ _ b21 b22 b23 b24 _ (by go_simp) (by go_simp) (by go_simp)).mono ?_; rw [← eG.out]; rintro e w' ⟨rfl, rfl⟩; obtain ⟨c0, c1, f0, f1, _⟩ := R2.alloc (.cells #[.float .f64 (R 2 a d), .float .f64 (R 2 b c), .float .f64 (R 2 b d)] 22)))
  have B3 := B1.trans (B2.mono B1.size)
  exact bodyPost_ret (v := spV (lsC R a b c d) (grC R a b c d)) (by simp [results, Tryd.results54, go_sem, c0, c1]) rfl ⟨rfl, set2 (B3.alloc B3.size _) (by omega) _ _⟩
set_option maxHeartbeats 800000 in
theorem sproduct_of (a b c d : Nat) (R : Int → Nat → Nat → Nat) (h : ∀ m x y, (x = a ∨ x = b) → (y = c ∨ y = d) → Tells3 55 x y m (R m x y) ∧ R m x y < 18446744073709551616) (w : World) :
    Calls Tryd.prog 37 #[spV a b, spV c d] w fun e w' => e = .returned (spV (lsC R a b c d) (grC R a b c d)) ∧ Below w.heap.size w w' := by
  have hst := run_storef Tryd.prog
  have hc := scorn_p a b c d R h
  clear h
  go_enter Tryd.func37, Tryd.ntmps37
  go_wp2_with (go_at_call 54; refine (hc _).mono ?_; rintro e w1 ⟨rfl, b1⟩; obtain ⟨c0, c1, f0, f1, _⟩ := (Bx.new2 _ _ _ _ _ _).below b1)
  exact bodyPost_ret (v := spV (lsC R a b c d) (grC R a b c d)) (by simp [results, Tryd.results37, go_sem, c0, c1]) rfl ⟨rfl, set2 (old3 b1) (by omega) _ _⟩
set_option maxHeartbeats 1600000 in
theorem sall4_q (a b c d D A C : Nat) (R : Nat → Nat → Nat) (m : Int) (h : ∀ x y, (x = a ∨ x = b) → (y = c ∨ y = d) → Tells3 73 x y m (R x y))
    (w : World) (cd : w.cell? ⟨D, 0, none⟩ = some (.func (.func 73) #[] #[])) (ca : w.cell? ⟨A, 0, none⟩ = some (.float .f64 a)) (cb : w.cell? ⟨A, 1, none⟩ = some (.float .f64 b)) (cc : w.cell? ⟨C, 0, none⟩ = some (.float .f64 c)) (ce : w.cell? ⟨C, 1, none⟩ = some (.float .f64 d)) :
    Calls Tryd.prog 85 #[.int .i8 m, .pointer (some ⟨D, 0, none⟩), .pointer (some ⟨A, 0, none⟩), .pointer (some ⟨C, 0, none⟩)] w fun e w' => e = .returned (.tuple #[.float .f64 (R a c), .float .f64 (R a d), .float .f64 (R b c), .float .f64 (R b d)]) ∧ Below w.heap.size w w' := by
  go_enter Tryd.func85, Tryd.ntmps85
  go_wp2
  go_quiet ((go_at_call 73; exact Calls.quiet_of_same (h _ _ (by first | exact Or.inl rfl | exact Or.inr rfl) (by first | exact Or.inl rfl | exact Or.inr rfl) _)))
  go_wp2
  exact bodyPost_ret (v := .tuple #[.float .f64 (R a c), .float .f64 (R a d), .float .f64 (R b c), .float .f64 (R b d)]) (by simp [results, Tryd.results85, go_sem]) rfl ⟨rfl, below_drewN (Below.refl _ _) _⟩
set_option maxHeartbeats 2000000 in
theorem scorn_q (a b c d : Nat) (R : Int → Nat → Nat → Nat) (h : ∀ m x y, (x = a ∨ x = b) → (y = c ∨ y = d) → Tells3 73 x y m (R m x y) ∧ R m x y < 18446744073709551616) (w : World) :
    Calls Tryd.prog 54 #[spV a b, spV c d, .func (.func 73) #[] #[]] w fun e w' => e = .returned (spV (lsC R a b c d) (grC R a b c d)) ∧ Below w.heap.size w w' := by
  have hst := run_storef Tryd.prog
  have h1 := fun x y p q => (h 1 x y p q).1
  have h2 := fun x y p q => (h 2 x y p q).1
  have hl := fun m x y p q => (h m x y p q).2
  have b11 := hl 1 a c (Or.inl rfl) (Or.inl rfl)
  have b12 := hl 1 a d (Or.inl rfl) (Or.inr rfl)
  have b13 := hl 1 b c (Or.inr rfl) (Or.inl rfl)
  have b14 := hl 1 b d (Or.inr rfl) (Or.inr rfl)
  have b21 := hl 2 a c (Or.inl rfl) (Or.inl rfl)
  have b22 := hl 2 a d (Or.inl rfl) (Or.inr rfl)
  have b23 := hl 2 b c (Or.inr rfl) (Or.inl rfl)
  have b24 := hl 2 b d (Or.inr rfl) (Or.inr rfl)
  have eL : Hid (lsC R a b c d = lsF (lsF (lsF (R 1 a c) (R 1 a d)) (R 1 b c)) (R 1 b d)) := rfl
  have eG : Hid (grC R a b c d = grF (grF (grF (R 2 a c) (R 2 a d)) (R 2 b c)) (R 2 b d)) := rfl
  clear h hl
  go_enter Tryd.func54, Tryd.ntmps54
  go_wp2_with (first
    | (go_at_call_of 85 (Value.int IntKind.i8 1); refine (sall4_q a b c d _ _ _ (R 1) 1 h1 _ (by go_simp) (by go_simp) (by go_simp) (by go_simp) (by go_simp)).mono ?_; rintro e w1 ⟨rfl, b1⟩; have A1 := ((((Bx.new _ _ _ _).alloc _).alloc _).alloc _).below b1; have C1 := (((Bx.new1 _ _ _ _ _).alloc _).alloc _).below b1; have R1 := (Bx.new3 _ _ _ _ _ _ _).below b1; have D1 : w1.cell? ⟨w.heap.size + 1 + 1, 0, none⟩ = some (.func (.func 73) #[] #[]) := ((oldc b1).1 (w.heap.size + 1 + 1) 0 (by go_simp)).trans (by go_simp); have B1 := old4 b1)
    | (go_at_call_of 85 (Value.int IntKind.i8 2); refine (sall4_q a b c d _ _ _ (R 2) 2 h2 _ (cell_al D1 _) (A1.alloc _).1 (A1.alloc _).2.1 (C1.alloc _).1 (C1.alloc _).2.1).mono ?_; rintro e w2 ⟨rfl, b2⟩; have R2 := (R1.alloc _).below b2; have B2 := old1 b2)
    | (go_at_call 86; refine (sleast_four _ _ _ _ _ b11 b12 b13 b14 _ (by go_simp) (by go_simp) (by go_simp)).mono ?_; rw [← eL.out]; rintro e w' ⟨rfl, rfl⟩)
    | (go_at_call 71; refine (sgreatest_four _ _ _ _ _ b21 b22 b23 b24 _ (by go_simp) (by go_simp) (by go_simp)).mono ?_; rw [← eG.out]; rintro e w' ⟨rfl, rfl⟩; obtain ⟨c0, c1, f0, f1, _⟩ := R2.alloc (.cells #[.float .f64 (R 2 a d), .float .f64 (R 2 b c), .float .f64 (R 2 b d)] 22)))
  have B3 := B1.trans (B2.mono B1.size)
  exact bodyPost_ret (v := spV (lsC R a b c d) (grC R a b c d)) (by simp [results, Tryd.results54, go_sem, c0, c1]) rfl ⟨rfl, set2 (B3.alloc B3.size _) (by omega) _ _⟩
set_option maxHeartbeats 800000 in
theorem squotient_of (a b c d : Nat) (R : Int → Nat → Nat → Nat) (h : ∀ m x y, (x = a ∨ x = b) → (y = c ∨ y = d) → Tells3 73 x y m (R m x y) ∧ R m x y < 18446744073709551616) (w : World) :
    Calls Tryd.prog 49 #[spV a b, spV c d] w fun e w' => e = .returned (spV (lsC R a b c d) (grC R a b c d)) ∧ Below w.heap.size w w' := by
  have hst := run_storef Tryd.prog
  have hc := scorn_q a b c d R h
  clear h
  go_enter Tryd.func49, Tryd.ntmps49
  go_wp2_with (go_at_call 54; refine (hc _).mono ?_; rintro e w1 ⟨rfl, b1⟩; obtain ⟨c0, c1, f0, f1, _⟩ := (Bx.new2 _ _ _ _ _ _).below b1)
  exact bodyPost_ret (v := spV (lsC R a b c d) (grC R a b c d)) (by simp [results, Tryd.results49, go_sem, c0, c1]) rfl ⟨rfl, set2 (old3 b1) (by omega) _ _⟩
end Go.Proofs.YtmgdkadkokpapaaDoor
