/- Both sides' sums, differences, products and quotients of any two spans are one. -/
import Derived.Test.YtfipmopmpacdaaaGreatDoorZj
import Derived.Test.YtfipmopmpacdaaaGreatDoorZ10
import Derived.Test.YtfipmopmpacdaaaGreatDoorZR
import Derived.Test.YtfipmopmpacdaaaGreatDoorZg
namespace Go.Proofs.YtfipmopmpacdaaaGreatDoor
open Go.RowKit
abbrev TB (f : Nat) (x y : Nat) (m : Int) (r : Nat) : Prop := ∀ w, TabW w → Calls Tryz.prog f #[.float .f64 x, .float .f64 y, .int .i8 m] w fun e w' => e = .returned (.float .f64 r) ∧ Below w.heap.size w w'
def mulB (m : Int) (x y : Nat) : Nat := if someB x && someB y then stepF (pQ x y) (pS x y) m else (floatBits .mul .f64 x y).getD 0
def divB (m : Int) (x y : Nat) : Nat := if someB x && someB y then stepF (kQ x y) (kS x y) m else (floatBits .quo .f64 x y).getD 0
theorem nr_at {o : Option Nat} {r : Nat} (h : o.isSome = true) (hr : NR o r) : r = o.getD 0 := by
 cases o with
 | none => cases h
 | some v => exact hr.2
theorem read_nn {x : Nat} (hx : x < 18446744073709551616) (n : nanB x = false) : Ieee.double.read x = if finB x then .number (sgn x) (mg (rung x)) (-1074 + ((up (rung x) : Nat) : Int)) else .infinity (sgn x) := by
 cases hf : finB x
 ·have h1 : rung x = 9218868437227405312 := by
   unfold finB at hf; unfold nanB at n; simp at hf n; omega
  rw [read_eq x hx, if_neg (by omega), if_pos h1]; rfl
 ·rw [read_fin hx hf]; rfl
theorem mg_nil {x : Nat} : mg (rung x) = 0 ↔ rung x = 0 := by
 unfold mg; split <;> omega
theorem mulS_ok {x y : Nat} (hx : x < 18446744073709551616) (hy : y < 18446744073709551616) (nx : nanB x = false) (ny : nanB y = false) (h : ((rung x == 0 && !finB y) || (rung y == 0 && !finB x)) = false) : (floatBits .mul .f64 x y).isSome = true := by
 rw [(fbits_map x y).2.2.1, read_nn hx nx, read_nn hy ny]
 cases fx : finB x <;> cases fy : finB y <;> rw [fx, fy] at h <;> simp only [Bool.false_eq_true, if_false, if_true, Ieee.Datum.product, Option.map_some, Option.isSome_some]
 ·have : mg (rung y) ≠ 0 := by rw [Ne, mg_nil]; simpa using h
  rw [if_neg this]; rfl
 ·have : mg (rung x) ≠ 0 := by rw [Ne, mg_nil]; simpa using h
  rw [if_neg this]; rfl
theorem divS_ok {x y : Nat} (hx : x < 18446744073709551616) (hy : y < 18446744073709551616) (nx : nanB x = false) (ny : nanB y = false) (h : (!finB x && !finB y) = false) (y0 : rung y ≠ 0) : (floatBits .quo .f64 x y).isSome = true := by
 have m0 : mg (rung y) ≠ 0 := by rw [Ne, mg_nil]; exact y0
 rw [(fbits_map x y).2.2.2, read_nn hx nx, read_nn hy ny]
 cases fx : finB x <;> cases fy : finB y <;> rw [fx, fy] at h <;> simp only [Bool.false_eq_true, if_false, if_true, Ieee.Datum.quotient, Option.map_some, Option.isSome_some]
 ·cases h
 ·rw [if_neg m0]; rfl
def tB (m : Int) (x y : Nat) : Nat := if (rung x == 0 && !finB y) || (rung y == 0 && !finB x) then 0 else mulB m x y
def oB (m : Int) (x y : Nat) : Nat := if !finB x && !finB y then 0 else divB m x y
structure QOf (W : World) where
 val : World
 below : Below W.heap.size W val
 tab : TabW val
theorem region_quietB {P : Program} {id : Nat} {Q : Exit → Act → World → Prop} {a : Act} {w : World} {l : List Oper} (hm : P.follows .mixedOrders = true) (hB : Region.lexB .any l.toArray = true) (hT : TabW w)
  (h : wpQuiet P l.toArray (fun w' => ∃ u : QOf w, w' = u.val) (fun a' => ∀ w', (∃ u : QOf w, w' = u.val) → Q .normal a' w') l a) : (Code.region id l.toArray true).wp P Q a w :=
 wp_region_quiet (C := fun w' => ∃ u : QOf w, w' = u.val) hm hB ⟨⟨w.drew, (Below.refl _ _).drew, tabW_below hT (Below.refl _ _).drew⟩, rfl⟩ h
theorem quietB_of {P : Program} {f : Nat} {args : Array Value} {W : World} {u : QOf W} {v : Value} (h : Calls P f args u.val fun e w' => e = .returned v ∧ Below u.val.heap.size u.val w') : Calls P f args u.val fun e w'' => e = .returned v ∧ ∃ u' : QOf W, w'' = u'.val :=
 h.mono fun _ w' ⟨he, hb⟩ => ⟨he, ⟨w', u.below.trans (hb.mono u.below.size), tabW_below u.tab hb⟩, rfl⟩
theorem QOf.cell {W : World} (u : QOf W) {p : Addr} {v : Value} (h : W.cell? p = some v) : u.val.cell? p = some v := by
 rw [u.below.cell (World.block_lt_of_cell? W _ h)]; exact h
theorem QOf.any {W : World} (hT : TabW W) : Nonempty (QOf W) := ⟨⟨W, Below.refl _ _, hT⟩⟩
set_option maxRecDepth 100000 in
set_option maxHeartbeats 1600000 in
theorem scorn1_P (a b c d D A C : Nat) (R : Nat → Nat → Nat) (m : Int) (h : ∀ x y, (x = a ∨ x = b) → (y = c ∨ y = d) → TB 85 x y m (R x y))
  (w : World) (hT : TabW w) (cd : w.cell? ⟨D, 0, none⟩ = some (.func (.func 85) #[] #[])) (ca : w.cell? ⟨A, 0, none⟩ = some (.float .f64 a)) (cb : w.cell? ⟨A, 1, none⟩ = some (.float .f64 b)) (cc : w.cell? ⟨C, 0, none⟩ = some (.float .f64 c)) (ce : w.cell? ⟨C, 1, none⟩ = some (.float .f64 d)) :
  Calls Tryz.prog 100 #[.int .i8 m, .pointer (some ⟨D, 0, none⟩), .pointer (some ⟨A, 0, none⟩), .pointer (some ⟨C, 0, none⟩)] w fun e w' => e = .returned (.tuple #[.float .f64 (R a c), .float .f64 (R a d), .float .f64 (R b c), .float .f64 (R b d)]) ∧ Below w.heap.size w w' := by
 go_enter Tryz.func100, Tryz.ntmps100
 go_wp2
 have hne : Nonempty (QOf w) := QOf.any hT
 have k0 : ∀ u : QOf w, u.val.cell? ⟨D, 0, none⟩ = some (.func (.func 85) #[] #[]) := fun u => u.cell cd
 have k1 : ∀ u : QOf w, u.val.cell? ⟨A, 0, none⟩ = some (.float .f64 a) := fun u => u.cell ca
 have k2 : ∀ u : QOf w, u.val.cell? ⟨A, 1, none⟩ = some (.float .f64 b) := fun u => u.cell cb
 have k3 : ∀ u : QOf w, u.val.cell? ⟨C, 0, none⟩ = some (.float .f64 c) := fun u => u.cell cc
 have k4 : ∀ u : QOf w, u.val.cell? ⟨C, 1, none⟩ = some (.float .f64 d) := fun u => u.cell ce
 refine region_quietB (by kernel_rfl) (by kernel_rfl) hT ?_
 repeat (quiet_step ((go_at_call 85; refine quietB_of (h _ _ ?_ ?_ _ (QOf.tab _)) <;> first | exact Or.inl rfl | exact Or.inr rfl)))
 refine wpQuiet_nil ?_
 intro w' hw'
 obtain ⟨u, rfl⟩ := hw'
 go_wp2
 exact bodyPost_ret (v := .tuple #[.float .f64 (R a c), .float .f64 (R a d), .float .f64 (R b c), .float .f64 (R b d)]) (by simp [results, Tryz.results100, go_sem]) rfl ⟨rfl, u.below⟩
set_option maxHeartbeats 2000000 in
theorem scorn_P (a b c d : Nat) (R : Int → Nat → Nat → Nat) (h : ∀ m x y, (x = a ∨ x = b) → (y = c ∨ y = d) → TB 85 x y m (R m x y) ∧ R m x y < 18446744073709551616) (w : World) (hT : TabW w) :
  Calls Tryz.prog 84 #[spV a b, spV c d, .func (.func 85) #[] #[]] w fun e w' => e = .returned (spV (lsC R a b c d) (grC R a b c d)) ∧ Below w.heap.size w w' := by
 have hst := run_storef Tryz.prog
 have h1 := fun x y p q => (h 1 x y p q).1
 have h2 := fun x y p q => (h 2 x y p q).1
 have hl := fun m x y p q => (h m x y p q).2
 have b11 := hl 1 a c (Or.inl rfl) (Or.inl rfl)
 have b12 := hl 1 a d (Or.inl rfl) (Or.inr rfl)
 have b13 := hl 1 b c (Or.inr rfl) (Or.inl rfl)
 have b14 := hl 1 b d (Or.inr rfl) (Or.inr rfl)
 have b21 := hl 2 a c (Or.inl rfl) (Or.inl rfl)
 have b22 := hl 2 a d (Or.inl rfl) (Or.inr rfl)
 have b23 := hl 2 b c (Or.inr rfl) (Or.inl rfl)
 have b24 := hl 2 b d (Or.inr rfl) (Or.inr rfl)
 have eL : Hid (lsC R a b c d = lsF (lsF (lsF (R 1 a c) (R 1 a d)) (R 1 b c)) (R 1 b d)) := rfl
 have eG : Hid (grC R a b c d = grF (grF (grF (R 2 a c) (R 2 a d)) (R 2 b c)) (R 2 b d)) := rfl
 clear h hl
 go_enter Tryz.func84, Tryz.ntmps84
 go_wp2_with (first
  | (go_at_call_of 100 (Value.int IntKind.i8 1); refine (scorn1_P a b c d _ _ _ (R 1) 1 h1 _ (tabW_alloc (tabW_alloc (tabW_alloc (tabW_alloc hT _) _) _) _) (by go_simp) (by go_simp) (by go_simp) (by go_simp) (by go_simp)).mono ?_; rintro e w1 ⟨rfl, b1⟩; have A1 := ((((Bx.new _ _ _ _).alloc _).alloc _).alloc _).below b1; have C1 := (((Bx.new1 _ _ _ _ _).alloc _).alloc _).below b1; have R1 := (Bx.new3 _ _ _ _ _ _ _).below b1; have D1 : w1.cell? ⟨w.heap.size + 1 + 1, 0, none⟩ = some (.func (.func 85) #[] #[]) := ((oldc b1).1 (w.heap.size + 1 + 1) 0 (by go_simp)).trans (by go_simp); have B1 := old4 b1; have T1 := tabW_below hT B1)
  | (go_at_call_of 100 (Value.int IntKind.i8 2); refine (scorn1_P a b c d _ _ _ (R 2) 2 h2 _ (tabW_alloc T1 _) (cell_al D1 _) (A1.alloc _).1 (A1.alloc _).2.1 (C1.alloc _).1 (C1.alloc _).2.1).mono ?_; rintro e w2 ⟨rfl, b2⟩; have R2 := (R1.alloc _).below b2; have B2 := old1 b2)
  | (go_at_call 101; refine (sleast_four _ _ _ _ _ b11 b12 b13 b14 _ (by go_simp) (by go_simp) (by go_simp)).mono ?_; rw [← eL.out]; rintro e w' ⟨rfl, rfl⟩)
  | (go_at_call 102; refine (sgreatest_four _ _ _ _ _ b21 b22 b23 b24 _ (by go_simp) (by go_simp) (by go_simp)).mono ?_; rw [← eG.out]; rintro e w' ⟨rfl, rfl⟩; obtain ⟨c0, c1, f0, f1, _⟩ := R2.alloc (.cells #[.float .f64 (R 2 a d), .float .f64 (R 2 b c), .float .f64 (R 2 b d)] 36)))
 have B3 := B1.trans (B2.mono B1.size)
 exact bodyPost_ret (v := spV (lsC R a b c d) (grC R a b c d)) (by simp [results, Tryz.results84, go_sem, c0, c1]) rfl ⟨rfl, set2 (B3.alloc B3.size _) (by omega) _ _⟩
set_option maxRecDepth 100000 in
set_option maxHeartbeats 1600000 in
theorem scorn1_Q (a b c d D A C : Nat) (R : Nat → Nat → Nat) (m : Int) (h : ∀ x y, (x = a ∨ x = b) → (y = c ∨ y = d) → TB 94 x y m (R x y))
  (w : World) (hT : TabW w) (cd : w.cell? ⟨D, 0, none⟩ = some (.func (.func 94) #[] #[])) (ca : w.cell? ⟨A, 0, none⟩ = some (.float .f64 a)) (cb : w.cell? ⟨A, 1, none⟩ = some (.float .f64 b)) (cc : w.cell? ⟨C, 0, none⟩ = some (.float .f64 c)) (ce : w.cell? ⟨C, 1, none⟩ = some (.float .f64 d)) :
  Calls Tryz.prog 100 #[.int .i8 m, .pointer (some ⟨D, 0, none⟩), .pointer (some ⟨A, 0, none⟩), .pointer (some ⟨C, 0, none⟩)] w fun e w' => e = .returned (.tuple #[.float .f64 (R a c), .float .f64 (R a d), .float .f64 (R b c), .float .f64 (R b d)]) ∧ Below w.heap.size w w' := by
 go_enter Tryz.func100, Tryz.ntmps100
 go_wp2
 have hne : Nonempty (QOf w) := QOf.any hT
 have k0 : ∀ u : QOf w, u.val.cell? ⟨D, 0, none⟩ = some (.func (.func 94) #[] #[]) := fun u => u.cell cd
 have k1 : ∀ u : QOf w, u.val.cell? ⟨A, 0, none⟩ = some (.float .f64 a) := fun u => u.cell ca
 have k2 : ∀ u : QOf w, u.val.cell? ⟨A, 1, none⟩ = some (.float .f64 b) := fun u => u.cell cb
 have k3 : ∀ u : QOf w, u.val.cell? ⟨C, 0, none⟩ = some (.float .f64 c) := fun u => u.cell cc
 have k4 : ∀ u : QOf w, u.val.cell? ⟨C, 1, none⟩ = some (.float .f64 d) := fun u => u.cell ce
 refine region_quietB (by kernel_rfl) (by kernel_rfl) hT ?_
 repeat (quiet_step ((go_at_call 94; refine quietB_of (h _ _ ?_ ?_ _ (QOf.tab _)) <;> first | exact Or.inl rfl | exact Or.inr rfl)))
 refine wpQuiet_nil ?_
 intro w' hw'
 obtain ⟨u, rfl⟩ := hw'
 go_wp2
 exact bodyPost_ret (v := .tuple #[.float .f64 (R a c), .float .f64 (R a d), .float .f64 (R b c), .float .f64 (R b d)]) (by simp [results, Tryz.results100, go_sem]) rfl ⟨rfl, u.below⟩
set_option maxHeartbeats 2000000 in
theorem scorn_Q (a b c d : Nat) (R : Int → Nat → Nat → Nat) (h : ∀ m x y, (x = a ∨ x = b) → (y = c ∨ y = d) → TB 94 x y m (R m x y) ∧ R m x y < 18446744073709551616) (w : World) (hT : TabW w) :
  Calls Tryz.prog 84 #[spV a b, spV c d, .func (.func 94) #[] #[]] w fun e w' => e = .returned (spV (lsC R a b c d) (grC R a b c d)) ∧ Below w.heap.size w w' := by
 have hst := run_storef Tryz.prog
 have h1 := fun x y p q => (h 1 x y p q).1
 have h2 := fun x y p q => (h 2 x y p q).1
 have hl := fun m x y p q => (h m x y p q).2
 have b11 := hl 1 a c (Or.inl rfl) (Or.inl rfl)
 have b12 := hl 1 a d (Or.inl rfl) (Or.inr rfl)
 have b13 := hl 1 b c (Or.inr rfl) (Or.inl rfl)
 have b14 := hl 1 b d (Or.inr rfl) (Or.inr rfl)
 have b21 := hl 2 a c (Or.inl rfl) (Or.inl rfl)
 have b22 := hl 2 a d (Or.inl rfl) (Or.inr rfl)
 have b23 := hl 2 b c (Or.inr rfl) (Or.inl rfl)
 have b24 := hl 2 b d (Or.inr rfl) (Or.inr rfl)
 have eL : Hid (lsC R a b c d = lsF (lsF (lsF (R 1 a c) (R 1 a d)) (R 1 b c)) (R 1 b d)) := rfl
 have eG : Hid (grC R a b c d = grF (grF (grF (R 2 a c) (R 2 a d)) (R 2 b c)) (R 2 b d)) := rfl
 clear h hl
 go_enter Tryz.func84, Tryz.ntmps84
 go_wp2_with (first
  | (go_at_call_of 100 (Value.int IntKind.i8 1); refine (scorn1_Q a b c d _ _ _ (R 1) 1 h1 _ (tabW_alloc (tabW_alloc (tabW_alloc (tabW_alloc hT _) _) _) _) (by go_simp) (by go_simp) (by go_simp) (by go_simp) (by go_simp)).mono ?_; rintro e w1 ⟨rfl, b1⟩; have A1 := ((((Bx.new _ _ _ _).alloc _).alloc _).alloc _).below b1; have C1 := (((Bx.new1 _ _ _ _ _).alloc _).alloc _).below b1; have R1 := (Bx.new3 _ _ _ _ _ _ _).below b1; have D1 : w1.cell? ⟨w.heap.size + 1 + 1, 0, none⟩ = some (.func (.func 94) #[] #[]) := ((oldc b1).1 (w.heap.size + 1 + 1) 0 (by go_simp)).trans (by go_simp); have B1 := old4 b1; have T1 := tabW_below hT B1)
  | (go_at_call_of 100 (Value.int IntKind.i8 2); refine (scorn1_Q a b c d _ _ _ (R 2) 2 h2 _ (tabW_alloc T1 _) (cell_al D1 _) (A1.alloc _).1 (A1.alloc _).2.1 (C1.alloc _).1 (C1.alloc _).2.1).mono ?_; rintro e w2 ⟨rfl, b2⟩; have R2 := (R1.alloc _).below b2; have B2 := old1 b2)
  | (go_at_call 101; refine (sleast_four _ _ _ _ _ b11 b12 b13 b14 _ (by go_simp) (by go_simp) (by go_simp)).mono ?_; rw [← eL.out]; rintro e w' ⟨rfl, rfl⟩)
  | (go_at_call 102; refine (sgreatest_four _ _ _ _ _ b21 b22 b23 b24 _ (by go_simp) (by go_simp) (by go_simp)).mono ?_; rw [← eG.out]; rintro e w' ⟨rfl, rfl⟩; obtain ⟨c0, c1, f0, f1, _⟩ := R2.alloc (.cells #[.float .f64 (R 2 a d), .float .f64 (R 2 b c), .float .f64 (R 2 b d)] 36)))
 have B3 := B1.trans (B2.mono B1.size)
 exact bodyPost_ret (v := spV (lsC R a b c d) (grC R a b c d)) (by simp [results, Tryz.results84, go_sem, c0, c1]) rfl ⟨rfl, set2 (B3.alloc B3.size _) (by omega) _ _⟩
abbrev CornB (F a b c d : Nat) (R : Int → Nat → Nat → Nat) : Prop := ∀ m x y, (x = a ∨ x = b) → (y = c ∨ y = d) → TB F x y m (R m x y) ∧ R m x y < 18446744073709551616
set_option maxHeartbeats 800000 in
theorem sproduct_B (a b c d : Nat) (R : Int → Nat → Nat → Nat) (h : CornB 85 a b c d R) (w : World) (hT : TabW w) :
  Calls Tryz.prog 72 #[spV a b, spV c d] w fun e w' => e = .returned (spV (lsC R a b c d) (grC R a b c d)) ∧ Below w.heap.size w w' := by
 have hst := run_storef Tryz.prog
 have hc := scorn_P a b c d R h
 clear h
 go_enter Tryz.func72, Tryz.ntmps72
 go_wp2_with (go_at_call 84; refine (hc _ (tabW_alloc (tabW_alloc (tabW_alloc hT _) _) _)).mono ?_; rintro e w1 ⟨rfl, b1⟩; obtain ⟨c0, c1, f0, f1, _⟩ := (Bx.new2 _ _ _ _ _ _).below b1)
 exact bodyPost_ret (v := spV (lsC R a b c d) (grC R a b c d)) (by simp [results, Tryz.results72, go_sem, c0, c1]) rfl ⟨rfl, set2 (old3 b1) (by omega) _ _⟩
set_option maxHeartbeats 800000 in
theorem squotient_B (a b c d : Nat) (R : Int → Nat → Nat → Nat) (h : CornB 94 a b c d R) (w : World) (hT : TabW w) :
  Calls Tryz.prog 77 #[spV a b, spV c d] w fun e w' => e = .returned (spV (lsC R a b c d) (grC R a b c d)) ∧ Below w.heap.size w w' := by
 have hst := run_storef Tryz.prog
 have hc := scorn_Q a b c d R h
 clear h
 go_enter Tryz.func77, Tryz.ntmps77
 go_wp2_with (go_at_call 84; refine (hc _ (tabW_alloc (tabW_alloc (tabW_alloc hT _) _) _)).mono ?_; rintro e w1 ⟨rfl, b1⟩; obtain ⟨c0, c1, f0, f1, _⟩ := (Bx.new2 _ _ _ _ _ _).below b1)
 exact bodyPost_ret (v := spV (lsC R a b c d) (grC R a b c d)) (by simp [results, Tryz.results77, go_sem, c0, c1]) rfl ⟨rfl, set2 (old3 b1) (by omega) _ _⟩
set_option maxHeartbeats 1600000 in
theorem smul_B (a b c d : Nat) (R : Int → Nat → Nat → Nat) (ra : sRt a b = true) (rb : sRt c d = true) (h : CornB 85 a b c d R) (w : World) (hT : TabW w) :
  Calls Tryz.prog 55 #[spV a b, spV c d] w fun e w' => e = .returned (.tuple #[spV (lsC R a b c d) (grC R a b c d), .int .i64 0]) ∧ Below w.heap.size w w' := by
 have hst := run_storef Tryz.prog
 have hs := sproduct_B a b c d R h
 clear h
 go_enter Tryz.func55, Tryz.ntmps55
 go_wp2_with (first
  | (go_at_call 71; refine (sall_two a b c d _ _ (by go_simp) (by go_simp) (by go_simp) (by go_simp) (by go_simp)).mono ?_; rw [ra, rb]; rintro e w1 ⟨rfl, b1⟩; obtain ⟨a0, a1, _⟩ := ((((Bx.new _ _ _ _).alloc _).alloc _).alloc _).below b1; have D1 := (((Bx.new1 _ _ _ _ _).alloc _).alloc _).below b1; have d0 := D1.1; have d1 := D1.2.1; have R1 := ((Bx.new2 _ _ _ _ _ _).alloc _).below b1; have g0 := R1.1; have g1 := R1.2.1; have g2 := R1.2.2.1; have g3 := R1.2.2.2.1; have b3 := old1 (old3 b1); have T1 := tabW_below hT b3)
  | (go_at_call 72; refine (hs _ T1).mono ?_; rintro e w2 ⟨rfl, b2⟩; obtain ⟨c0, c1, f0, f1, _⟩ := R1.below b2))
 exact bodyPost_ret (v := .tuple #[spV (lsC R a b c d) (grC R a b c d), .int .i64 0]) (by simp [results, Tryz.results55, go_sem, c0, c1]) rfl ⟨rfl, set2 (b3.trans (b2.mono b3.size)) (by omega) _ _⟩
set_option maxHeartbeats 1600000 in
theorem sdiv_B (a b c d : Nat) (R : Int → Nat → Nat → Nat) (ra : sRt a b = true) (rb : sRt c d = true) (h0 : (sRt c d && finB 0 && leF c 0 && leF 0 d) = false) (h : CornB 94 a b c d R) (w : World) (hT : TabW w) :
  Calls Tryz.prog 57 #[spV a b, spV c d] w fun e w' => e = .returned (.tuple #[spV (lsC R a b c d) (grC R a b c d), .int .i64 0]) ∧ Below w.heap.size w w' := by
 have hst := run_storef Tryz.prog
 have hs := squotient_B a b c d R h
 have hh := fun w => shas_any c d 0 (by omega) w
 rw [h0] at hh
 clear h h0
 go_enter Tryz.func57, Tryz.ntmps57
 go_wp2_with (first
  | (go_at_call 71; refine (sall_two a b c d _ _ (by go_simp) (by go_simp) (by go_simp) (by go_simp) (by go_simp)).mono ?_; rw [ra, rb]; rintro e w1 ⟨rfl, b1⟩; obtain ⟨a0, a1, _⟩ := ((((Bx.new _ _ _ _).alloc _).alloc _).alloc _).below b1; have D1 := (((Bx.new1 _ _ _ _ _).alloc _).alloc _).below b1; have A1 := ((((Bx.new _ _ _ _).alloc _).alloc _).alloc _).below b1; have d0 := D1.1; have d1 := D1.2.1; have R1 := ((Bx.new2 _ _ _ _ _ _).alloc _).below b1; have g0 := R1.1; have g1 := R1.2.1; have g2 := R1.2.2.1; have g3 := R1.2.2.2.1; have b4 := old1 (old3 b1))
  | (go_at_call 76; refine (hh _).mono ?_; rintro e w2 ⟨rfl, b2⟩; obtain ⟨p0, p1, _⟩ := D1.below b2; obtain ⟨q0, q1, _⟩ := A1.below b2; have R2 := R1.below b2; have b5 := b4.trans (b2.mono b4.size); have T2 := tabW_below hT b5)
  | (go_at_call 77; refine (hs _ T2).mono ?_; rintro e w3 ⟨rfl, b3⟩; obtain ⟨c0, c1, f0, f1, _⟩ := R2.below b3))
 exact bodyPost_ret (v := .tuple #[spV (lsC R a b c d) (grC R a b c d), .int .i64 0]) (by simp [results, Tryz.results57, go_sem, c0, c1]) rfl ⟨rfl, set2 (b5.trans (b3.mono b5.size)) (by omega) _ _⟩
theorem udrew {w w1 : World} (h : Below w.drew.heap.size w.drew w1) : Below w.heap.size w w1 := ⟨h.os, h.tape, h.output, h.size, h.block⟩
theorem rt_facts {l h : Nat} (hl : l < 18446744073709551616) (hh : h < 18446744073709551616) (r : sRt l h = true) : nanB l = false ∧ nanB h = false ∧ (finB l = true ∨ sgn l = true) ∧ (finB h = true ∨ sgn h = false) ∧ place l ≤ place h := by
 have nl : nanB l = false := by
  cases n : nanB l
  ·rfl
  ·rw [sRt_nan hl hh (Or.inl n)] at r; cases r
 have nh : nanB h = false := by
  cases n : nanB h
  ·rfl
  ·rw [sRt_nan hl hh (Or.inr n)] at r; cases r
 rw [sRt_doc hl hh nl nh] at r
 simp only [Bool.and_eq_true, Bool.or_eq_true, Bool.not_eq_true', decide_eq_false_iff_not, decide_eq_true_eq] at r
 obtain ⟨r1, r2, r3⟩ := r
 refine ⟨nl, nh, ?_, ?_, by omega⟩
 ·rcases r2 with g | g
  ·exact Or.inl g
  ·right
   unfold place at g
   cases s : sgn l
   ·rw [s] at g; simp at g; omega
   ·rfl
 ·rcases r3 with g | g
  ·exact Or.inl g
  ·right
   unfold place at g
   cases s : sgn h
   ·rfl
   ·rw [s] at g; simp at g; omega
abbrev Both (F G a b c d : Nat) : Prop := ∃ lo hi n, lo < 18446744073709551616 ∧ hi < 18446744073709551616 ∧
  (∀ w, TabW w → Calls Tryz.prog F #[spV a b, spV c d] w fun e w' => e = .returned (.tuple #[spV lo hi, .int .i64 n]) ∧ Below w.heap.size w w') ∧
  (∀ w, TabW w → Calls Tryz.prog G #[spV a b, spV c d] w fun e w' => e = .returned (.tuple #[spV lo hi, .int .i64 n]) ∧ Below w.heap.size w w')
end Go.Proofs.YtfipmopmpacdaaaGreatDoor
