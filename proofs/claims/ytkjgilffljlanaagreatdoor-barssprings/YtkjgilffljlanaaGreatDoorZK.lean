/- Both sides' sums, differences, products and quotients of any two spans are one. -/
import Derived.Test.YtkjgilffljlanaaGreatDoorZj
import Derived.Test.YtkjgilffljlanaaGreatDoorZ10
import Derived.Test.YtkjgilffljlanaaGreatDoorZR
import Derived.Test.YtkjgilffljlanaaGreatDoorZg
namespace Go.Proofs.YtkjgilffljlanaaGreatDoor
open Go.RowKit
abbrev TB (f : Nat) (x y : Nat) (m : Int) (r : Nat) : Prop := ∀ w, TabW w → Calls Tryz.prog f #[.float .f64 x, .float .f64 y, .int .i8 m] w fun e w' => e = .returned (.float .f64 r) ∧ Below w.heap.size w w'
def mulB (m : Int) (x y : Nat) : Nat := if someB x && someB y then stepF (pQ x y) (pS x y) m else (floatBits .mul .f64 x y).getD 0
def divB (m : Int) (x y : Nat) : Nat := if someB x && someB y then stepF (kQ x y) (kS x y) m else (floatBits .quo .f64 x y).getD 0
theorem nr_at {o : Option Nat} {r : Nat} (h : o.isSome = true) (hr : NR o r) : r = o.getD 0 := by
 cases o with
 | none => cases h
 | some v => exact hr.2
theorem rmul_B (m : Int) {x y : Nat} (hx : x < 18446744073709551616) (hy : y < 18446744073709551616) (h : (floatBits .mul .f64 x y).isSome = true) : mulB m x y < 18446744073709551616 ∧ TB 59 x y m (mulB m x y) ∧ TB 123 x y m (mulB m x y) := by
 obtain ⟨v, hv⟩ := Option.isSome_iff_exists.1 h
 unfold mulB
 cases hf : (someB x && someB y)
 ·simp only [Bool.false_eq_true, if_false]
  refine ⟨?_, fun w _ => (rmul_sp x y m hx hy hf w).mono ?_, fun w _ => (dmul_sp x y m hx hy hf w).mono ?_⟩
  ·rw [hv]
   exact (op_word (op := .mul) (Or.inr (Or.inr (Or.inl rfl))) hv).1
  ·rintro e w' ⟨r, rfl, hN, hb⟩; exact ⟨by rw [nr_at h hN], hb⟩
  ·rintro e w' ⟨r, rfl, hN, hb⟩; exact ⟨by rw [nr_at h hN], hb⟩
 ·have sx : someB x = true := by revert hf; cases someB x <;> simp
  have sy : someB y = true := by revert hf; cases someB x <;> simp
  simp only [if_true]
  have hq : floatBits .mul .f64 x y = some (pQ x y) := by unfold pQ; rw [hv]; rfl
  exact ⟨stepF_lt _ _ (op_word (op := .mul) (Or.inr (Or.inr (Or.inl rfl))) hq).1, fun w hT => (rmul_any x y m hx hy sx sy w hT).2, fun w _ => dmul_any x y m hx hy sx sy hq w⟩
theorem rdiv_B (m : Int) {x y : Nat} (hx : x < 18446744073709551616) (hy : y < 18446744073709551616) (h : (floatBits .quo .f64 x y).isSome = true) : divB m x y < 18446744073709551616 ∧ TB 61 x y m (divB m x y) ∧ TB 122 x y m (divB m x y) := by
 obtain ⟨v, hv⟩ := Option.isSome_iff_exists.1 h
 unfold divB
 cases hf : (someB x && someB y)
 ·simp only [Bool.false_eq_true, if_false]
  refine ⟨?_, fun w _ => (rdiv_sp x y m hx hy hf w).mono ?_, fun w _ => (ddiv_sp x y m hx hy hf w).mono ?_⟩
  ·rw [hv]
   exact (op_word (op := .quo) (Or.inr (Or.inr (Or.inr rfl))) hv).1
  ·rintro e w' ⟨r, rfl, hN, hb⟩; exact ⟨by rw [nr_at h hN], hb⟩
  ·rintro e w' ⟨r, rfl, hN, hb⟩; exact ⟨by rw [nr_at h hN], hb⟩
 ·have sx : someB x = true := by revert hf; cases someB x <;> simp
  have sy : someB y = true := by revert hf; cases someB x <;> simp
  simp only [if_true]
  have hq : floatBits .quo .f64 x y = some (kQ x y) := by unfold kQ; rw [hv]; rfl
  exact ⟨stepF_lt _ _ (op_word (op := .quo) (Or.inr (Or.inr (Or.inr rfl))) hq).1, fun w hT => (rdiv_any x y m hx hy sx sy w hT).2, fun w _ => ddiv_any x y m hx hy sx sy hq w⟩
theorem read_nn {x : Nat} (hx : x < 18446744073709551616) (n : nanB x = false) : Ieee.double.read x = if finB x then .number (sgn x) (mg (rung x)) (-1074 + ((up (rung x) : Nat) : Int)) else .infinity (sgn x) := by
 cases hf : finB x
 ·have h1 : rung x = 9218868437227405312 := by
   unfold finB at hf; unfold nanB at n; simp at hf n; omega
  rw [read_eq x hx, if_neg (by omega), if_pos h1]; rfl
 ·rw [read_fin hx hf]; rfl
theorem mg_nil {x : Nat} : mg (rung x) = 0 ↔ rung x = 0 := by
 unfold mg; split <;> omega
theorem mulS_ok {x y : Nat} (hx : x < 18446744073709551616) (hy : y < 18446744073709551616) (nx : nanB x = false) (ny : nanB y = false) (h : ((rung x == 0 && !finB y) || (rung y == 0 && !finB x)) = false) : (floatBits .mul .f64 x y).isSome = true := by
 rw [(fbits_map x y).2.2.1, read_nn hx nx, read_nn hy ny]
 cases fx : finB x <;> cases fy : finB y <;> rw [fx, fy] at h <;> simp only [Bool.false_eq_true, if_false, if_true, Ieee.Datum.product, Option.map_some, Option.isSome_some]
 ·have : mg (rung y) ≠ 0 := by rw [Ne, mg_nil]; simpa using h
  rw [if_neg this]; rfl
 ·have : mg (rung x) ≠ 0 := by rw [Ne, mg_nil]; simpa using h
  rw [if_neg this]; rfl
theorem divS_ok {x y : Nat} (hx : x < 18446744073709551616) (hy : y < 18446744073709551616) (nx : nanB x = false) (ny : nanB y = false) (h : (!finB x && !finB y) = false) (y0 : rung y ≠ 0) : (floatBits .quo .f64 x y).isSome = true := by
 have m0 : mg (rung y) ≠ 0 := by rw [Ne, mg_nil]; exact y0
 rw [(fbits_map x y).2.2.2, read_nn hx nx, read_nn hy ny]
 cases fx : finB x <;> cases fy : finB y <;> rw [fx, fy] at h <;> simp only [Bool.false_eq_true, if_false, if_true, Ieee.Datum.quotient, Option.map_some, Option.isSome_some]
 ·cases h
 ·rw [if_neg m0]; rfl
def tB (m : Int) (x y : Nat) : Nat := if (rung x == 0 && !finB y) || (rung y == 0 && !finB x) then 0 else mulB m x y
def oB (m : Int) (x y : Nat) : Nat := if !finB x && !finB y then 0 else divB m x y
set_option maxHeartbeats 4000000 in
theorem sprod_B (m : Int) {x y : Nat} (hx : x < 18446744073709551616) (hy : y < 18446744073709551616) (nx : nanB x = false) (ny : nanB y = false) : tB m x y < 18446744073709551616 ∧ TB 101 x y m (tB m x y) ∧ TB 97 x y m (tB m x y) := by
  have cx := sfin_any x hx
  have cy := sfin_any y hy
  have gx := rfin5_any x hx
  have gy := rfin5_any y hy
  have z1 := zero_eq hx
  have z2 := zero_eq hy
  have hM := fun h => rmul_B m hx hy (mulS_ok hx hy nx ny h)
  unfold tB
  cases q1 : (rung x == 0) <;> rw [q1] at z1 hM <;> cases q2 : (rung y == 0) <;> rw [q2] at z2 hM <;> cases fx : finB x <;> rw [fx] at cx gx hM <;> cases fy : finB y <;> rw [fy] at cy gy hM <;>
    first
    | (obtain ⟨m0, m1, m2⟩ := hM rfl
       simp only [Bool.and_false, Bool.and_true, Bool.or_self, Bool.and_self, Bool.not_true, Bool.not_false, Bool.false_eq_true, if_false]
       refine ⟨m0, fun w hT => ?_, fun w hT => ?_⟩
       · go_enter Tryz.func101, Tryz.ntmps101
         go_wp2_with (first
           | (go_at_call_of 73 (Value.float FloatKind.f64 x); refine (cx _).mono ?_; rintro e w' ⟨rfl, rfl⟩)
           | (go_at_call_of 73 (Value.float FloatKind.f64 y); refine (cy _).mono ?_; rintro e w' ⟨rfl, rfl⟩)
           | (go_at_call 59; refine (m1 _ hT).mono ?_; rintro e w1 ⟨rfl, b1⟩))
         go_ret
         exact ⟨rfl, b1⟩
       · have bz := Below.refl w.heap.size w
         go_enter Tryz.func97, Tryz.ntmps97
         go_wp2_with (first
           | (go_at_call_of 120 (Value.float FloatKind.f64 x); refine (gx _).mono ?_; rintro e w1 ⟨rfl, b1⟩; have bz := bz.trans (b1.mono bz.size))
           | (go_at_call_of 120 (Value.float FloatKind.f64 y); refine (gy _).mono ?_; rintro e w1 ⟨rfl, b1⟩; have bz := bz.trans (b1.mono bz.size))
           | (go_at_call 123; refine (m2 _ (tabW_below hT bz)).mono ?_; rintro e w2 ⟨rfl, b2⟩; have bz := bz.trans (b2.mono bz.size)))
         go_ret
         exact ⟨rfl, bz⟩)
    | (clear hM
       simp only [Bool.and_false, Bool.and_true, Bool.or_false, Bool.or_self, Bool.and_self, Bool.or_true, Bool.not_true, Bool.not_false, if_true]
       refine ⟨by omega, fun w hT => ?_, fun w hT => ?_⟩
       · go_enter Tryz.func101, Tryz.ntmps101
         go_wp2_with (first
           | (go_at_call_of 73 (Value.float FloatKind.f64 x); refine (cx _).mono ?_; rintro e w' ⟨rfl, rfl⟩)
           | (go_at_call_of 73 (Value.float FloatKind.f64 y); refine (cy _).mono ?_; rintro e w' ⟨rfl, rfl⟩))
         go_ret
         exact ⟨rfl, Below.refl _ _⟩
       · have bz := Below.refl w.heap.size w
         go_enter Tryz.func97, Tryz.ntmps97
         go_wp2_with (first
           | (go_at_call_of 120 (Value.float FloatKind.f64 x); refine (gx _).mono ?_; rintro e w1 ⟨rfl, b1⟩; have bz := bz.trans (b1.mono bz.size))
           | (go_at_call_of 120 (Value.float FloatKind.f64 y); refine (gy _).mono ?_; rintro e w1 ⟨rfl, b1⟩; have bz := bz.trans (b1.mono bz.size)))
         go_ret
         exact ⟨rfl, bz⟩)
set_option maxHeartbeats 4000000 in
theorem squot_B (m : Int) {x y : Nat} (hx : x < 18446744073709551616) (hy : y < 18446744073709551616) (nx : nanB x = false) (ny : nanB y = false) (y0 : rung y ≠ 0) : oB m x y < 18446744073709551616 ∧ TB 108 x y m (oB m x y) ∧ TB 95 x y m (oB m x y) := by
  have cx := sfin_any x hx
  have cy := sfin_any y hy
  have gx := rfin5_any x hx
  have gy := rfin5_any y hy
  have hM := fun h => rdiv_B m hx hy (divS_ok hx hy nx ny h y0)
  unfold oB
  clear y0
  cases fx : finB x <;> rw [fx] at cx gx hM <;> cases fy : finB y <;> rw [fy] at cy gy hM <;>
    first
    | (obtain ⟨m0, m1, m2⟩ := hM rfl
       simp only [Bool.and_false, Bool.and_true, Bool.and_self, Bool.not_true, Bool.not_false, Bool.false_eq_true, if_false]
       refine ⟨m0, fun w hT => ?_, fun w hT => ?_⟩
       · go_enter Tryz.func108, Tryz.ntmps108
         go_wp2_with (first
           | (go_at_call_of 73 (Value.float FloatKind.f64 x); refine (cx _).mono ?_; rintro e w' ⟨rfl, rfl⟩)
           | (go_at_call_of 73 (Value.float FloatKind.f64 y); refine (cy _).mono ?_; rintro e w' ⟨rfl, rfl⟩)
           | (go_at_call 61; refine (m1 _ hT).mono ?_; rintro e w1 ⟨rfl, b1⟩))
         go_ret
         exact ⟨rfl, b1⟩
       · have bz := Below.refl w.heap.size w
         go_enter Tryz.func95, Tryz.ntmps95
         go_wp2_with (first
           | (go_at_call_of 120 (Value.float FloatKind.f64 x); refine (gx _).mono ?_; rintro e w1 ⟨rfl, b1⟩; have bz := bz.trans (b1.mono bz.size))
           | (go_at_call_of 120 (Value.float FloatKind.f64 y); refine (gy _).mono ?_; rintro e w1 ⟨rfl, b1⟩; have bz := bz.trans (b1.mono bz.size))
           | (go_at_call 122; refine (m2 _ (tabW_below hT bz)).mono ?_; rintro e w2 ⟨rfl, b2⟩; have bz := bz.trans (b2.mono bz.size)))
         go_ret
         exact ⟨rfl, bz⟩)
    | (clear hM
       simp only [Bool.not_false, Bool.and_self, if_true]
       refine ⟨by omega, fun w hT => ?_, fun w hT => ?_⟩
       · go_enter Tryz.func108, Tryz.ntmps108
         go_wp2_with (first
           | (go_at_call_of 73 (Value.float FloatKind.f64 x); refine (cx _).mono ?_; rintro e w' ⟨rfl, rfl⟩)
           | (go_at_call_of 73 (Value.float FloatKind.f64 y); refine (cy _).mono ?_; rintro e w' ⟨rfl, rfl⟩))
         go_ret
         exact ⟨rfl, Below.refl _ _⟩
       · have bz := Below.refl w.heap.size w
         go_enter Tryz.func95, Tryz.ntmps95
         go_wp2_with (first
           | (go_at_call_of 120 (Value.float FloatKind.f64 x); refine (gx _).mono ?_; rintro e w1 ⟨rfl, b1⟩; have bz := bz.trans (b1.mono bz.size))
           | (go_at_call_of 120 (Value.float FloatKind.f64 y); refine (gy _).mono ?_; rintro e w1 ⟨rfl, b1⟩; have bz := bz.trans (b1.mono bz.size)))
         go_ret
         exact ⟨rfl, bz⟩)
structure QOf (W : World) where
 val : World
 below : Below W.heap.size W val
 tab : TabW val
theorem region_quietB {P : Program} {id : Nat} {Q : Exit → Act → World → Prop} {a : Act} {w : World} {l : List Oper} (hm : P.follows .mixedOrders = true) (hB : Region.lexB .any l.toArray = true) (hT : TabW w)
  (h : wpQuiet P l.toArray (fun w' => ∃ u : QOf w, w' = u.val) (fun a' => ∀ w', (∃ u : QOf w, w' = u.val) → Q .normal a' w') l a) : (Code.region id l.toArray true).wp P Q a w :=
 wp_region_quiet (C := fun w' => ∃ u : QOf w, w' = u.val) hm hB ⟨⟨w.drew, (Below.refl _ _).drew, tabW_below hT (Below.refl _ _).drew⟩, rfl⟩ h
theorem quietB_of {P : Program} {f : Nat} {args : Array Value} {W : World} {u : QOf W} {v : Value} (h : Calls P f args u.val fun e w' => e = .returned v ∧ Below u.val.heap.size u.val w') : Calls P f args u.val fun e w'' => e = .returned v ∧ ∃ u' : QOf W, w'' = u'.val :=
 h.mono fun _ w' ⟨he, hb⟩ => ⟨he, ⟨w', u.below.trans (hb.mono u.below.size), tabW_below u.tab hb⟩, rfl⟩
theorem QOf.cell {W : World} (u : QOf W) {p : Addr} {v : Value} (h : W.cell? p = some v) : u.val.cell? p = some v := by
 rw [u.below.cell (World.block_lt_of_cell? W _ h)]; exact h
theorem QOf.any {W : World} (hT : TabW W) : Nonempty (QOf W) := ⟨⟨W, Below.refl _ _, hT⟩⟩
set_option maxRecDepth 100000 in
set_option maxHeartbeats 1600000 in
theorem scorn1_P (a b c d D A C : Nat) (R : Nat → Nat → Nat) (m : Int) (h : ∀ x y, (x = a ∨ x = b) → (y = c ∨ y = d) → TB 101 x y m (R x y))
  (w : World) (hT : TabW w) (cd : w.cell? ⟨D, 0, none⟩ = some (.func (.func 101) #[] #[])) (ca : w.cell? ⟨A, 0, none⟩ = some (.float .f64 a)) (cb : w.cell? ⟨A, 1, none⟩ = some (.float .f64 b)) (cc : w.cell? ⟨C, 0, none⟩ = some (.float .f64 c)) (ce : w.cell? ⟨C, 1, none⟩ = some (.float .f64 d)) :
  Calls Tryz.prog 125 #[.int .i8 m, .pointer (some ⟨D, 0, none⟩), .pointer (some ⟨A, 0, none⟩), .pointer (some ⟨C, 0, none⟩)] w fun e w' => e = .returned (.tuple #[.float .f64 (R a c), .float .f64 (R a d), .float .f64 (R b c), .float .f64 (R b d)]) ∧ Below w.heap.size w w' := by
 go_enter Tryz.func125, Tryz.ntmps125
 go_wp2
 have hne : Nonempty (QOf w) := QOf.any hT
 have k0 : ∀ u : QOf w, u.val.cell? ⟨D, 0, none⟩ = some (.func (.func 101) #[] #[]) := fun u => u.cell cd
 have k1 : ∀ u : QOf w, u.val.cell? ⟨A, 0, none⟩ = some (.float .f64 a) := fun u => u.cell ca
 have k2 : ∀ u : QOf w, u.val.cell? ⟨A, 1, none⟩ = some (.float .f64 b) := fun u => u.cell cb
 have k3 : ∀ u : QOf w, u.val.cell? ⟨C, 0, none⟩ = some (.float .f64 c) := fun u => u.cell cc
 have k4 : ∀ u : QOf w, u.val.cell? ⟨C, 1, none⟩ = some (.float .f64 d) := fun u => u.cell ce
 refine region_quietB (by kernel_rfl) (by kernel_rfl) hT ?_
 repeat (quiet_step ((go_at_call 101; refine quietB_of (h _ _ ?_ ?_ _ (QOf.tab _)) <;> first | exact Or.inl rfl | exact Or.inr rfl)))
 refine wpQuiet_nil ?_
 intro w' hw'
 obtain ⟨u, rfl⟩ := hw'
 go_wp2
 exact bodyPost_ret (v := .tuple #[.float .f64 (R a c), .float .f64 (R a d), .float .f64 (R b c), .float .f64 (R b d)]) (by simp [results, Tryz.results125, go_sem]) rfl ⟨rfl, u.below⟩
set_option maxHeartbeats 2000000 in
theorem scorn_P (a b c d : Nat) (R : Int → Nat → Nat → Nat) (h : ∀ m x y, (x = a ∨ x = b) → (y = c ∨ y = d) → TB 101 x y m (R m x y) ∧ R m x y < 18446744073709551616) (w : World) (hT : TabW w) :
  Calls Tryz.prog 100 #[spV a b, spV c d, .func (.func 101) #[] #[]] w fun e w' => e = .returned (spV (lsC R a b c d) (grC R a b c d)) ∧ Below w.heap.size w w' := by
 have hst := run_storef Tryz.prog
 have h1 := fun x y p q => (h 1 x y p q).1
 have h2 := fun x y p q => (h 2 x y p q).1
 have hl := fun m x y p q => (h m x y p q).2
 have b11 := hl 1 a c (Or.inl rfl) (Or.inl rfl)
 have b12 := hl 1 a d (Or.inl rfl) (Or.inr rfl)
 have b13 := hl 1 b c (Or.inr rfl) (Or.inl rfl)
 have b14 := hl 1 b d (Or.inr rfl) (Or.inr rfl)
 have b21 := hl 2 a c (Or.inl rfl) (Or.inl rfl)
 have b22 := hl 2 a d (Or.inl rfl) (Or.inr rfl)
 have b23 := hl 2 b c (Or.inr rfl) (Or.inl rfl)
 have b24 := hl 2 b d (Or.inr rfl) (Or.inr rfl)
 have eL : Hid (lsC R a b c d = lsF (lsF (lsF (R 1 a c) (R 1 a d)) (R 1 b c)) (R 1 b d)) := rfl
 have eG : Hid (grC R a b c d = grF (grF (grF (R 2 a c) (R 2 a d)) (R 2 b c)) (R 2 b d)) := rfl
 clear h hl
 go_enter Tryz.func100, Tryz.ntmps100
 go_wp2_with (first
  | (go_at_call_of 125 (Value.int IntKind.i8 1); refine (scorn1_P a b c d _ _ _ (R 1) 1 h1 _ (tabW_alloc (tabW_alloc (tabW_alloc (tabW_alloc hT _) _) _) _) (by go_simp) (by go_simp) (by go_simp) (by go_simp) (by go_simp)).mono ?_; rintro e w1 ⟨rfl, b1⟩; have A1 := ((((Bx.new _ _ _ _).alloc _).alloc _).alloc _).below b1; have C1 := (((Bx.new1 _ _ _ _ _).alloc _).alloc _).below b1; have R1 := (Bx.new3 _ _ _ _ _ _ _).below b1; have D1 : w1.cell? ⟨w.heap.size + 1 + 1, 0, none⟩ = some (.func (.func 101) #[] #[]) := ((oldc b1).1 (w.heap.size + 1 + 1) 0 (by go_simp)).trans (by go_simp); have B1 := old4 b1; have T1 := tabW_below hT B1)
  | (go_at_call_of 125 (Value.int IntKind.i8 2); refine (scorn1_P a b c d _ _ _ (R 2) 2 h2 _ (tabW_alloc T1 _) (cell_al D1 _) (A1.alloc _).1 (A1.alloc _).2.1 (C1.alloc _).1 (C1.alloc _).2.1).mono ?_; rintro e w2 ⟨rfl, b2⟩; have R2 := (R1.alloc _).below b2; have B2 := old1 b2)
  | (go_at_call 126; refine (sleast_four _ _ _ _ _ b11 b12 b13 b14 _ (by go_simp) (by go_simp) (by go_simp)).mono ?_; rw [← eL.out]; rintro e w' ⟨rfl, rfl⟩)
  | (go_at_call 127; refine (sgreatest_four _ _ _ _ _ b21 b22 b23 b24 _ (by go_simp) (by go_simp) (by go_simp)).mono ?_; rw [← eG.out]; rintro e w' ⟨rfl, rfl⟩; obtain ⟨c0, c1, f0, f1, _⟩ := R2.alloc (.cells #[.float .f64 (R 2 a d), .float .f64 (R 2 b c), .float .f64 (R 2 b d)] 40)))
 have B3 := B1.trans (B2.mono B1.size)
 exact bodyPost_ret (v := spV (lsC R a b c d) (grC R a b c d)) (by simp [results, Tryz.results100, go_sem, c0, c1]) rfl ⟨rfl, set2 (B3.alloc B3.size _) (by omega) _ _⟩
set_option maxRecDepth 100000 in
set_option maxHeartbeats 1600000 in
theorem scorn1_Q (a b c d D A C : Nat) (R : Nat → Nat → Nat) (m : Int) (h : ∀ x y, (x = a ∨ x = b) → (y = c ∨ y = d) → TB 108 x y m (R x y))
  (w : World) (hT : TabW w) (cd : w.cell? ⟨D, 0, none⟩ = some (.func (.func 108) #[] #[])) (ca : w.cell? ⟨A, 0, none⟩ = some (.float .f64 a)) (cb : w.cell? ⟨A, 1, none⟩ = some (.float .f64 b)) (cc : w.cell? ⟨C, 0, none⟩ = some (.float .f64 c)) (ce : w.cell? ⟨C, 1, none⟩ = some (.float .f64 d)) :
  Calls Tryz.prog 125 #[.int .i8 m, .pointer (some ⟨D, 0, none⟩), .pointer (some ⟨A, 0, none⟩), .pointer (some ⟨C, 0, none⟩)] w fun e w' => e = .returned (.tuple #[.float .f64 (R a c), .float .f64 (R a d), .float .f64 (R b c), .float .f64 (R b d)]) ∧ Below w.heap.size w w' := by
 go_enter Tryz.func125, Tryz.ntmps125
 go_wp2
 have hne : Nonempty (QOf w) := QOf.any hT
 have k0 : ∀ u : QOf w, u.val.cell? ⟨D, 0, none⟩ = some (.func (.func 108) #[] #[]) := fun u => u.cell cd
 have k1 : ∀ u : QOf w, u.val.cell? ⟨A, 0, none⟩ = some (.float .f64 a) := fun u => u.cell ca
 have k2 : ∀ u : QOf w, u.val.cell? ⟨A, 1, none⟩ = some (.float .f64 b) := fun u => u.cell cb
 have k3 : ∀ u : QOf w, u.val.cell? ⟨C, 0, none⟩ = some (.float .f64 c) := fun u => u.cell cc
 have k4 : ∀ u : QOf w, u.val.cell? ⟨C, 1, none⟩ = some (.float .f64 d) := fun u => u.cell ce
 refine region_quietB (by kernel_rfl) (by kernel_rfl) hT ?_
 repeat (quiet_step ((go_at_call 108; refine quietB_of (h _ _ ?_ ?_ _ (QOf.tab _)) <;> first | exact Or.inl rfl | exact Or.inr rfl)))
 refine wpQuiet_nil ?_
 intro w' hw'
 obtain ⟨u, rfl⟩ := hw'
 go_wp2
 exact bodyPost_ret (v := .tuple #[.float .f64 (R a c), .float .f64 (R a d), .float .f64 (R b c), .float .f64 (R b d)]) (by simp [results, Tryz.results125, go_sem]) rfl ⟨rfl, u.below⟩
set_option maxHeartbeats 2000000 in
theorem scorn_Q (a b c d : Nat) (R : Int → Nat → Nat → Nat) (h : ∀ m x y, (x = a ∨ x = b) → (y = c ∨ y = d) → TB 108 x y m (R m x y) ∧ R m x y < 18446744073709551616) (w : World) (hT : TabW w) :
  Calls Tryz.prog 100 #[spV a b, spV c d, .func (.func 108) #[] #[]] w fun e w' => e = .returned (spV (lsC R a b c d) (grC R a b c d)) ∧ Below w.heap.size w w' := by
 have hst := run_storef Tryz.prog
 have h1 := fun x y p q => (h 1 x y p q).1
 have h2 := fun x y p q => (h 2 x y p q).1
 have hl := fun m x y p q => (h m x y p q).2
 have b11 := hl 1 a c (Or.inl rfl) (Or.inl rfl)
 have b12 := hl 1 a d (Or.inl rfl) (Or.inr rfl)
 have b13 := hl 1 b c (Or.inr rfl) (Or.inl rfl)
 have b14 := hl 1 b d (Or.inr rfl) (Or.inr rfl)
 have b21 := hl 2 a c (Or.inl rfl) (Or.inl rfl)
 have b22 := hl 2 a d (Or.inl rfl) (Or.inr rfl)
 have b23 := hl 2 b c (Or.inr rfl) (Or.inl rfl)
 have b24 := hl 2 b d (Or.inr rfl) (Or.inr rfl)
 have eL : Hid (lsC R a b c d = lsF (lsF (lsF (R 1 a c) (R 1 a d)) (R 1 b c)) (R 1 b d)) := rfl
 have eG : Hid (grC R a b c d = grF (grF (grF (R 2 a c) (R 2 a d)) (R 2 b c)) (R 2 b d)) := rfl
 clear h hl
 go_enter Tryz.func100, Tryz.ntmps100
 go_wp2_with (first
  | (go_at_call_of 125 (Value.int IntKind.i8 1); refine (scorn1_Q a b c d _ _ _ (R 1) 1 h1 _ (tabW_alloc (tabW_alloc (tabW_alloc (tabW_alloc hT _) _) _) _) (by go_simp) (by go_simp) (by go_simp) (by go_simp) (by go_simp)).mono ?_; rintro e w1 ⟨rfl, b1⟩; have A1 := ((((Bx.new _ _ _ _).alloc _).alloc _).alloc _).below b1; have C1 := (((Bx.new1 _ _ _ _ _).alloc _).alloc _).below b1; have R1 := (Bx.new3 _ _ _ _ _ _ _).below b1; have D1 : w1.cell? ⟨w.heap.size + 1 + 1, 0, none⟩ = some (.func (.func 108) #[] #[]) := ((oldc b1).1 (w.heap.size + 1 + 1) 0 (by go_simp)).trans (by go_simp); have B1 := old4 b1; have T1 := tabW_below hT B1)
  | (go_at_call_of 125 (Value.int IntKind.i8 2); refine (scorn1_Q a b c d _ _ _ (R 2) 2 h2 _ (tabW_alloc T1 _) (cell_al D1 _) (A1.alloc _).1 (A1.alloc _).2.1 (C1.alloc _).1 (C1.alloc _).2.1).mono ?_; rintro e w2 ⟨rfl, b2⟩; have R2 := (R1.alloc _).below b2; have B2 := old1 b2)
  | (go_at_call 126; refine (sleast_four _ _ _ _ _ b11 b12 b13 b14 _ (by go_simp) (by go_simp) (by go_simp)).mono ?_; rw [← eL.out]; rintro e w' ⟨rfl, rfl⟩)
  | (go_at_call 127; refine (sgreatest_four _ _ _ _ _ b21 b22 b23 b24 _ (by go_simp) (by go_simp) (by go_simp)).mono ?_; rw [← eG.out]; rintro e w' ⟨rfl, rfl⟩; obtain ⟨c0, c1, f0, f1, _⟩ := R2.alloc (.cells #[.float .f64 (R 2 a d), .float .f64 (R 2 b c), .float .f64 (R 2 b d)] 40)))
 have B3 := B1.trans (B2.mono B1.size)
 exact bodyPost_ret (v := spV (lsC R a b c d) (grC R a b c d)) (by simp [results, Tryz.results100, go_sem, c0, c1]) rfl ⟨rfl, set2 (B3.alloc B3.size _) (by omega) _ _⟩
abbrev CornB (F a b c d : Nat) (R : Int → Nat → Nat → Nat) : Prop := ∀ m x y, (x = a ∨ x = b) → (y = c ∨ y = d) → TB F x y m (R m x y) ∧ R m x y < 18446744073709551616
set_option maxHeartbeats 800000 in
theorem sproduct_B (a b c d : Nat) (R : Int → Nat → Nat → Nat) (h : CornB 101 a b c d R) (w : World) (hT : TabW w) :
  Calls Tryz.prog 75 #[spV a b, spV c d] w fun e w' => e = .returned (spV (lsC R a b c d) (grC R a b c d)) ∧ Below w.heap.size w w' := by
 have hst := run_storef Tryz.prog
 have hc := scorn_P a b c d R h
 clear h
 go_enter Tryz.func75, Tryz.ntmps75
 go_wp2_with (go_at_call 100; refine (hc _ (tabW_alloc (tabW_alloc (tabW_alloc hT _) _) _)).mono ?_; rintro e w1 ⟨rfl, b1⟩; obtain ⟨c0, c1, f0, f1, _⟩ := (Bx.new2 _ _ _ _ _ _).below b1)
 exact bodyPost_ret (v := spV (lsC R a b c d) (grC R a b c d)) (by simp [results, Tryz.results75, go_sem, c0, c1]) rfl ⟨rfl, set2 (old3 b1) (by omega) _ _⟩
set_option maxHeartbeats 800000 in
theorem squotient_B (a b c d : Nat) (R : Int → Nat → Nat → Nat) (h : CornB 108 a b c d R) (w : World) (hT : TabW w) :
  Calls Tryz.prog 80 #[spV a b, spV c d] w fun e w' => e = .returned (spV (lsC R a b c d) (grC R a b c d)) ∧ Below w.heap.size w w' := by
 have hst := run_storef Tryz.prog
 have hc := scorn_Q a b c d R h
 clear h
 go_enter Tryz.func80, Tryz.ntmps80
 go_wp2_with (go_at_call 100; refine (hc _ (tabW_alloc (tabW_alloc (tabW_alloc hT _) _) _)).mono ?_; rintro e w1 ⟨rfl, b1⟩; obtain ⟨c0, c1, f0, f1, _⟩ := (Bx.new2 _ _ _ _ _ _).below b1)
 exact bodyPost_ret (v := spV (lsC R a b c d) (grC R a b c d)) (by simp [results, Tryz.results80, go_sem, c0, c1]) rfl ⟨rfl, set2 (old3 b1) (by omega) _ _⟩
set_option maxHeartbeats 1600000 in
theorem smul_B (a b c d : Nat) (R : Int → Nat → Nat → Nat) (ra : sRt a b = true) (rb : sRt c d = true) (h : CornB 101 a b c d R) (w : World) (hT : TabW w) :
  Calls Tryz.prog 58 #[spV a b, spV c d] w fun e w' => e = .returned (.tuple #[spV (lsC R a b c d) (grC R a b c d), .int .i64 0]) ∧ Below w.heap.size w w' := by
 have hst := run_storef Tryz.prog
 have hs := sproduct_B a b c d R h
 clear h
 go_enter Tryz.func58, Tryz.ntmps58
 go_wp2_with (first
  | (go_at_call 74; refine (sall_two a b c d _ _ (by go_simp) (by go_simp) (by go_simp) (by go_simp) (by go_simp)).mono ?_; rw [ra, rb]; rintro e w1 ⟨rfl, b1⟩; obtain ⟨a0, a1, _⟩ := ((((Bx.new _ _ _ _).alloc _).alloc _).alloc _).below b1; have D1 := (((Bx.new1 _ _ _ _ _).alloc _).alloc _).below b1; have d0 := D1.1; have d1 := D1.2.1; have R1 := ((Bx.new2 _ _ _ _ _ _).alloc _).below b1; have g0 := R1.1; have g1 := R1.2.1; have g2 := R1.2.2.1; have g3 := R1.2.2.2.1; have b3 := old1 (old3 b1); have T1 := tabW_below hT b3)
  | (go_at_call 75; refine (hs _ T1).mono ?_; rintro e w2 ⟨rfl, b2⟩; obtain ⟨c0, c1, f0, f1, _⟩ := R1.below b2))
 exact bodyPost_ret (v := .tuple #[spV (lsC R a b c d) (grC R a b c d), .int .i64 0]) (by simp [results, Tryz.results58, go_sem, c0, c1]) rfl ⟨rfl, set2 (b3.trans (b2.mono b3.size)) (by omega) _ _⟩
set_option maxHeartbeats 1600000 in
theorem sdiv_B (a b c d : Nat) (R : Int → Nat → Nat → Nat) (ra : sRt a b = true) (rb : sRt c d = true) (h0 : (sRt c d && finB 0 && leF c 0 && leF 0 d) = false) (h : CornB 108 a b c d R) (w : World) (hT : TabW w) :
  Calls Tryz.prog 60 #[spV a b, spV c d] w fun e w' => e = .returned (.tuple #[spV (lsC R a b c d) (grC R a b c d), .int .i64 0]) ∧ Below w.heap.size w w' := by
 have hst := run_storef Tryz.prog
 have hs := squotient_B a b c d R h
 have hh := fun w => shas_any c d 0 (by omega) w
 rw [h0] at hh
 clear h h0
 go_enter Tryz.func60, Tryz.ntmps60
 go_wp2_with (first
  | (go_at_call 74; refine (sall_two a b c d _ _ (by go_simp) (by go_simp) (by go_simp) (by go_simp) (by go_simp)).mono ?_; rw [ra, rb]; rintro e w1 ⟨rfl, b1⟩; obtain ⟨a0, a1, _⟩ := ((((Bx.new _ _ _ _).alloc _).alloc _).alloc _).below b1; have D1 := (((Bx.new1 _ _ _ _ _).alloc _).alloc _).below b1; have A1 := ((((Bx.new _ _ _ _).alloc _).alloc _).alloc _).below b1; have d0 := D1.1; have d1 := D1.2.1; have R1 := ((Bx.new2 _ _ _ _ _ _).alloc _).below b1; have g0 := R1.1; have g1 := R1.2.1; have g2 := R1.2.2.1; have g3 := R1.2.2.2.1; have b4 := old1 (old3 b1))
  | (go_at_call 79; refine (hh _).mono ?_; rintro e w2 ⟨rfl, b2⟩; obtain ⟨p0, p1, _⟩ := D1.below b2; obtain ⟨q0, q1, _⟩ := A1.below b2; have R2 := R1.below b2; have b5 := b4.trans (b2.mono b4.size); have T2 := tabW_below hT b5)
  | (go_at_call 80; refine (hs _ T2).mono ?_; rintro e w3 ⟨rfl, b3⟩; obtain ⟨c0, c1, f0, f1, _⟩ := R2.below b3))
 exact bodyPost_ret (v := .tuple #[spV (lsC R a b c d) (grC R a b c d), .int .i64 0]) (by simp [results, Tryz.results60, go_sem, c0, c1]) rfl ⟨rfl, set2 (b5.trans (b3.mono b5.size)) (by omega) _ _⟩
theorem udrew {w w1 : World} (h : Below w.drew.heap.size w.drew w1) : Below w.heap.size w w1 := ⟨h.os, h.tape, h.output, h.size, h.block⟩
theorem lsF_key (a b : Nat) : lsF a b = if key b < key a then b else a := by
 unfold lsF
 rw [ordF_key]
 by_cases h : key b < key a
 ·rw [if_pos h, if_pos h]; simp
 ·rw [if_neg h, if_neg h]
  by_cases g : key a < key b
  ·rw [if_pos g]; simp
  ·rw [if_neg g]; simp
theorem grF_key (a b : Nat) : grF a b = if key a < key b then b else a := by
 unfold grF
 rw [ordF_key]
 by_cases h : key b < key a
 ·rw [if_pos h, if_neg (by omega), if_neg (by omega)]
 ·rw [if_neg h]
  by_cases g : key a < key b
  ·rw [if_pos g, if_pos g]; simp
  ·rw [if_neg g, if_neg g]; simp
theorem lsF_assoc (a b c d : Nat) : lsF (lsF a b) (lsF c d) = lsF (lsF (lsF a b) c) d := by
 generalize lsF a b = p
 rw [lsF_key p, lsF_key c, lsF_key (lsF p c), lsF_key p]
 (repeat' split) <;> omega
theorem grF_assoc (a b c d : Nat) : grF (grF a b) (grF c d) = grF (grF (grF a b) c) d := by
 generalize grF a b = p
 rw [grF_key p, grF_key c, grF_key (grF p c), grF_key p]
 (repeat' split) <;> omega
set_option maxHeartbeats 400000 in
theorem rlesser_any (a b : Nat) (ha : a < 18446744073709551616) (hb : b < 18446744073709551616) (w : World) :
  Calls Tryz.prog 94 #[.float .f64 a, .float .f64 b] w fun e w' => e = .returned (.float .f64 (lsF a b)) ∧ Below w.heap.size w w' := by
 have co := rorder_any b a hb ha
 have HE : Hid (lsF a b = if ordF b a < 0 then b else a) := rfl
 by_cases q : ordF b a < 0
 ·have hv : lsF a b = b := by rw [HE.out, if_pos q]
  rw [hv]
  go_enter Tryz.func94, Tryz.ntmps94
  go_wp2_with (go_at_call 121; refine (co _).mono ?_; rintro e w' ⟨rfl, rfl⟩)
  go_ret
  exact ⟨rfl, Below.refl _ _⟩
 ·have hv : lsF a b = a := by rw [HE.out, if_neg q]
  rw [hv]
  go_enter Tryz.func94, Tryz.ntmps94
  go_wp2_with (go_at_call 121; refine (co _).mono ?_; rintro e w' ⟨rfl, rfl⟩)
  go_ret
  exact ⟨rfl, Below.refl _ _⟩
set_option maxHeartbeats 400000 in
theorem rgreater_any (a b : Nat) (ha : a < 18446744073709551616) (hb : b < 18446744073709551616) (w : World) :
  Calls Tryz.prog 96 #[.float .f64 a, .float .f64 b] w fun e w' => e = .returned (.float .f64 (grF a b)) ∧ Below w.heap.size w w' := by
 have co := rorder_any b a hb ha
 have HE : Hid (grF a b = if 0 < ordF b a then b else a) := rfl
 by_cases q : 0 < ordF b a
 ·have hv : grF a b = b := by rw [HE.out, if_pos q]
  rw [hv]
  go_enter Tryz.func96, Tryz.ntmps96
  go_wp2_with (go_at_call 121; refine (co _).mono ?_; rintro e w' ⟨rfl, rfl⟩)
  go_ret
  exact ⟨rfl, Below.refl _ _⟩
 ·have hv : grF a b = a := by rw [HE.out, if_neg q]
  rw [hv]
  go_enter Tryz.func96, Tryz.ntmps96
  go_wp2_with (go_at_call 121; refine (co _).mono ?_; rintro e w' ⟨rfl, rfl⟩)
  go_ret
  exact ⟨rfl, Below.refl _ _⟩
set_option maxHeartbeats 4000000 in
theorem rmul5_B (a b c d lo hi : Nat) (R : Int → Nat → Nat → Nat) (eL : lo = lsF (lsF (R 1 a c) (R 1 a d)) (lsF (R 1 b c) (R 1 b d))) (eG : hi = grF (grF (R 2 a c) (R 2 a d)) (grF (R 2 b c) (R 2 b d)))
  (ha : a < 18446744073709551616) (hb : b < 18446744073709551616) (hc : c < 18446744073709551616) (hd : d < 18446744073709551616) (ra : sRt a b = true) (rb : sRt c d = true) (h : CornB 97 a b c d R) (w : World) (hT : TabW w) :
  Calls Tryz.prog 68 #[spV a b, spV c d] w fun e w' => e = .returned (.tuple #[spV lo hi, .int .i64 0]) ∧ Below w.heap.size w w' := by
 have hst := run_storef Tryz.prog
 have r1 := fun w => rright_any a b ha hb w
 have r2 := fun w => rright_any c d hc hd w
 rw [ra] at r1
 rw [rb] at r2
 have h1 := fun x y p q => (h 1 x y p q).1
 have h2 := fun x y p q => (h 2 x y p q).1
 have hl := fun m x y p q => (h m x y p q).2
 have b11 := hl 1 a c (Or.inl rfl) (Or.inl rfl)
 have b12 := hl 1 a d (Or.inl rfl) (Or.inr rfl)
 have b13 := hl 1 b c (Or.inr rfl) (Or.inl rfl)
 have b14 := hl 1 b d (Or.inr rfl) (Or.inr rfl)
 have b21 := hl 2 a c (Or.inl rfl) (Or.inl rfl)
 have b22 := hl 2 a d (Or.inl rfl) (Or.inr rfl)
 have b23 := hl 2 b c (Or.inr rfl) (Or.inl rfl)
 have b24 := hl 2 b d (Or.inr rfl) (Or.inr rfl)
 have l1 := fun w => rlesser_any (R 1 a c) (R 1 a d) b11 b12 w
 have l2 := fun w => rlesser_any (R 1 b c) (R 1 b d) b13 b14 w
 have l3 := fun w => rlesser_any (lsF (R 1 a c) (R 1 a d)) (lsF (R 1 b c) (R 1 b d)) (lsF_lt b11 b12) (lsF_lt b13 b14) w
 have g1 := fun w => rgreater_any (R 2 a c) (R 2 a d) b21 b22 w
 have g2 := fun w => rgreater_any (R 2 b c) (R 2 b d) b23 b24 w
 have g3 := fun w => rgreater_any (grF (R 2 a c) (R 2 a d)) (grF (R 2 b c) (R 2 b d)) (grF_lt b21 b22) (grF_lt b23 b24) w
 rw [← eL] at l3
 rw [← eG] at g3
 clear h hl b11 b12 b13 b14 b21 b22 b23 b24 eL eG
 go_enter Tryz.func68, Tryz.ntmps68
 go_upto_region 3 with (first | (go_at_call_of 93 (Value.agg #[Value.float FloatKind.f64 a, Value.float FloatKind.f64 b]); refine (r1 _).mono ?_; rintro e v1 ⟨rfl, b1⟩; obtain ⟨ka0, ka1, _⟩ := (((Bx.new _ _ _ _).alloc _).alloc _).below b1; obtain ⟨kc0, kc1, _⟩ := ((Bx.new1 _ _ _ _ _).alloc _).below b1) | (go_at_call_of 93 (Value.agg #[Value.float FloatKind.f64 c, Value.float FloatKind.f64 d]); refine (r2 _).mono ?_; rintro e W ⟨rfl, b2⟩))
 have A0 := ((((Bx.new w (.float .f64 a) (.float .f64 b) 52).alloc (.cells #[.float .f64 c, .float .f64 d] 52)).alloc (.cells #[.float .f64 0, .float .f64 0] 52)).below b1).below b2
 have C0 := (((Bx.new1 w (.float .f64 c) (.float .f64 d) (.cells #[.float .f64 a, .float .f64 b] 52) 52).alloc (.cells #[.float .f64 0, .float .f64 0] 52)).below b1).below b2
 have R0 := ((Bx.new2 w (.float .f64 0) (.float .f64 0) (.cells #[.float .f64 a, .float .f64 b] 52) (.cells #[.float .f64 c, .float .f64 d] 52) 52).below b1).below b2
 have Z0 := (old3 b1).trans (b2.mono (old3 b1).size)
 have T0 := tabW_below hT Z0
 clear b1 b2 ka0 ka1 kc0 kc1
 have hp13 : w.heap.size ≤ w.heap.size + 1 + 1 := by omega
 have k1 : ∀ u : QOf W, u.val.cell? ⟨w.heap.size, 0, none⟩ = some (.float .f64 a) := fun u => u.cell A0.1
 have k2 : ∀ u : QOf W, u.val.cell? ⟨w.heap.size, 1, none⟩ = some (.float .f64 b) := fun u => u.cell A0.2.1
 have k3 : ∀ u : QOf W, u.val.cell? ⟨w.heap.size + 1, 0, none⟩ = some (.float .f64 c) := fun u => u.cell C0.1
 have k4 : ∀ u : QOf W, u.val.cell? ⟨w.heap.size + 1, 1, none⟩ = some (.float .f64 d) := fun u => u.cell C0.2.1
 have hne : Nonempty (QOf W) := QOf.any T0
 refine region_quietB (by kernel_rfl) (by kernel_rfl) T0 ?_
 repeat (quiet_step ((first
  | (go_at_call 97; refine quietB_of (h1 _ _ ?_ ?_ _ (QOf.tab _)) <;> first | exact Or.inl rfl | exact Or.inr rfl)
  | (go_at_call_of 94 (Value.float FloatKind.f64 (R 1 a c)); exact quietB_of (l1 _))
  | (go_at_call_of 94 (Value.float FloatKind.f64 (R 1 b c)); exact quietB_of (l2 _))
  | (go_at_call 94; exact quietB_of (l3 _)))))
 refine wpQuiet_nil ?_
 intro w' hw'
 obtain ⟨u, rfl⟩ := hw'
 go_wp2
 have A1 := A0.below u.below
 have C1 := C0.below u.below
 have R1 := R0.below u.below
 have Z1 := Z0.trans (u.below.mono Z0.size)
 have T1 := u.tab
 clear k1 k2 k3 k4 l1 l2 l3 h1 A0 C0 R0 Z0 T0 hne
 generalize u.val = V at *
 clear u
 have k1 : ∀ u : QOf V, u.val.cell? ⟨w.heap.size, 0, none⟩ = some (.float .f64 a) := fun u => u.cell A1.1
 have k2 : ∀ u : QOf V, u.val.cell? ⟨w.heap.size, 1, none⟩ = some (.float .f64 b) := fun u => u.cell A1.2.1
 have k3 : ∀ u : QOf V, u.val.cell? ⟨w.heap.size + 1, 0, none⟩ = some (.float .f64 c) := fun u => u.cell C1.1
 have k4 : ∀ u : QOf V, u.val.cell? ⟨w.heap.size + 1, 1, none⟩ = some (.float .f64 d) := fun u => u.cell C1.2.1
 have hne : Nonempty (QOf V) := QOf.any T1
 refine region_quietB (by kernel_rfl) (by kernel_rfl) T1 ?_
 repeat (quiet_step ((first
  | (go_at_call 97; refine quietB_of (h2 _ _ ?_ ?_ _ (QOf.tab _)) <;> first | exact Or.inl rfl | exact Or.inr rfl)
  | (go_at_call_of 96 (Value.float FloatKind.f64 (R 2 a c)); exact quietB_of (g1 _))
  | (go_at_call_of 96 (Value.float FloatKind.f64 (R 2 b c)); exact quietB_of (g2 _))
  | (go_at_call 96; exact quietB_of (g3 _)))))
 refine wpQuiet_nil ?_
 intro w' hw'
 obtain ⟨u, rfl⟩ := hw'
 obtain ⟨c0, c1, f0, f1, _⟩ := R1.below u.below
 have Z2 := Z1.trans (u.below.mono Z1.size)
 clear k1 k2 k3 k4 g1 g2 g3 h2
 go_wp2
 exact bodyPost_ret (v := .tuple #[spV lo hi, .int .i64 0]) (by simp [results, Tryz.results68, go_sem, c0, c1]) rfl ⟨rfl, set2 Z2 hp13 _ _⟩
theorem ge_le {d : Nat} (hd : d < 18446744073709551616) (nd : nanB d = false) : geF d 0 = leF 0 d := by
 rw [geF_num hd (by omega) nd (by decide), leF_num (by omega) hd (by decide) nd]
set_option maxHeartbeats 4000000 in
theorem rdiv5_B (a b c d lo hi : Nat) (R : Int → Nat → Nat → Nat) (eL : lo = lsF (lsF (R 1 a c) (R 1 a d)) (lsF (R 1 b c) (R 1 b d))) (eG : hi = grF (grF (R 2 a c) (R 2 a d)) (grF (R 2 b c) (R 2 b d)))
  (ha : a < 18446744073709551616) (hb : b < 18446744073709551616) (hc : c < 18446744073709551616) (hd : d < 18446744073709551616) (ra : sRt a b = true) (rb : sRt c d = true) (nd : nanB d = false) (h0 : (leF c 0 && leF 0 d) = false) (h : CornB 95 a b c d R) (w : World) (hT : TabW w) :
  Calls Tryz.prog 67 #[spV a b, spV c d] w fun e w' => e = .returned (.tuple #[spV lo hi, .int .i64 0]) ∧ Below w.heap.size w w' := by
 have hst := run_storef Tryz.prog
 rw [← ge_le hd nd] at h0
 have o1 : (FloatKind.f64.format.order c 0 == some .lt || FloatKind.f64.format.order c 0 == some .eq) = leF c 0 := rfl
 have o2 : (FloatKind.f64.format.order d 0 == some .gt || FloatKind.f64.format.order d 0 == some .eq) = geF d 0 := rfl
 clear nd
 have r1 := fun w => rright_any a b ha hb w
 have r2 := fun w => rright_any c d hc hd w
 rw [ra] at r1
 rw [rb] at r2
 have h1 := fun x y p q => (h 1 x y p q).1
 have h2 := fun x y p q => (h 2 x y p q).1
 have hl := fun m x y p q => (h m x y p q).2
 have b11 := hl 1 a c (Or.inl rfl) (Or.inl rfl)
 have b12 := hl 1 a d (Or.inl rfl) (Or.inr rfl)
 have b13 := hl 1 b c (Or.inr rfl) (Or.inl rfl)
 have b14 := hl 1 b d (Or.inr rfl) (Or.inr rfl)
 have b21 := hl 2 a c (Or.inl rfl) (Or.inl rfl)
 have b22 := hl 2 a d (Or.inl rfl) (Or.inr rfl)
 have b23 := hl 2 b c (Or.inr rfl) (Or.inl rfl)
 have b24 := hl 2 b d (Or.inr rfl) (Or.inr rfl)
 have l1 := fun w => rlesser_any (R 1 a c) (R 1 a d) b11 b12 w
 have l2 := fun w => rlesser_any (R 1 b c) (R 1 b d) b13 b14 w
 have l3 := fun w => rlesser_any (lsF (R 1 a c) (R 1 a d)) (lsF (R 1 b c) (R 1 b d)) (lsF_lt b11 b12) (lsF_lt b13 b14) w
 have g1 := fun w => rgreater_any (R 2 a c) (R 2 a d) b21 b22 w
 have g2 := fun w => rgreater_any (R 2 b c) (R 2 b d) b23 b24 w
 have g3 := fun w => rgreater_any (grF (R 2 a c) (R 2 a d)) (grF (R 2 b c) (R 2 b d)) (grF_lt b21 b22) (grF_lt b23 b24) w
 rw [← eL] at l3
 rw [← eG] at g3
 clear h hl b11 b12 b13 b14 b21 b22 b23 b24 eL eG
 cases q1 : leF c 0
 ·rw [q1] at o1
  clear h0 o2
  go_enter Tryz.func67, Tryz.ntmps67
  go_upto_region 5 with (first | (go_at_call_of 93 (Value.agg #[Value.float FloatKind.f64 a, Value.float FloatKind.f64 b]); refine (r1 _).mono ?_; rintro e v1 ⟨rfl, b1⟩; obtain ⟨ka0, ka1, _⟩ := (((Bx.new _ _ _ _).alloc _).alloc _).below b1; obtain ⟨kc0, kc1, _⟩ := ((Bx.new1 _ _ _ _ _).alloc _).below b1; have C1 := ((Bx.new1 _ _ _ _ _).alloc _).below b1) | (go_at_call_of 93 (Value.agg #[Value.float FloatKind.f64 c, Value.float FloatKind.f64 d]); refine (r2 _).mono ?_; rintro e W ⟨rfl, b2⟩; obtain ⟨kc0, kc1, _⟩ := C1.below b2))
  have A0 := ((((Bx.new w (.float .f64 a) (.float .f64 b) 52).alloc (.cells #[.float .f64 c, .float .f64 d] 52)).alloc (.cells #[.float .f64 0, .float .f64 0] 52)).below b1).below b2
  have C0 := (((Bx.new1 w (.float .f64 c) (.float .f64 d) (.cells #[.float .f64 a, .float .f64 b] 52) 52).alloc (.cells #[.float .f64 0, .float .f64 0] 52)).below b1).below b2
  have R0 := ((Bx.new2 w (.float .f64 0) (.float .f64 0) (.cells #[.float .f64 a, .float .f64 b] 52) (.cells #[.float .f64 c, .float .f64 d] 52) 52).below b1).below b2
  have Z0 := (old3 b1).trans (b2.mono (old3 b1).size)
  have T0 := tabW_below hT Z0
  clear b1 b2 ka0 ka1 kc0 kc1 C1
  have hp13 : w.heap.size ≤ w.heap.size + 1 + 1 := by omega
  have k1 : ∀ u : QOf W, u.val.cell? ⟨w.heap.size, 0, none⟩ = some (.float .f64 a) := fun u => u.cell A0.1
  have k2 : ∀ u : QOf W, u.val.cell? ⟨w.heap.size, 1, none⟩ = some (.float .f64 b) := fun u => u.cell A0.2.1
  have k3 : ∀ u : QOf W, u.val.cell? ⟨w.heap.size + 1, 0, none⟩ = some (.float .f64 c) := fun u => u.cell C0.1
  have k4 : ∀ u : QOf W, u.val.cell? ⟨w.heap.size + 1, 1, none⟩ = some (.float .f64 d) := fun u => u.cell C0.2.1
  have hne : Nonempty (QOf W) := QOf.any T0
  refine region_quietB (by kernel_rfl) (by kernel_rfl) T0 ?_
  repeat (quiet_step ((first
   | (go_at_call 95; refine quietB_of (h1 _ _ ?_ ?_ _ (QOf.tab _)) <;> first | exact Or.inl rfl | exact Or.inr rfl)
   | (go_at_call_of 94 (Value.float FloatKind.f64 (R 1 a c)); exact quietB_of (l1 _))
   | (go_at_call_of 94 (Value.float FloatKind.f64 (R 1 b c)); exact quietB_of (l2 _))
   | (go_at_call 94; exact quietB_of (l3 _)))))
  refine wpQuiet_nil ?_
  intro w' hw'
  obtain ⟨u, rfl⟩ := hw'
  go_wp2
  have A1 := A0.below u.below
  have C1 := C0.below u.below
  have R1 := R0.below u.below
  have Z1 := Z0.trans (u.below.mono Z0.size)
  have T1 := u.tab
  clear k1 k2 k3 k4 l1 l2 l3 h1 A0 C0 R0 Z0 T0 hne
  generalize u.val = V at *
  clear u
  have k1 : ∀ u : QOf V, u.val.cell? ⟨w.heap.size, 0, none⟩ = some (.float .f64 a) := fun u => u.cell A1.1
  have k2 : ∀ u : QOf V, u.val.cell? ⟨w.heap.size, 1, none⟩ = some (.float .f64 b) := fun u => u.cell A1.2.1
  have k3 : ∀ u : QOf V, u.val.cell? ⟨w.heap.size + 1, 0, none⟩ = some (.float .f64 c) := fun u => u.cell C1.1
  have k4 : ∀ u : QOf V, u.val.cell? ⟨w.heap.size + 1, 1, none⟩ = some (.float .f64 d) := fun u => u.cell C1.2.1
  have hne : Nonempty (QOf V) := QOf.any T1
  refine region_quietB (by kernel_rfl) (by kernel_rfl) T1 ?_
  repeat (quiet_step ((first
   | (go_at_call 95; refine quietB_of (h2 _ _ ?_ ?_ _ (QOf.tab _)) <;> first | exact Or.inl rfl | exact Or.inr rfl)
   | (go_at_call_of 96 (Value.float FloatKind.f64 (R 2 a c)); exact quietB_of (g1 _))
   | (go_at_call_of 96 (Value.float FloatKind.f64 (R 2 b c)); exact quietB_of (g2 _))
   | (go_at_call 96; exact quietB_of (g3 _)))))
  refine wpQuiet_nil ?_
  intro w' hw'
  obtain ⟨u, rfl⟩ := hw'
  obtain ⟨c0, c1, f0, f1, _⟩ := R1.below u.below
  have Z2 := Z1.trans (u.below.mono Z1.size)
  clear k1 k2 k3 k4 g1 g2 g3 h2
  go_wp2
  exact bodyPost_ret (v := .tuple #[spV lo hi, .int .i64 0]) (by simp [results, Tryz.results67, go_sem, c0, c1]) rfl ⟨rfl, set2 Z2 hp13 _ _⟩
 ·rw [q1] at o1 h0
  have q2 : geF d 0 = false := by simpa using h0
  rw [q2] at o2
  clear h0
  go_enter Tryz.func67, Tryz.ntmps67
  go_upto_region 5 with (first | (go_at_call_of 93 (Value.agg #[Value.float FloatKind.f64 a, Value.float FloatKind.f64 b]); refine (r1 _).mono ?_; rintro e v1 ⟨rfl, b1⟩; obtain ⟨ka0, ka1, _⟩ := (((Bx.new _ _ _ _).alloc _).alloc _).below b1; obtain ⟨kc0, kc1, _⟩ := ((Bx.new1 _ _ _ _ _).alloc _).below b1; have C1 := ((Bx.new1 _ _ _ _ _).alloc _).below b1) | (go_at_call_of 93 (Value.agg #[Value.float FloatKind.f64 c, Value.float FloatKind.f64 d]); refine (r2 _).mono ?_; rintro e W ⟨rfl, b2⟩; obtain ⟨kc0, kc1, _⟩ := C1.below b2))
  have A0 := ((((Bx.new w (.float .f64 a) (.float .f64 b) 52).alloc (.cells #[.float .f64 c, .float .f64 d] 52)).alloc (.cells #[.float .f64 0, .float .f64 0] 52)).below b1).below b2
  have C0 := (((Bx.new1 w (.float .f64 c) (.float .f64 d) (.cells #[.float .f64 a, .float .f64 b] 52) 52).alloc (.cells #[.float .f64 0, .float .f64 0] 52)).below b1).below b2
  have R0 := ((Bx.new2 w (.float .f64 0) (.float .f64 0) (.cells #[.float .f64 a, .float .f64 b] 52) (.cells #[.float .f64 c, .float .f64 d] 52) 52).below b1).below b2
  have Z0 := (old3 b1).trans (b2.mono (old3 b1).size)
  have T0 := tabW_below hT Z0
  clear b1 b2 ka0 ka1 kc0 kc1 C1
  have hp13 : w.heap.size ≤ w.heap.size + 1 + 1 := by omega
  have k1 : ∀ u : QOf W, u.val.cell? ⟨w.heap.size, 0, none⟩ = some (.float .f64 a) := fun u => u.cell A0.1
  have k2 : ∀ u : QOf W, u.val.cell? ⟨w.heap.size, 1, none⟩ = some (.float .f64 b) := fun u => u.cell A0.2.1
  have k3 : ∀ u : QOf W, u.val.cell? ⟨w.heap.size + 1, 0, none⟩ = some (.float .f64 c) := fun u => u.cell C0.1
  have k4 : ∀ u : QOf W, u.val.cell? ⟨w.heap.size + 1, 1, none⟩ = some (.float .f64 d) := fun u => u.cell C0.2.1
  have hne : Nonempty (QOf W) := QOf.any T0
  refine region_quietB (by kernel_rfl) (by kernel_rfl) T0 ?_
  repeat (quiet_step ((first
   | (go_at_call 95; refine quietB_of (h1 _ _ ?_ ?_ _ (QOf.tab _)) <;> first | exact Or.inl rfl | exact Or.inr rfl)
   | (go_at_call_of 94 (Value.float FloatKind.f64 (R 1 a c)); exact quietB_of (l1 _))
   | (go_at_call_of 94 (Value.float FloatKind.f64 (R 1 b c)); exact quietB_of (l2 _))
   | (go_at_call 94; exact quietB_of (l3 _)))))
  refine wpQuiet_nil ?_
  intro w' hw'
  obtain ⟨u, rfl⟩ := hw'
  go_wp2
  have A1 := A0.below u.below
  have C1 := C0.below u.below
  have R1 := R0.below u.below
  have Z1 := Z0.trans (u.below.mono Z0.size)
  have T1 := u.tab
  clear k1 k2 k3 k4 l1 l2 l3 h1 A0 C0 R0 Z0 T0 hne
  generalize u.val = V at *
  clear u
  have k1 : ∀ u : QOf V, u.val.cell? ⟨w.heap.size, 0, none⟩ = some (.float .f64 a) := fun u => u.cell A1.1
  have k2 : ∀ u : QOf V, u.val.cell? ⟨w.heap.size, 1, none⟩ = some (.float .f64 b) := fun u => u.cell A1.2.1
  have k3 : ∀ u : QOf V, u.val.cell? ⟨w.heap.size + 1, 0, none⟩ = some (.float .f64 c) := fun u => u.cell C1.1
  have k4 : ∀ u : QOf V, u.val.cell? ⟨w.heap.size + 1, 1, none⟩ = some (.float .f64 d) := fun u => u.cell C1.2.1
  have hne : Nonempty (QOf V) := QOf.any T1
  refine region_quietB (by kernel_rfl) (by kernel_rfl) T1 ?_
  repeat (quiet_step ((first
   | (go_at_call 95; refine quietB_of (h2 _ _ ?_ ?_ _ (QOf.tab _)) <;> first | exact Or.inl rfl | exact Or.inr rfl)
   | (go_at_call_of 96 (Value.float FloatKind.f64 (R 2 a c)); exact quietB_of (g1 _))
   | (go_at_call_of 96 (Value.float FloatKind.f64 (R 2 b c)); exact quietB_of (g2 _))
   | (go_at_call 96; exact quietB_of (g3 _)))))
  refine wpQuiet_nil ?_
  intro w' hw'
  obtain ⟨u, rfl⟩ := hw'
  obtain ⟨c0, c1, f0, f1, _⟩ := R1.below u.below
  have Z2 := Z1.trans (u.below.mono Z1.size)
  clear k1 k2 k3 k4 g1 g2 g3 h2
  go_wp2
  exact bodyPost_ret (v := .tuple #[spV lo hi, .int .i64 0]) (by simp [results, Tryz.results67, go_sem, c0, c1]) rfl ⟨rfl, set2 Z2 hp13 _ _⟩
theorem rt_facts {l h : Nat} (hl : l < 18446744073709551616) (hh : h < 18446744073709551616) (r : sRt l h = true) : nanB l = false ∧ nanB h = false ∧ (finB l = true ∨ sgn l = true) ∧ (finB h = true ∨ sgn h = false) ∧ place l ≤ place h := by
 have nl : nanB l = false := by
  cases n : nanB l
  ·rfl
  ·rw [sRt_nan hl hh (Or.inl n)] at r; cases r
 have nh : nanB h = false := by
  cases n : nanB h
  ·rfl
  ·rw [sRt_nan hl hh (Or.inr n)] at r; cases r
 rw [sRt_doc hl hh nl nh] at r
 simp only [Bool.and_eq_true, Bool.or_eq_true, Bool.not_eq_true', decide_eq_false_iff_not, decide_eq_true_eq] at r
 obtain ⟨r1, r2, r3⟩ := r
 refine ⟨nl, nh, ?_, ?_, by omega⟩
 ·rcases r2 with g | g
  ·exact Or.inl g
  ·right
   unfold place at g
   cases s : sgn l
   ·rw [s] at g; simp at g; omega
   ·rfl
 ·rcases r3 with g | g
  ·exact Or.inl g
  ·right
   unfold place at g
   cases s : sgn h
   ·rfl
   ·rw [s] at g; simp at g; omega
theorem corn_mul {a b c d : Nat} (ha : a < 18446744073709551616) (hb : b < 18446744073709551616) (hc : c < 18446744073709551616) (hd : d < 18446744073709551616) (ra : sRt a b = true) (rb : sRt c d = true) : CornB 101 a b c d tB ∧ CornB 97 a b c d tB := by
  obtain ⟨na, nb, _⟩ := rt_facts ha hb ra
  obtain ⟨nc, nd, _⟩ := rt_facts hc hd rb
  refine ⟨fun m x y hx hy => ?_, fun m x y hx hy => ?_⟩ <;> rcases hx with rfl | rfl <;> rcases hy with rfl | rfl <;>
    (have h := sprod_B m (x := x) (y := y) (by assumption) (by assumption) (by assumption) (by assumption)
     first | exact ⟨h.2.1, h.1⟩ | exact ⟨h.2.2, h.1⟩)
theorem zero_out {c d : Nat} (hc : c < 18446744073709551616) (hd : d < 18446744073709551616) (rb : sRt c d = true) (h0 : (leF c 0 && leF 0 d) = false) : rung c ≠ 0 ∧ rung d ≠ 0 := by
 obtain ⟨nc, nd, _, _, hp⟩ := rt_facts hc hd rb
 rw [leF_num hc (by omega) nc (by decide), leF_num (by omega) hd (by decide) nd, show place 0 = 0 by decide] at h0
 simp only [Bool.and_eq_false_iff, decide_eq_false_iff_not] at h0
 constructor
 ·intro h
  have e : place c = 0 := by unfold place; rw [h]; cases sgn c <;> rfl
  omega
 ·intro h
  have e : place d = 0 := by unfold place; rw [h]; cases sgn d <;> rfl
  omega
theorem corn_div {a b c d : Nat} (ha : a < 18446744073709551616) (hb : b < 18446744073709551616) (hc : c < 18446744073709551616) (hd : d < 18446744073709551616) (ra : sRt a b = true) (rb : sRt c d = true) (h0 : (leF c 0 && leF 0 d) = false) : CornB 108 a b c d oB ∧ CornB 95 a b c d oB := by
  obtain ⟨na, nb, _⟩ := rt_facts ha hb ra
  obtain ⟨nc, nd, _⟩ := rt_facts hc hd rb
  obtain ⟨c0, d0⟩ := zero_out hc hd rb h0
  refine ⟨fun m x y hx hy => ?_, fun m x y hx hy => ?_⟩ <;> rcases hx with rfl | rfl <;> rcases hy with rfl | rfl <;>
    (have h := squot_B m (x := x) (y := y) (by assumption) (by assumption) (by assumption) (by assumption) (by assumption)
     first | exact ⟨h.2.1, h.1⟩ | exact ⟨h.2.2, h.1⟩)
abbrev Both (F G a b c d : Nat) : Prop := ∃ lo hi n, lo < 18446744073709551616 ∧ hi < 18446744073709551616 ∧
  (∀ w, TabW w → Calls Tryz.prog F #[spV a b, spV c d] w fun e w' => e = .returned (.tuple #[spV lo hi, .int .i64 n]) ∧ Below w.heap.size w w') ∧
  (∀ w, TabW w → Calls Tryz.prog G #[spV a b, spV c d] w fun e w' => e = .returned (.tuple #[spV lo hi, .int .i64 n]) ∧ Below w.heap.size w w')
end Go.Proofs.YtkjgilffljlanaaGreatDoor
