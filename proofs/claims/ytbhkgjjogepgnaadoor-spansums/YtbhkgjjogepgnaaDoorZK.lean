/- Both sides' sums, differences, products and quotients of any two spans are one. -/
import Derived.Test.YtbhkgjjogepgnaaDoorZj
import Derived.Test.YtbhkgjjogepgnaaDoorZ10
import Derived.Test.YtbhkgjjogepgnaaDoorZR
import Derived.Test.YtbhkgjjogepgnaaDoorZg
namespace Go.Proofs.YtbhkgjjogepgnaaDoor
open Go.RowKit

abbrev TB (f : Nat) (x y : Nat) (m : Int) (r : Nat) : Prop := ∀ w, TabW w → Calls Tryd.prog f #[.float .f64 x, .float .f64 y, .int .i8 m] w fun e w' => e = .returned (.float .f64 r) ∧ Below w.heap.size w w'
def addB (m : Int) (x y : Nat) : Nat := if finB x && finB y then addV x y m else (floatBits .add .f64 x y).getD 0
def mulB (m : Int) (x y : Nat) : Nat := if someB x && someB y then stepF (pQ x y) (pS x y) m else (floatBits .mul .f64 x y).getD 0
def divB (m : Int) (x y : Nat) : Nat := if someB x && someB y then stepF (kQ x y) (kS x y) m else (floatBits .quo .f64 x y).getD 0
theorem nr_at {o : Option Nat} {r : Nat} (h : o.isSome = true) (hr : NR o r) : r = o.getD 0 := by
  cases o with
  | none => cases h
  | some v => exact hr.2
/-- What a float that is no NaN is read as. -/
theorem read_nn {x : Nat} (hx : x < 18446744073709551616) (n : nanB x = false) : Ieee.double.read x = if finB x then .number (sgn x) (mg (rung x)) (-1074 + ((up (rung x) : Nat) : Int)) else .infinity (sgn x) := by
  cases hf : finB x
  · have h1 : rung x = 9218868437227405312 := by
      unfold finB at hf; unfold nanB at n; simp at hf n; omega
    rw [read_eq x hx, if_neg (by omega), if_pos h1]; rfl
  · rw [read_fin hx hf]; rfl
theorem mg_nil {x : Nat} : mg (rung x) = 0 ↔ rung x = 0 := by
  unfold mg; split <;> omega
theorem addS_ok {x y : Nat} (hx : x < 18446744073709551616) (hy : y < 18446744073709551616) (nx : nanB x = false) (ny : nanB y = false) (h : finB x = true ∨ finB y = true ∨ sgn x = sgn y) : (floatBits .add .f64 x y).isSome = true := by
  rw [(fbits_map x y).1, read_nn hx nx, read_nn hy ny]
  cases fx : finB x <;> cases fy : finB y <;> simp only [Bool.false_eq_true, if_false, if_true, Ieee.Datum.sum, Option.map_some, Option.isSome_some]
  rw [fx, fy] at h
  have e : sgn x = sgn y := by simpa using h
  rw [e]; simp
theorem mulS_ok {x y : Nat} (hx : x < 18446744073709551616) (hy : y < 18446744073709551616) (nx : nanB x = false) (ny : nanB y = false) (h : ((rung x == 0 && !finB y) || (rung y == 0 && !finB x)) = false) : (floatBits .mul .f64 x y).isSome = true := by
  rw [(fbits_map x y).2.2.1, read_nn hx nx, read_nn hy ny]
  cases fx : finB x <;> cases fy : finB y <;> rw [fx, fy] at h <;> simp only [Bool.false_eq_true, if_false, if_true, Ieee.Datum.product, Option.map_some, Option.isSome_some]
  · have : mg (rung y) ≠ 0 := by rw [Ne, mg_nil]; simpa using h
    rw [if_neg this]; rfl
  · have : mg (rung x) ≠ 0 := by rw [Ne, mg_nil]; simpa using h
    rw [if_neg this]; rfl
theorem divS_ok {x y : Nat} (hx : x < 18446744073709551616) (hy : y < 18446744073709551616) (nx : nanB x = false) (ny : nanB y = false) (h : (!finB x && !finB y) = false) (y0 : rung y ≠ 0) : (floatBits .quo .f64 x y).isSome = true := by
  have m0 : mg (rung y) ≠ 0 := by rw [Ne, mg_nil]; exact y0
  rw [(fbits_map x y).2.2.2, read_nn hx nx, read_nn hy ny]
  cases fx : finB x <;> cases fy : finB y <;> rw [fx, fy] at h <;> simp only [Bool.false_eq_true, if_false, if_true, Ieee.Datum.quotient, Option.map_some, Option.isSome_some]
  · cases h
  · rw [if_neg m0]; rfl
/-- A product, a quotient of two ends. -/
def tB (m : Int) (x y : Nat) : Nat := if (rung x == 0 && !finB y) || (rung y == 0 && !finB x) then 0 else mulB m x y
def oB (m : Int) (x y : Nat) : Nat := if !finB x && !finB y then 0 else divB m x y
end Go.Proofs.YtbhkgjjogepgnaaDoor

namespace Go.Proofs.YtbhkgjjogepgnaaDoor
open Go.RowKit

/-- A later world. -/
structure QOf (W : World) where
  val : World
  below : Below W.heap.size W val
  tab : TabW val
def QC (W : World) : World → Prop := fun w' => ∃ u : QOf W, w' = u.val
theorem region_quietB {P : Program} {id : Nat} {Q : Exit → Act → World → Prop} {a : Act} {w : World} {l : List Oper} (hm : P.follows .mixedOrders = true) (hB : Region.lexB .any l.toArray = true) (hT : TabW w)
    (h : wpQuiet P l.toArray (fun w' => ∃ u : QOf w, w' = u.val) (fun a' => ∀ w', (∃ u : QOf w, w' = u.val) → Q .normal a' w') l a) : (Code.region id l.toArray true).wp P Q a w :=
  wp_region_quiet (C := fun w' => ∃ u : QOf w, w' = u.val) hm hB ⟨⟨w.drew, (Below.refl _ _).drew, tabW_below hT (Below.refl _ _).drew⟩, rfl⟩ h
theorem quietB_of {P : Program} {f : Nat} {args : Array Value} {W : World} {u : QOf W} {v : Value} (h : Calls P f args u.val fun e w' => e = .returned v ∧ Below u.val.heap.size u.val w') : Calls P f args u.val fun e w'' => e = .returned v ∧ ∃ u' : QOf W, w'' = u'.val :=
  h.mono fun _ w' ⟨he, hb⟩ => ⟨he, ⟨w', u.below.trans (hb.mono u.below.size), tabW_below u.tab hb⟩, rfl⟩
theorem QOf.cell {W : World} (u : QOf W) {p : Addr} {v : Value} (h : W.cell? p = some v) : u.val.cell? p = some v := by
  rw [u.below.cell (World.block_lt_of_cell? W _ h)]; exact h
theorem QOf.any {W : World} (hT : TabW W) : Nonempty (QOf W) := ⟨⟨W, Below.refl _ _, hT⟩⟩
set_option maxRecDepth 100000 in
set_option maxHeartbeats 1600000 in
theorem scorn1_P (a b c d D A C : Nat) (R : Nat → Nat → Nat) (m : Int) (h : ∀ x y, (x = a ∨ x = b) → (y = c ∨ y = d) → TB 46 x y m (R x y))
    (w : World) (hT : TabW w) (cd : w.cell? ⟨D, 0, none⟩ = some (.func (.func 46) #[] #[])) (ca : w.cell? ⟨A, 0, none⟩ = some (.float .f64 a)) (cb : w.cell? ⟨A, 1, none⟩ = some (.float .f64 b)) (cc : w.cell? ⟨C, 0, none⟩ = some (.float .f64 c)) (ce : w.cell? ⟨C, 1, none⟩ = some (.float .f64 d)) :
    Calls Tryd.prog 76 #[.int .i8 m, .pointer (some ⟨D, 0, none⟩), .pointer (some ⟨A, 0, none⟩), .pointer (some ⟨C, 0, none⟩)] w fun e w' => e = .returned (.tuple #[.float .f64 (R a c), .float .f64 (R a d), .float .f64 (R b c), .float .f64 (R b d)]) ∧ Below w.heap.size w w' := by
  go_enter Tryd.func76, Tryd.ntmps76
  go_wp2
  have hne : Nonempty (QOf w) := QOf.any hT
  have k0 : ∀ u : QOf w, u.val.cell? ⟨D, 0, none⟩ = some (.func (.func 46) #[] #[]) := fun u => u.cell cd
  have k1 : ∀ u : QOf w, u.val.cell? ⟨A, 0, none⟩ = some (.float .f64 a) := fun u => u.cell ca
  have k2 : ∀ u : QOf w, u.val.cell? ⟨A, 1, none⟩ = some (.float .f64 b) := fun u => u.cell cb
  have k3 : ∀ u : QOf w, u.val.cell? ⟨C, 0, none⟩ = some (.float .f64 c) := fun u => u.cell cc
  have k4 : ∀ u : QOf w, u.val.cell? ⟨C, 1, none⟩ = some (.float .f64 d) := fun u => u.cell ce
  refine region_quietB (by kernel_rfl) (by kernel_rfl) hT ?_
  repeat (quiet_step ((go_at_call 46; refine quietB_of (h _ _ ?_ ?_ _ (QOf.tab _)) <;> first | exact Or.inl rfl | exact Or.inr rfl)))
  refine wpQuiet_nil ?_
  intro w' hw'
  obtain ⟨u, rfl⟩ := hw'
  go_wp2
  exact bodyPost_ret (v := .tuple #[.float .f64 (R a c), .float .f64 (R a d), .float .f64 (R b c), .float .f64 (R b d)]) (by simp [results, Tryd.results76, go_sem]) rfl ⟨rfl, u.below⟩
set_option maxHeartbeats 2000000 in
theorem scorn_P (a b c d : Nat) (R : Int → Nat → Nat → Nat) (h : ∀ m x y, (x = a ∨ x = b) → (y = c ∨ y = d) → TB 46 x y m (R m x y) ∧ R m x y < 18446744073709551616) (w : World) (hT : TabW w) :
    Calls Tryd.prog 45 #[spV a b, spV c d, .func (.func 46) #[] #[]] w fun e w' => e = .returned (spV (lsC R a b c d) (grC R a b c d)) ∧ Below w.heap.size w w' := by
  have hst := run_storef Tryd.prog
  have h1 := fun x y p q => (h 1 x y p q).1
  have h2 := fun x y p q => (h 2 x y p q).1
  have hl := fun m x y p q => (h m x y p q).2
  have b11 := hl 1 a c (Or.inl rfl) (Or.inl rfl)
  have b12 := hl 1 a d (Or.inl rfl) (Or.inr rfl)
  have b13 := hl 1 b c (Or.inr rfl) (Or.inl rfl)
  have b14 := hl 1 b d (Or.inr rfl) (Or.inr rfl)
  have b21 := hl 2 a c (Or.inl rfl) (Or.inl rfl)
  have b22 := hl 2 a d (Or.inl rfl) (Or.inr rfl)
  have b23 := hl 2 b c (Or.inr rfl) (Or.inl rfl)
  have b24 := hl 2 b d (Or.inr rfl) (Or.inr rfl)
  have eL : Hid (lsC R a b c d = lsF (lsF (lsF (R 1 a c) (R 1 a d)) (R 1 b c)) (R 1 b d)) := rfl
  have eG : Hid (grC R a b c d = grF (grF (grF (R 2 a c) (R 2 a d)) (R 2 b c)) (R 2 b d)) := rfl
  clear h hl
  go_enter Tryd.func45, Tryd.ntmps45
  go_wp2_with (first
    | (go_at_call_of 76 (Value.int IntKind.i8 1); refine (scorn1_P a b c d _ _ _ (R 1) 1 h1 _ (tabW_alloc (tabW_alloc (tabW_alloc (tabW_alloc hT _) _) _) _) (by go_simp) (by go_simp) (by go_simp) (by go_simp) (by go_simp)).mono ?_; rintro e w1 ⟨rfl, b1⟩; have A1 := ((((Bx.new _ _ _ _).alloc _).alloc _).alloc _).below b1; have C1 := (((Bx.new1 _ _ _ _ _).alloc _).alloc _).below b1; have R1 := (Bx.new3 _ _ _ _ _ _ _).below b1; have D1 : w1.cell? ⟨w.heap.size + 1 + 1, 0, none⟩ = some (.func (.func 46) #[] #[]) := ((oldc b1).1 (w.heap.size + 1 + 1) 0 (by go_simp)).trans (by go_simp); have B1 := old4 b1; have T1 := tabW_below hT B1)
    | (go_at_call_of 76 (Value.int IntKind.i8 2); refine (scorn1_P a b c d _ _ _ (R 2) 2 h2 _ (tabW_alloc T1 _) (cell_al D1 _) (A1.alloc _).1 (A1.alloc _).2.1 (C1.alloc _).1 (C1.alloc _).2.1).mono ?_; rintro e w2 ⟨rfl, b2⟩; have R2 := (R1.alloc _).below b2; have B2 := old1 b2)
    | (go_at_call 26; refine (sleast_four _ _ _ _ _ b11 b12 b13 b14 _ (by go_simp) (by go_simp) (by go_simp)).mono ?_; rw [← eL.out]; rintro e w' ⟨rfl, rfl⟩)
    | (go_at_call 25; refine (sgreatest_four _ _ _ _ _ b21 b22 b23 b24 _ (by go_simp) (by go_simp) (by go_simp)).mono ?_; rw [← eG.out]; rintro e w' ⟨rfl, rfl⟩; obtain ⟨c0, c1, f0, f1, _⟩ := R2.alloc (.cells #[.float .f64 (R 2 a d), .float .f64 (R 2 b c), .float .f64 (R 2 b d)] 22)))
  have B3 := B1.trans (B2.mono B1.size)
  exact bodyPost_ret (v := spV (lsC R a b c d) (grC R a b c d)) (by simp [results, Tryd.results45, go_sem, c0, c1]) rfl ⟨rfl, set2 (B3.alloc B3.size _) (by omega) _ _⟩
set_option maxRecDepth 100000 in
set_option maxHeartbeats 1600000 in
theorem scorn1_Q (a b c d D A C : Nat) (R : Nat → Nat → Nat) (m : Int) (h : ∀ x y, (x = a ∨ x = b) → (y = c ∨ y = d) → TB 47 x y m (R x y))
    (w : World) (hT : TabW w) (cd : w.cell? ⟨D, 0, none⟩ = some (.func (.func 47) #[] #[])) (ca : w.cell? ⟨A, 0, none⟩ = some (.float .f64 a)) (cb : w.cell? ⟨A, 1, none⟩ = some (.float .f64 b)) (cc : w.cell? ⟨C, 0, none⟩ = some (.float .f64 c)) (ce : w.cell? ⟨C, 1, none⟩ = some (.float .f64 d)) :
    Calls Tryd.prog 76 #[.int .i8 m, .pointer (some ⟨D, 0, none⟩), .pointer (some ⟨A, 0, none⟩), .pointer (some ⟨C, 0, none⟩)] w fun e w' => e = .returned (.tuple #[.float .f64 (R a c), .float .f64 (R a d), .float .f64 (R b c), .float .f64 (R b d)]) ∧ Below w.heap.size w w' := by
  go_enter Tryd.func76, Tryd.ntmps76
  go_wp2
  have hne : Nonempty (QOf w) := QOf.any hT
  have k0 : ∀ u : QOf w, u.val.cell? ⟨D, 0, none⟩ = some (.func (.func 47) #[] #[]) := fun u => u.cell cd
  have k1 : ∀ u : QOf w, u.val.cell? ⟨A, 0, none⟩ = some (.float .f64 a) := fun u => u.cell ca
  have k2 : ∀ u : QOf w, u.val.cell? ⟨A, 1, none⟩ = some (.float .f64 b) := fun u => u.cell cb
  have k3 : ∀ u : QOf w, u.val.cell? ⟨C, 0, none⟩ = some (.float .f64 c) := fun u => u.cell cc
  have k4 : ∀ u : QOf w, u.val.cell? ⟨C, 1, none⟩ = some (.float .f64 d) := fun u => u.cell ce
  refine region_quietB (by kernel_rfl) (by kernel_rfl) hT ?_
  repeat (quiet_step ((go_at_call 47; refine quietB_of (h _ _ ?_ ?_ _ (QOf.tab _)) <;> first | exact Or.inl rfl | exact Or.inr rfl)))
  refine wpQuiet_nil ?_
  intro w' hw'
  obtain ⟨u, rfl⟩ := hw'
  go_wp2
  exact bodyPost_ret (v := .tuple #[.float .f64 (R a c), .float .f64 (R a d), .float .f64 (R b c), .float .f64 (R b d)]) (by simp [results, Tryd.results76, go_sem]) rfl ⟨rfl, u.below⟩
set_option maxHeartbeats 2000000 in
theorem scorn_Q (a b c d : Nat) (R : Int → Nat → Nat → Nat) (h : ∀ m x y, (x = a ∨ x = b) → (y = c ∨ y = d) → TB 47 x y m (R m x y) ∧ R m x y < 18446744073709551616) (w : World) (hT : TabW w) :
    Calls Tryd.prog 45 #[spV a b, spV c d, .func (.func 47) #[] #[]] w fun e w' => e = .returned (spV (lsC R a b c d) (grC R a b c d)) ∧ Below w.heap.size w w' := by
  have hst := run_storef Tryd.prog
  have h1 := fun x y p q => (h 1 x y p q).1
  have h2 := fun x y p q => (h 2 x y p q).1
  have hl := fun m x y p q => (h m x y p q).2
  have b11 := hl 1 a c (Or.inl rfl) (Or.inl rfl)
  have b12 := hl 1 a d (Or.inl rfl) (Or.inr rfl)
  have b13 := hl 1 b c (Or.inr rfl) (Or.inl rfl)
  have b14 := hl 1 b d (Or.inr rfl) (Or.inr rfl)
  have b21 := hl 2 a c (Or.inl rfl) (Or.inl rfl)
  have b22 := hl 2 a d (Or.inl rfl) (Or.inr rfl)
  have b23 := hl 2 b c (Or.inr rfl) (Or.inl rfl)
  have b24 := hl 2 b d (Or.inr rfl) (Or.inr rfl)
  have eL : Hid (lsC R a b c d = lsF (lsF (lsF (R 1 a c) (R 1 a d)) (R 1 b c)) (R 1 b d)) := rfl
  have eG : Hid (grC R a b c d = grF (grF (grF (R 2 a c) (R 2 a d)) (R 2 b c)) (R 2 b d)) := rfl
  clear h hl
  go_enter Tryd.func45, Tryd.ntmps45
  go_wp2_with (first
    | (go_at_call_of 76 (Value.int IntKind.i8 1); refine (scorn1_Q a b c d _ _ _ (R 1) 1 h1 _ (tabW_alloc (tabW_alloc (tabW_alloc (tabW_alloc hT _) _) _) _) (by go_simp) (by go_simp) (by go_simp) (by go_simp) (by go_simp)).mono ?_; rintro e w1 ⟨rfl, b1⟩; have A1 := ((((Bx.new _ _ _ _).alloc _).alloc _).alloc _).below b1; have C1 := (((Bx.new1 _ _ _ _ _).alloc _).alloc _).below b1; have R1 := (Bx.new3 _ _ _ _ _ _ _).below b1; have D1 : w1.cell? ⟨w.heap.size + 1 + 1, 0, none⟩ = some (.func (.func 47) #[] #[]) := ((oldc b1).1 (w.heap.size + 1 + 1) 0 (by go_simp)).trans (by go_simp); have B1 := old4 b1; have T1 := tabW_below hT B1)
    | (go_at_call_of 76 (Value.int IntKind.i8 2); refine (scorn1_Q a b c d _ _ _ (R 2) 2 h2 _ (tabW_alloc T1 _) (cell_al D1 _) (A1.alloc _).1 (A1.alloc _).2.1 (C1.alloc _).1 (C1.alloc _).2.1).mono ?_; rintro e w2 ⟨rfl, b2⟩; have R2 := (R1.alloc _).below b2; have B2 := old1 b2)
    | (go_at_call 26; refine (sleast_four _ _ _ _ _ b11 b12 b13 b14 _ (by go_simp) (by go_simp) (by go_simp)).mono ?_; rw [← eL.out]; rintro e w' ⟨rfl, rfl⟩)
    | (go_at_call 25; refine (sgreatest_four _ _ _ _ _ b21 b22 b23 b24 _ (by go_simp) (by go_simp) (by go_simp)).mono ?_; rw [← eG.out]; rintro e w' ⟨rfl, rfl⟩; obtain ⟨c0, c1, f0, f1, _⟩ := R2.alloc (.cells #[.float .f64 (R 2 a d), .float .f64 (R 2 b c), .float .f64 (R 2 b d)] 22)))
  have B3 := B1.trans (B2.mono B1.size)
  exact bodyPost_ret (v := spV (lsC R a b c d) (grC R a b c d)) (by simp [results, Tryd.results45, go_sem, c0, c1]) rfl ⟨rfl, set2 (B3.alloc B3.size _) (by omega) _ _⟩
/-- What is told of the corners' products, quotients. -/
abbrev CornB (F a b c d : Nat) (R : Int → Nat → Nat → Nat) : Prop := ∀ m x y, (x = a ∨ x = b) → (y = c ∨ y = d) → TB F x y m (R m x y) ∧ R m x y < 18446744073709551616
set_option maxHeartbeats 800000 in
theorem sproduct_B (a b c d : Nat) (R : Int → Nat → Nat → Nat) (h : CornB 46 a b c d R) (w : World) (hT : TabW w) :
    Calls Tryd.prog 28 #[spV a b, spV c d] w fun e w' => e = .returned (spV (lsC R a b c d) (grC R a b c d)) ∧ Below w.heap.size w w' := by
  have hst := run_storef Tryd.prog
  have hc := scorn_P a b c d R h
  clear h
  go_enter Tryd.func28, Tryd.ntmps28
  go_wp2_with (go_at_call 45; refine (hc _ (tabW_alloc (tabW_alloc (tabW_alloc hT _) _) _)).mono ?_; rintro e w1 ⟨rfl, b1⟩; obtain ⟨c0, c1, f0, f1, _⟩ := (Bx.new2 _ _ _ _ _ _).below b1)
  exact bodyPost_ret (v := spV (lsC R a b c d) (grC R a b c d)) (by simp [results, Tryd.results28, go_sem, c0, c1]) rfl ⟨rfl, set2 (old3 b1) (by omega) _ _⟩
set_option maxHeartbeats 800000 in
theorem squotient_B (a b c d : Nat) (R : Int → Nat → Nat → Nat) (h : CornB 47 a b c d R) (w : World) (hT : TabW w) :
    Calls Tryd.prog 30 #[spV a b, spV c d] w fun e w' => e = .returned (spV (lsC R a b c d) (grC R a b c d)) ∧ Below w.heap.size w w' := by
  have hst := run_storef Tryd.prog
  have hc := scorn_Q a b c d R h
  clear h
  go_enter Tryd.func30, Tryd.ntmps30
  go_wp2_with (go_at_call 45; refine (hc _ (tabW_alloc (tabW_alloc (tabW_alloc hT _) _) _)).mono ?_; rintro e w1 ⟨rfl, b1⟩; obtain ⟨c0, c1, f0, f1, _⟩ := (Bx.new2 _ _ _ _ _ _).below b1)
  exact bodyPost_ret (v := spV (lsC R a b c d) (grC R a b c d)) (by simp [results, Tryd.results30, go_sem, c0, c1]) rfl ⟨rfl, set2 (old3 b1) (by omega) _ _⟩
set_option maxHeartbeats 1600000 in
theorem smul_B (a b c d : Nat) (R : Int → Nat → Nat → Nat) (ra : sRt a b = true) (rb : sRt c d = true) (h : CornB 46 a b c d R) (w : World) (hT : TabW w) :
    Calls Tryd.prog 9 #[spV a b, spV c d] w fun e w' => e = .returned (.tuple #[spV (lsC R a b c d) (grC R a b c d), .int .i64 0]) ∧ Below w.heap.size w w' := by
  have hst := run_storef Tryd.prog
  have hs := sproduct_B a b c d R h
  clear h
  go_enter Tryd.func9, Tryd.ntmps9
  go_wp2_with (first
    | (go_at_call 24; refine (sall_two a b c d _ _ (by go_simp) (by go_simp) (by go_simp) (by go_simp) (by go_simp)).mono ?_; rw [ra, rb]; rintro e w1 ⟨rfl, b1⟩; obtain ⟨a0, a1, _⟩ := ((((Bx.new _ _ _ _).alloc _).alloc _).alloc _).below b1; have D1 := (((Bx.new1 _ _ _ _ _).alloc _).alloc _).below b1; have d0 := D1.1; have d1 := D1.2.1; have R1 := ((Bx.new2 _ _ _ _ _ _).alloc _).below b1; have g0 := R1.1; have g1 := R1.2.1; have g2 := R1.2.2.1; have g3 := R1.2.2.2.1; have b3 := old1 (old3 b1); have T1 := tabW_below hT b3)
    | (go_at_call 28; refine (hs _ T1).mono ?_; rintro e w2 ⟨rfl, b2⟩; obtain ⟨c0, c1, f0, f1, _⟩ := R1.below b2))
  exact bodyPost_ret (v := .tuple #[spV (lsC R a b c d) (grC R a b c d), .int .i64 0]) (by simp [results, Tryd.results9, go_sem, c0, c1]) rfl ⟨rfl, set2 (b3.trans (b2.mono b3.size)) (by omega) _ _⟩
set_option maxHeartbeats 1600000 in
theorem sdiv_B (a b c d : Nat) (R : Int → Nat → Nat → Nat) (ra : sRt a b = true) (rb : sRt c d = true) (h0 : (sRt c d && finB 0 && leF c 0 && leF 0 d) = false) (h : CornB 47 a b c d R) (w : World) (hT : TabW w) :
    Calls Tryd.prog 11 #[spV a b, spV c d] w fun e w' => e = .returned (.tuple #[spV (lsC R a b c d) (grC R a b c d), .int .i64 0]) ∧ Below w.heap.size w w' := by
  have hst := run_storef Tryd.prog
  have hs := squotient_B a b c d R h
  have hh := fun w => shas_any c d 0 (by omega) w
  rw [h0] at hh
  clear h h0
  go_enter Tryd.func11, Tryd.ntmps11
  go_wp2_with (first
    | (go_at_call 24; refine (sall_two a b c d _ _ (by go_simp) (by go_simp) (by go_simp) (by go_simp) (by go_simp)).mono ?_; rw [ra, rb]; rintro e w1 ⟨rfl, b1⟩; obtain ⟨a0, a1, _⟩ := ((((Bx.new _ _ _ _).alloc _).alloc _).alloc _).below b1; have D1 := (((Bx.new1 _ _ _ _ _).alloc _).alloc _).below b1; have A1 := ((((Bx.new _ _ _ _).alloc _).alloc _).alloc _).below b1; have d0 := D1.1; have d1 := D1.2.1; have R1 := ((Bx.new2 _ _ _ _ _ _).alloc _).below b1; have g0 := R1.1; have g1 := R1.2.1; have g2 := R1.2.2.1; have g3 := R1.2.2.2.1; have b4 := old1 (old3 b1))
    | (go_at_call 23; refine (hh _).mono ?_; rintro e w2 ⟨rfl, b2⟩; obtain ⟨p0, p1, _⟩ := D1.below b2; obtain ⟨q0, q1, _⟩ := A1.below b2; have R2 := R1.below b2; have b5 := b4.trans (b2.mono b4.size); have T2 := tabW_below hT b5)
    | (go_at_call 30; refine (hs _ T2).mono ?_; rintro e w3 ⟨rfl, b3⟩; obtain ⟨c0, c1, f0, f1, _⟩ := R2.below b3))
  exact bodyPost_ret (v := .tuple #[spV (lsC R a b c d) (grC R a b c d), .int .i64 0]) (by simp [results, Tryd.results11, go_sem, c0, c1]) rfl ⟨rfl, set2 (b5.trans (b3.mono b5.size)) (by omega) _ _⟩
/-- Of what is not right. -/
theorem old4b {w w1 : World} {o p q r : Obj} (hb : Below ((((w.alloc o).alloc p).alloc q).alloc r).heap.size ((((w.alloc o).alloc p).alloc q).alloc r) w1) : Below w.heap.size w w1 := old1 (old3 hb)
set_option maxHeartbeats 1600000 in
theorem smul_not (a b c d : Nat) (hr : (sRt a b && sRt c d) = false) (w : World) :
    Calls Tryd.prog 9 #[spV a b, spV c d] w fun e w' => e = .returned (.tuple #[spV 0 0, .int .i64 2]) ∧ Below w.heap.size w w' := by
  have hst := run_storef Tryd.prog
  go_enter Tryd.func9, Tryd.ntmps9
  go_wp2_with (go_at_call 24; refine (sall_two a b c d _ _ (by go_simp) (by go_simp) (by go_simp) (by go_simp) (by go_simp)).mono ?_; rw [hr]; rintro e w1 ⟨rfl, b1⟩; obtain ⟨c0, c1, f0, f1, _⟩ := ((Bx.new2 _ _ _ _ _ _).alloc _).below b1)
  exact bodyPost_ret (v := .tuple #[spV 0 0, .int .i64 2]) (by simp [results, Tryd.results9, go_sem, c0, c1]) rfl ⟨rfl, set2 (old4b b1) (by omega) _ _⟩
set_option maxHeartbeats 1600000 in
theorem sdiv_not (a b c d : Nat) (hr : (sRt a b && sRt c d) = false) (w : World) :
    Calls Tryd.prog 11 #[spV a b, spV c d] w fun e w' => e = .returned (.tuple #[spV 0 0, .int .i64 2]) ∧ Below w.heap.size w w' := by
  have hst := run_storef Tryd.prog
  go_enter Tryd.func11, Tryd.ntmps11
  go_wp2_with (go_at_call 24; refine (sall_two a b c d _ _ (by go_simp) (by go_simp) (by go_simp) (by go_simp) (by go_simp)).mono ?_; rw [hr]; rintro e w1 ⟨rfl, b1⟩; obtain ⟨c0, c1, f0, f1, _⟩ := ((Bx.new2 _ _ _ _ _ _).alloc _).below b1)
  exact bodyPost_ret (v := .tuple #[spV 0 0, .int .i64 2]) (by simp [results, Tryd.results11, go_sem, c0, c1]) rfl ⟨rfl, set2 (old4b b1) (by omega) _ _⟩
set_option maxHeartbeats 1600000 in
theorem sadd_not (a b c d : Nat) (hr : (sRt a b && sRt c d) = false) (w : World) :
    Calls Tryd.prog 8 #[spV a b, spV c d] w fun e w' => e = .returned (.tuple #[spV 0 0, .int .i64 2]) ∧ Below w.heap.size w w' := by
  have hst := run_storef Tryd.prog
  go_enter Tryd.func8, Tryd.ntmps8
  go_wp2_with (go_at_call 24; refine (sall_two a b c d _ _ (by go_simp) (by go_simp) (by go_simp) (by go_simp) (by go_simp)).mono ?_; rw [hr]; rintro e w1 ⟨rfl, b1⟩; obtain ⟨c0, c1, f0, f1, _⟩ := ((Bx.new2 _ _ _ _ _ _).alloc _).below b1)
  exact bodyPost_ret (v := .tuple #[spV 0 0, .int .i64 2]) (by simp [results, Tryd.results8, go_sem, c0, c1]) rfl ⟨rfl, set2 (old4b b1) (by omega) _ _⟩
set_option maxHeartbeats 1600000 in
theorem ssub_not (a b c d : Nat) (hr : (sRt a b && sRt c d) = false) (w : World) :
    Calls Tryd.prog 10 #[spV a b, spV c d] w fun e w' => e = .returned (.tuple #[spV 0 0, .int .i64 2]) ∧ Below w.heap.size w w' := by
  have hst := run_storef Tryd.prog
  go_enter Tryd.func10, Tryd.ntmps10
  go_wp2_with (go_at_call 24; refine (sall_two a b c d _ _ (by go_simp) (by go_simp) (by go_simp) (by go_simp) (by go_simp)).mono ?_; rw [hr]; rintro e w1 ⟨rfl, b1⟩; obtain ⟨c0, c1, f0, f1, _⟩ := ((Bx.new2 _ _ _ _ _ _).alloc _).below b1)
  exact bodyPost_ret (v := .tuple #[spV 0 0, .int .i64 2]) (by simp [results, Tryd.results10, go_sem, c0, c1]) rfl ⟨rfl, set2 (old4b b1) (by omega) _ _⟩
end Go.Proofs.YtbhkgjjogepgnaaDoor

namespace Go.Proofs.YtbhkgjjogepgnaaDoor
open Go.RowKit

theorem udrew {w w1 : World} (h : Below w.drew.heap.size w.drew w1) : Below w.heap.size w w1 := ⟨h.os, h.tape, h.output, h.size, h.block⟩
set_option maxHeartbeats 2000000 in
theorem ssum_B (a b c d lo hi : Nat) (h1 : TB 44 a c 1 lo) (h2 : TB 44 b d 2 hi) (w : World) (hT : TabW w) :
    Calls Tryd.prog 27 #[spV a b, spV c d] w fun e w' => e = .returned (spV lo hi) ∧ Below w.heap.size w w' := by
  have hst := run_storef Tryd.prog
  go_enter Tryd.func27, Tryd.ntmps27
  go_wp2
  have A0 := ((Bx.new w (.float .f64 a) (.float .f64 b) 24).alloc (.cells #[.float .f64 c, .float .f64 d] 24)).alloc (.cells #[.float .f64 0, .float .f64 0] 24)
  have C0 := (Bx.new1 w (.float .f64 c) (.float .f64 d) (.cells #[.float .f64 a, .float .f64 b] 24) 24).alloc (.cells #[.float .f64 0, .float .f64 0] 24)
  have R0 := Bx.new2 w (.float .f64 0) (.float .f64 0) (.cells #[.float .f64 a, .float .f64 b] 24) (.cells #[.float .f64 c, .float .f64 d] 24) 24
  have Z0 : Below w.heap.size w (((w.alloc (.cells #[.float .f64 a, .float .f64 b] 24)).alloc (.cells #[.float .f64 c, .float .f64 d] 24)).alloc (.cells #[.float .f64 0, .float .f64 0] 24)) := alls3
  have T0 := tabW_below hT Z0
  generalize ((w.alloc (.cells #[.float .f64 a, .float .f64 b] 24)).alloc (.cells #[.float .f64 c, .float .f64 d] 24)).alloc (.cells #[.float .f64 0, .float .f64 0] 24) = W at *
  have D0 := tabW_below T0 (Below.refl W.heap.size W).drew
  obtain ⟨p1, hp1⟩ : ∃ p, w.heap.size = p := ⟨_, rfl⟩
  obtain ⟨p2, hp2⟩ : ∃ p, w.heap.size + 1 = p := ⟨_, rfl⟩
  obtain ⟨p3, hp3⟩ : ∃ p, w.heap.size + 1 + 1 = p := ⟨_, rfl⟩
  have hp13 : w.heap.size ≤ p3 := by omega
  have m1 : ¬ p1 = p3 := by omega
  have m2 : ¬ p2 = p3 := by omega
  have m3 : ¬ p3 = p1 := by omega
  have m4 : ¬ p3 = p2 := by omega
  rw [hp3] at R0 ⊢
  rw [hp2] at C0 ⊢
  rw [hp1] at A0
  rw [show (Value.pointer (some ⟨w.heap.size, 0, none⟩)) = Value.pointer (some ⟨p1, 0, none⟩) by rw [hp1]]
  clear hp1 hp2 hp3
  have ka0 := A0.1
  have ka1 := A0.2.1
  have kc0 := C0.1
  have kc1 := C0.2.1
  go_region_held3 (fun w' => w'.cell? ⟨p1, 0, none⟩ = some (.float .f64 a) ∧ w'.cell? ⟨p1, 1, none⟩ = some (.float .f64 b) ∧ w'.cell? ⟨p2, 0, none⟩ = some (.float .f64 c) ∧ w'.cell? ⟨p2, 1, none⟩ = some (.float .f64 d)) (go_keep)
    (first
      | (go_at_call_of 44 (Value.int IntKind.i8 1); refine (h1 _ T1).mono ?_; rintro e x2 ⟨rfl, y2⟩; have z2 := z1.trans (y2.mono z1.size); obtain ⟨ka0, ka1, _⟩ := A0.below z2; obtain ⟨kc0, kc1, _⟩ := C0.below z2; obtain ⟨kr0, kr1, kr2, kr3, _⟩ := R0.below z2)
      | (go_at_call_of 44 (Value.int IntKind.i8 2); refine (h2 _ T1).mono ?_; rintro e x2 ⟨rfl, y2⟩; have z2 := z1.trans (y2.mono z1.size); obtain ⟨ka0, ka1, _⟩ := A0.below z2; obtain ⟨kc0, kc1, _⟩ := C0.below z2; obtain ⟨kr0, kr1, kr2, kr3, _⟩ := R0.below z2)
      | (go_at_call_of 44 (Value.int IntKind.i8 1); refine (h1 _ D0).mono ?_; rintro e x1 ⟨rfl, y1⟩; have z1 := udrew y1; have T1 := tabW_below T0 z1; obtain ⟨ka0, ka1, _⟩ := A0.below z1; obtain ⟨kc0, kc1, _⟩ := C0.below z1)
      | (go_at_call_of 44 (Value.int IntKind.i8 2); refine (h2 _ D0).mono ?_; rintro e x1 ⟨rfl, y1⟩; have z1 := udrew y1; have T1 := tabW_below T0 z1; obtain ⟨ka0, ka1, _⟩ := A0.below z1; obtain ⟨kc0, kc1, _⟩ := C0.below z1))
  all_goals
    go_wp2
    exact bodyPost_ret (v := spV lo hi) (by simp [results, Tryd.results27, go_sem, kr0, kr1]) rfl ⟨rfl, set2 (Z0.trans (z2.mono Z0.size)) hp13 _ _⟩
set_option maxHeartbeats 1600000 in
theorem sadd_B (a b c d lo hi : Nat) (ra : sRt a b = true) (rb : sRt c d = true) (h1 : TB 44 a c 1 lo) (h2 : TB 44 b d 2 hi) (w : World) (hT : TabW w) :
    Calls Tryd.prog 8 #[spV a b, spV c d] w fun e w' => e = .returned (.tuple #[spV lo hi, .int .i64 0]) ∧ Below w.heap.size w w' := by
  have hst := run_storef Tryd.prog
  have hs := ssum_B a b c d lo hi h1 h2
  go_enter Tryd.func8, Tryd.ntmps8
  go_wp2_with (first
    | (go_at_call 24; refine (sall_two a b c d _ _ (by go_simp) (by go_simp) (by go_simp) (by go_simp) (by go_simp)).mono ?_; rw [ra, rb]; rintro e w1 ⟨rfl, b1⟩; obtain ⟨a0, a1, _⟩ := ((((Bx.new _ _ _ _).alloc _).alloc _).alloc _).below b1; obtain ⟨d0, d1, _⟩ := (((Bx.new1 _ _ _ _ _).alloc _).alloc _).below b1; have R1 := ((Bx.new2 _ _ _ _ _ _).alloc _).below b1; have b3 := old1 (old3 b1); have T1 := tabW_below hT b3)
    | (go_at_call 27; refine (hs _ T1).mono ?_; rintro e w2 ⟨rfl, b2⟩; obtain ⟨c0, c1, f0, f1, _⟩ := R1.below b2))
  exact bodyPost_ret (v := .tuple #[spV lo hi, .int .i64 0]) (by simp [results, Tryd.results8, go_sem, c0, c1]) rfl ⟨rfl, set2 (b3.trans (b2.mono b3.size)) (by omega) _ _⟩
set_option maxHeartbeats 2000000 in
theorem ssub_B (a b c d lo hi : Nat) (ra : sRt a b = true) (rb : sRt c d = true) (h1 : TB 29 a d 1 lo) (h2 : TB 29 b c 2 hi) (w : World) (hT : TabW w) :
    Calls Tryd.prog 10 #[spV a b, spV c d] w fun e w' => e = .returned (.tuple #[spV lo hi, .int .i64 0]) ∧ Below w.heap.size w w' := by
  have hst := run_storef Tryd.prog
  go_enter Tryd.func10, Tryd.ntmps10
  go_upto_region 3 with (go_at_call 24; refine (sall_two a b c d _ _ (by go_simp) (by go_simp) (by go_simp) (by go_simp) (by go_simp)).mono ?_; rw [ra, rb]; rintro e W ⟨rfl, b1⟩)
  have A0 := ((((Bx.new w (.float .f64 a) (.float .f64 b) 24).alloc (.cells #[.float .f64 c, .float .f64 d] 24)).alloc (.cells #[.float .f64 0, .float .f64 0] 24)).alloc _).below b1
  have C0 := (((Bx.new1 w (.float .f64 c) (.float .f64 d) (.cells #[.float .f64 a, .float .f64 b] 24) 24).alloc (.cells #[.float .f64 0, .float .f64 0] 24)).alloc _).below b1
  have R0 := ((Bx.new2 w (.float .f64 0) (.float .f64 0) (.cells #[.float .f64 a, .float .f64 b] 24) (.cells #[.float .f64 c, .float .f64 d] 24) 24).alloc _).below b1
  have Z0 := old4b b1
  have T0 := tabW_below hT Z0
  clear b1
  have D0 := tabW_below T0 (Below.refl W.heap.size W).drew
  obtain ⟨p1, hp1⟩ : ∃ p, w.heap.size = p := ⟨_, rfl⟩
  obtain ⟨p2, hp2⟩ : ∃ p, w.heap.size + 1 = p := ⟨_, rfl⟩
  obtain ⟨p3, hp3⟩ : ∃ p, w.heap.size + 1 + 1 = p := ⟨_, rfl⟩
  have hp13 : w.heap.size ≤ p3 := by omega
  have m1 : ¬ p1 = p3 := by omega
  have m2 : ¬ p2 = p3 := by omega
  have m3 : ¬ p3 = p1 := by omega
  have m4 : ¬ p3 = p2 := by omega
  rw [hp3] at R0 ⊢
  rw [hp2] at C0 ⊢
  rw [hp1] at A0
  rw [show (Value.pointer (some ⟨w.heap.size, 0, none⟩)) = Value.pointer (some ⟨p1, 0, none⟩) by rw [hp1]]
  clear hp1 hp2 hp3
  have ka0 := A0.1
  have ka1 := A0.2.1
  have kc0 := C0.1
  have kc1 := C0.2.1
  go_region_held3 (fun w' => w'.cell? ⟨p1, 0, none⟩ = some (.float .f64 a) ∧ w'.cell? ⟨p1, 1, none⟩ = some (.float .f64 b) ∧ w'.cell? ⟨p2, 0, none⟩ = some (.float .f64 c) ∧ w'.cell? ⟨p2, 1, none⟩ = some (.float .f64 d)) (go_keep)
    (first
      | (go_at_call_of 29 (Value.int IntKind.i8 1); refine (h1 _ T1).mono ?_; rintro e x2 ⟨rfl, y2⟩; have z2 := z1.trans (y2.mono z1.size); obtain ⟨ka0, ka1, _⟩ := A0.below z2; obtain ⟨kc0, kc1, _⟩ := C0.below z2; obtain ⟨kr0, kr1, kr2, kr3, _⟩ := R0.below z2)
      | (go_at_call_of 29 (Value.int IntKind.i8 2); refine (h2 _ T1).mono ?_; rintro e x2 ⟨rfl, y2⟩; have z2 := z1.trans (y2.mono z1.size); obtain ⟨ka0, ka1, _⟩ := A0.below z2; obtain ⟨kc0, kc1, _⟩ := C0.below z2; obtain ⟨kr0, kr1, kr2, kr3, _⟩ := R0.below z2)
      | (go_at_call_of 29 (Value.int IntKind.i8 1); refine (h1 _ D0).mono ?_; rintro e x1 ⟨rfl, y1⟩; have z1 := udrew y1; have T1 := tabW_below T0 z1; obtain ⟨ka0, ka1, _⟩ := A0.below z1; obtain ⟨kc0, kc1, _⟩ := C0.below z1)
      | (go_at_call_of 29 (Value.int IntKind.i8 2); refine (h2 _ D0).mono ?_; rintro e x1 ⟨rfl, y1⟩; have z1 := udrew y1; have T1 := tabW_below T0 z1; obtain ⟨ka0, ka1, _⟩ := A0.below z1; obtain ⟨kc0, kc1, _⟩ := C0.below z1))
  all_goals
    go_wp2
    exact bodyPost_ret (v := .tuple #[spV lo hi, .int .i64 0]) (by simp [results, Tryd.results10, go_sem, kr0, kr1]) rfl ⟨rfl, set2 (Z0.trans (z2.mono Z0.size)) hp13 _ _⟩
end Go.Proofs.YtbhkgjjogepgnaaDoor

namespace Go.Proofs.YtbhkgjjogepgnaaDoor
open Go.RowKit

theorem lsF_key (a b : Nat) : lsF a b = if key b < key a then b else a := by
  unfold lsF
  rw [ordF_key]
  by_cases h : key b < key a
  · rw [if_pos h, if_pos h]; simp
  · rw [if_neg h, if_neg h]
    by_cases g : key a < key b
    · rw [if_pos g]; simp
    · rw [if_neg g]; simp
theorem grF_key (a b : Nat) : grF a b = if key a < key b then b else a := by
  unfold grF
  rw [ordF_key]
  by_cases h : key b < key a
  · rw [if_pos h, if_neg (by omega), if_neg (by omega)]
  · rw [if_neg h]
    by_cases g : key a < key b
    · rw [if_pos g, if_pos g]; simp
    · rw [if_neg g, if_neg g]; simp
theorem lsF_assoc (a b c d : Nat) : lsF (lsF a b) (lsF c d) = lsF (lsF (lsF a b) c) d := by
  generalize lsF a b = p
  rw [lsF_key p, lsF_key c, lsF_key (lsF p c), lsF_key p]
  (repeat' split) <;> omega
theorem grF_assoc (a b c d : Nat) : grF (grF a b) (grF c d) = grF (grF (grF a b) c) d := by
  generalize grF a b = p
  rw [grF_key p, grF_key c, grF_key (grF p c), grF_key p]
  (repeat' split) <;> omega
theorem ge_le {d : Nat} (hd : d < 18446744073709551616) (nd : nanB d = false) : geF d 0 = leF 0 d := by
  rw [geF_num hd (by omega) nd (by decide), leF_num (by omega) hd (by decide) nd]
end Go.Proofs.YtbhkgjjogepgnaaDoor

namespace Go.Proofs.YtbhkgjjogepgnaaDoor
open Go.RowKit

theorem rt_facts {l h : Nat} (hl : l < 18446744073709551616) (hh : h < 18446744073709551616) (r : sRt l h = true) : nanB l = false ∧ nanB h = false ∧ (finB l = true ∨ sgn l = true) ∧ (finB h = true ∨ sgn h = false) ∧ place l ≤ place h := by
  have nl : nanB l = false := by
    cases n : nanB l
    · rfl
    · rw [sRt_nan hl hh (Or.inl n)] at r; cases r
  have nh : nanB h = false := by
    cases n : nanB h
    · rfl
    · rw [sRt_nan hl hh (Or.inr n)] at r; cases r
  rw [sRt_doc hl hh nl nh] at r
  simp only [Bool.and_eq_true, Bool.or_eq_true, Bool.not_eq_true', decide_eq_false_iff_not, decide_eq_true_eq] at r
  obtain ⟨r1, r2, r3⟩ := r
  refine ⟨nl, nh, ?_, ?_, by omega⟩
  · rcases r2 with g | g
    · exact Or.inl g
    · right
      unfold place at g
      cases s : sgn l
      · rw [s] at g; simp at g; omega
      · rfl
  · rcases r3 with g | g
    · exact Or.inl g
    · right
      unfold place at g
      cases s : sgn h
      · rfl
      · rw [s] at g; simp at g; omega
theorem zero_out {c d : Nat} (hc : c < 18446744073709551616) (hd : d < 18446744073709551616) (rb : sRt c d = true) (h0 : (leF c 0 && leF 0 d) = false) : rung c ≠ 0 ∧ rung d ≠ 0 := by
  obtain ⟨nc, nd, _, _, hp⟩ := rt_facts hc hd rb
  rw [leF_num hc (by omega) nc (by decide), leF_num (by omega) hd (by decide) nd, show place 0 = 0 by decide] at h0
  simp only [Bool.and_eq_false_iff, decide_eq_false_iff_not] at h0
  constructor
  · intro h
    have e : place c = 0 := by unfold place; rw [h]; cases sgn c <;> rfl
    omega
  · intro h
    have e : place d = 0 := by unfold place; rw [h]; cases sgn d <;> rfl
    omega
theorem lsC_lt {F a b c d : Nat} {R : Int → Nat → Nat → Nat} (h : CornB F a b c d R) : lsC R a b c d < 18446744073709551616 ∧ grC R a b c d < 18446744073709551616 := by
  have hl := fun m x y p q => (h m x y p q).2
  unfold lsC grC
  exact ⟨lsF_lt (lsF_lt (lsF_lt (hl 1 a c (Or.inl rfl) (Or.inl rfl)) (hl 1 a d (Or.inl rfl) (Or.inr rfl))) (hl 1 b c (Or.inr rfl) (Or.inl rfl))) (hl 1 b d (Or.inr rfl) (Or.inr rfl)), grF_lt (grF_lt (grF_lt (hl 2 a c (Or.inl rfl) (Or.inl rfl)) (hl 2 a d (Or.inl rfl) (Or.inr rfl))) (hl 2 b c (Or.inr rfl) (Or.inl rfl))) (hl 2 b d (Or.inr rfl) (Or.inr rfl))⟩
/-- One answer of both. -/
abbrev Both (F G a b c d : Nat) : Prop := ∃ lo hi n, lo < 18446744073709551616 ∧ hi < 18446744073709551616 ∧
    (∀ w, TabW w → Calls Tryd.prog F #[spV a b, spV c d] w fun e w' => e = .returned (.tuple #[spV lo hi, .int .i64 n]) ∧ Below w.heap.size w w') ∧
    (∀ w, TabW w → Calls Tryd.prog G #[spV a b, spV c d] w fun e w' => e = .returned (.tuple #[spV lo hi, .int .i64 n]) ∧ Below w.heap.size w w')
theorem neg_nan {y : Nat} (hy : y < 18446744073709551616) : nanB (negW y) = nanB y := by unfold nanB; rw [(neg_rung hy).1]
end Go.Proofs.YtbhkgjjogepgnaaDoor
