/- Both sides' sums, differences, products and quotients of any two spans are one. -/
import Derived.Test.YtlhoidkfphellaaDoorZj
import Derived.Test.YtlhoidkfphellaaDoorZ10
import Derived.Test.YtlhoidkfphellaaDoorZR
import Derived.Test.YtlhoidkfphellaaDoorZg
namespace Go.Proofs.YtlhoidkfphellaaDoor
open Go.RowKit

abbrev TB (f : Nat) (x y : Nat) (m : Int) (r : Nat) : Prop := ∀ w, TabW w → Calls Tryd.prog f #[.float .f64 x, .float .f64 y, .int .i8 m] w fun e w' => e = .returned (.float .f64 r) ∧ Below w.heap.size w w'
def addB (m : Int) (x y : Nat) : Nat := if finB x && finB y then addV x y m else (floatBits .add .f64 x y).getD 0
def mulB (m : Int) (x y : Nat) : Nat := if someB x && someB y then stepF (pQ x y) (pS x y) m else (floatBits .mul .f64 x y).getD 0
def divB (m : Int) (x y : Nat) : Nat := if someB x && someB y then stepF (kQ x y) (kS x y) m else (floatBits .quo .f64 x y).getD 0
theorem nr_at {o : Option Nat} {r : Nat} (h : o.isSome = true) (hr : NR o r) : r = o.getD 0 := by
  cases o with
  | none => cases h
  | some v => exact hr.2
/-- What a float that is no NaN is read as. -/
theorem read_nn {x : Nat} (hx : x < 18446744073709551616) (n : nanB x = false) : Ieee.double.read x = if finB x then .number (sgn x) (mg (rung x)) (-1074 + ((up (rung x) : Nat) : Int)) else .infinity (sgn x) := by
  cases hf : finB x
  · have h1 : rung x = 9218868437227405312 := by
      unfold finB at hf; unfold nanB at n; simp at hf n; omega
    rw [read_eq x hx, if_neg (by omega), if_pos h1]; rfl
  · rw [read_fin hx hf]; rfl
theorem mg_nil {x : Nat} : mg (rung x) = 0 ↔ rung x = 0 := by
  unfold mg; split <;> omega
theorem addS_ok {x y : Nat} (hx : x < 18446744073709551616) (hy : y < 18446744073709551616) (nx : nanB x = false) (ny : nanB y = false) (h : finB x = true ∨ finB y = true ∨ sgn x = sgn y) : (floatBits .add .f64 x y).isSome = true := by
  rw [(fbits_map x y).1, read_nn hx nx, read_nn hy ny]
  cases fx : finB x <;> cases fy : finB y <;> simp only [Bool.false_eq_true, if_false, if_true, Ieee.Datum.sum, Option.map_some, Option.isSome_some]
  rw [fx, fy] at h
  have e : sgn x = sgn y := by simpa using h
  rw [e]; simp
theorem mulS_ok {x y : Nat} (hx : x < 18446744073709551616) (hy : y < 18446744073709551616) (nx : nanB x = false) (ny : nanB y = false) (h : ((rung x == 0 && !finB y) || (rung y == 0 && !finB x)) = false) : (floatBits .mul .f64 x y).isSome = true := by
  rw [(fbits_map x y).2.2.1, read_nn hx nx, read_nn hy ny]
  cases fx : finB x <;> cases fy : finB y <;> rw [fx, fy] at h <;> simp only [Bool.false_eq_true, if_false, if_true, Ieee.Datum.product, Option.map_some, Option.isSome_some]
  · have : mg (rung y) ≠ 0 := by rw [Ne, mg_nil]; simpa using h
    rw [if_neg this]; rfl
  · have : mg (rung x) ≠ 0 := by rw [Ne, mg_nil]; simpa using h
    rw [if_neg this]; rfl
theorem divS_ok {x y : Nat} (hx : x < 18446744073709551616) (hy : y < 18446744073709551616) (nx : nanB x = false) (ny : nanB y = false) (h : (!finB x && !finB y) = false) (y0 : rung y ≠ 0) : (floatBits .quo .f64 x y).isSome = true := by
  have m0 : mg (rung y) ≠ 0 := by rw [Ne, mg_nil]; exact y0
  rw [(fbits_map x y).2.2.2, read_nn hx nx, read_nn hy ny]
  cases fx : finB x <;> cases fy : finB y <;> rw [fx, fy] at h <;> simp only [Bool.false_eq_true, if_false, if_true, Ieee.Datum.quotient, Option.map_some, Option.isSome_some]
  · cases h
  · rw [if_neg m0]; rfl
/-- A product, a quotient of two ends. -/
def tB (m : Int) (x y : Nat) : Nat := if (rung x == 0 && !finB y) || (rung y == 0 && !finB x) then 0 else mulB m x y
def oB (m : Int) (x y : Nat) : Nat := if !finB x && !finB y then 0 else divB m x y
end Go.Proofs.YtlhoidkfphellaaDoor

namespace Go.Proofs.YtlhoidkfphellaaDoor
open Go.RowKit

/-- A later world. -/
structure QOf (W : World) where
  val : World
  below : Below W.heap.size W val
  tab : TabW val
def QC (W : World) : World → Prop := fun w' => ∃ u : QOf W, w' = u.val
theorem region_quietB {P : Program} {id : Nat} {Q : Exit → Act → World → Prop} {a : Act} {w : World} {l : List Oper} (hm : P.follows .mixedOrders = true) (hB : Region.lexB .any l.toArray = true) (hT : TabW w)
    (h : wpQuiet P l.toArray (fun w' => ∃ u : QOf w, w' = u.val) (fun a' => ∀ w', (∃ u : QOf w, w' = u.val) → Q .normal a' w') l a) : (Code.region id l.toArray true).wp P Q a w :=
  wp_region_quiet (C := fun w' => ∃ u : QOf w, w' = u.val) hm hB ⟨⟨w.drew, (Below.refl _ _).drew, tabW_below hT (Below.refl _ _).drew⟩, rfl⟩ h
theorem quietB_of {P : Program} {f : Nat} {args : Array Value} {W : World} {u : QOf W} {v : Value} (h : Calls P f args u.val fun e w' => e = .returned v ∧ Below u.val.heap.size u.val w') : Calls P f args u.val fun e w'' => e = .returned v ∧ ∃ u' : QOf W, w'' = u'.val :=
  h.mono fun _ w' ⟨he, hb⟩ => ⟨he, ⟨w', u.below.trans (hb.mono u.below.size), tabW_below u.tab hb⟩, rfl⟩
theorem QOf.cell {W : World} (u : QOf W) {p : Addr} {v : Value} (h : W.cell? p = some v) : u.val.cell? p = some v := by
  rw [u.below.cell (World.block_lt_of_cell? W _ h)]; exact h
theorem QOf.any {W : World} (hT : TabW W) : Nonempty (QOf W) := ⟨⟨W, Below.refl _ _, hT⟩⟩
/-- What is told of the corners' products, quotients. -/
abbrev CornB (F a b c d : Nat) (R : Int → Nat → Nat → Nat) : Prop := ∀ m x y, (x = a ∨ x = b) → (y = c ∨ y = d) → TB F x y m (R m x y) ∧ R m x y < 18446744073709551616
/-- Of what is not right. -/
theorem old4b {w w1 : World} {o p q r : Obj} (hb : Below ((((w.alloc o).alloc p).alloc q).alloc r).heap.size ((((w.alloc o).alloc p).alloc q).alloc r) w1) : Below w.heap.size w w1 := old1 (old3 hb)
end Go.Proofs.YtlhoidkfphellaaDoor

namespace Go.Proofs.YtlhoidkfphellaaDoor
open Go.RowKit

theorem udrew {w w1 : World} (h : Below w.drew.heap.size w.drew w1) : Below w.heap.size w w1 := ⟨h.os, h.tape, h.output, h.size, h.block⟩
end Go.Proofs.YtlhoidkfphellaaDoor

namespace Go.Proofs.YtlhoidkfphellaaDoor
open Go.RowKit

theorem lsF_key (a b : Nat) : lsF a b = if key b < key a then b else a := by
  unfold lsF
  rw [ordF_key]
  by_cases h : key b < key a
  · rw [if_pos h, if_pos h]; simp
  · rw [if_neg h, if_neg h]
    by_cases g : key a < key b
    · rw [if_pos g]; simp
    · rw [if_neg g]; simp
theorem grF_key (a b : Nat) : grF a b = if key a < key b then b else a := by
  unfold grF
  rw [ordF_key]
  by_cases h : key b < key a
  · rw [if_pos h, if_neg (by omega), if_neg (by omega)]
  · rw [if_neg h]
    by_cases g : key a < key b
    · rw [if_pos g, if_pos g]; simp
    · rw [if_neg g, if_neg g]; simp
theorem lsF_assoc (a b c d : Nat) : lsF (lsF a b) (lsF c d) = lsF (lsF (lsF a b) c) d := by
  generalize lsF a b = p
  rw [lsF_key p, lsF_key c, lsF_key (lsF p c), lsF_key p]
  (repeat' split) <;> omega
theorem grF_assoc (a b c d : Nat) : grF (grF a b) (grF c d) = grF (grF (grF a b) c) d := by
  generalize grF a b = p
  rw [grF_key p, grF_key c, grF_key (grF p c), grF_key p]
  (repeat' split) <;> omega
theorem ge_le {d : Nat} (hd : d < 18446744073709551616) (nd : nanB d = false) : geF d 0 = leF 0 d := by
  rw [geF_num hd (by omega) nd (by decide), leF_num (by omega) hd (by decide) nd]
end Go.Proofs.YtlhoidkfphellaaDoor

namespace Go.Proofs.YtlhoidkfphellaaDoor
open Go.RowKit

theorem rt_facts {l h : Nat} (hl : l < 18446744073709551616) (hh : h < 18446744073709551616) (r : sRt l h = true) : nanB l = false ∧ nanB h = false ∧ (finB l = true ∨ sgn l = true) ∧ (finB h = true ∨ sgn h = false) ∧ place l ≤ place h := by
  have nl : nanB l = false := by
    cases n : nanB l
    · rfl
    · rw [sRt_nan hl hh (Or.inl n)] at r; cases r
  have nh : nanB h = false := by
    cases n : nanB h
    · rfl
    · rw [sRt_nan hl hh (Or.inr n)] at r; cases r
  rw [sRt_doc hl hh nl nh] at r
  simp only [Bool.and_eq_true, Bool.or_eq_true, Bool.not_eq_true', decide_eq_false_iff_not, decide_eq_true_eq] at r
  obtain ⟨r1, r2, r3⟩ := r
  refine ⟨nl, nh, ?_, ?_, by omega⟩
  · rcases r2 with g | g
    · exact Or.inl g
    · right
      unfold place at g
      cases s : sgn l
      · rw [s] at g; simp at g; omega
      · rfl
  · rcases r3 with g | g
    · exact Or.inl g
    · right
      unfold place at g
      cases s : sgn h
      · rfl
      · rw [s] at g; simp at g; omega
theorem zero_out {c d : Nat} (hc : c < 18446744073709551616) (hd : d < 18446744073709551616) (rb : sRt c d = true) (h0 : (leF c 0 && leF 0 d) = false) : rung c ≠ 0 ∧ rung d ≠ 0 := by
  obtain ⟨nc, nd, _, _, hp⟩ := rt_facts hc hd rb
  rw [leF_num hc (by omega) nc (by decide), leF_num (by omega) hd (by decide) nd, show place 0 = 0 by decide] at h0
  simp only [Bool.and_eq_false_iff, decide_eq_false_iff_not] at h0
  constructor
  · intro h
    have e : place c = 0 := by unfold place; rw [h]; cases sgn c <;> rfl
    omega
  · intro h
    have e : place d = 0 := by unfold place; rw [h]; cases sgn d <;> rfl
    omega
theorem lsC_lt {F a b c d : Nat} {R : Int → Nat → Nat → Nat} (h : CornB F a b c d R) : lsC R a b c d < 18446744073709551616 ∧ grC R a b c d < 18446744073709551616 := by
  have hl := fun m x y p q => (h m x y p q).2
  unfold lsC grC
  exact ⟨lsF_lt (lsF_lt (lsF_lt (hl 1 a c (Or.inl rfl) (Or.inl rfl)) (hl 1 a d (Or.inl rfl) (Or.inr rfl))) (hl 1 b c (Or.inr rfl) (Or.inl rfl))) (hl 1 b d (Or.inr rfl) (Or.inr rfl)), grF_lt (grF_lt (grF_lt (hl 2 a c (Or.inl rfl) (Or.inl rfl)) (hl 2 a d (Or.inl rfl) (Or.inr rfl))) (hl 2 b c (Or.inr rfl) (Or.inl rfl))) (hl 2 b d (Or.inr rfl) (Or.inr rfl))⟩
/-- One answer of both. -/
abbrev Both (F G a b c d : Nat) : Prop := ∃ lo hi n, lo < 18446744073709551616 ∧ hi < 18446744073709551616 ∧
    (∀ w, TabW w → Calls Tryd.prog F #[spV a b, spV c d] w fun e w' => e = .returned (.tuple #[spV lo hi, .int .i64 n]) ∧ Below w.heap.size w w') ∧
    (∀ w, TabW w → Calls Tryd.prog G #[spV a b, spV c d] w fun e w' => e = .returned (.tuple #[spV lo hi, .int .i64 n]) ∧ Below w.heap.size w w')
theorem neg_nan {y : Nat} (hy : y < 18446744073709551616) : nanB (negW y) = nanB y := by unfold nanB; rw [(neg_rung hy).1]
end Go.Proofs.YtlhoidkfphellaaDoor
