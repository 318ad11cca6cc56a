/- The document's Unknowns, of any plan. -/
import Derived.Test.YtfipmopmpacdaaaGreatDoorBA
import Derived.Test.YtfipmopmpacdaaaGreatDoorZf
import Derived.Test.YtfipmopmpacdaaaGreatDoorK1
import Derived.BigQuiet
import Derived.Deep.QuietTactic
import Derived.Test.YtfipmopmpacdaaaGreatDoorBB
import Derived.Test.YtfipmopmpacdaaaGreatDoorJA
import Derived.Test.YtfipmopmpacdaaaGreatDoorJB
import Derived.Test.YtfipmopmpacdaaaGreatDoorJC
import Derived.Deep.Heap
namespace Go.Proofs.YtfipmopmpacdaaaGreatDoor
open Go.RowKit
theorem bge_le {x c : Nat} (hx : x < 18446744073709551616) (hc : c < 18446744073709551616) (nc : nanB c = false) : geF x c = leF c x := by
 cases h : nanB x
 ·unfold geF leF
  rw [gt_num hx hc h nc, eq_num hx hc h nc, lt_num hc hx nc h, eq_num hc hx nc h, Bool.eq_iff_iff]
  simp
  omega
 ·unfold geF leF
  rw [ord_nan hx hc (Or.inl h), ord_nan hc hx (Or.inr h)]
  rfl
def tn1 (m : Mb) (q : Nat) : Bool := decide (m.kd = 2) && ((decide (m.a = q) && !m.ha) || (decide (m.b = q) && !m.hb))
def tnB (ms : List Mb) (q : Nat) : Bool := ms.any fun m => tn1 m q
def freB (f : Nat) (t : Bool) : Bool × Bool × Bool := (decide (f % 2 = 0), decide (f / 2 % 2 = 0), decide (f / 4 % 2 = 0) && t)
def plN (n : Int) (b : Bool × Bool × Bool) : (Int × Int × Int) × Int :=
 let x := if b.1 then (n, n + 1) else (-1, n)
 let y := if b.2.1 then (x.2, x.2 + 1) else (-1, x.2)
 let z := if b.2.2 then (y.2, y.2 + 1) else (-1, y.2)
 ((x.1, y.1, z.1), z.2)
def plK (js : List Jn) (ms : List Mb) : Nat → List (Int × Int × Int) × Int
 | 0 => ([], 0)
 | k + 1 => ((plK js ms k).1 ++ [(plN (plK js ms k).2 (freB (js.getD k jz).2.2.2 (tnB ms k))).1], (plN (plK js ms k).2 (freB (js.getD k jz).2.2.2 (tnB ms k))).2)
theorem plK_len (js : List Jn) (ms : List Mb) (k : Nat) : (plK js ms k).1.length = k := by
 induction k with
 | zero => rfl
 | succ n ih => simp [plK, ih]
def P3Row (w : World) (ao : Option Addr) (ps : List (Int × Int × Int)) : Prop := ps.length = 0 ∨ ∃ b off, ao = some ⟨b, off, none⟩ ∧ ∀ k, k < ps.length →
 w.cell? ⟨b, off + k * 3, none⟩ = some (.int .i64 (ps.getD k (0, 0, 0)).1) ∧ w.cell? ⟨b, off + k * 3 + 1, none⟩ = some (.int .i64 (ps.getD k (0, 0, 0)).2.1) ∧ w.cell? ⟨b, off + k * 3 + 2, none⟩ = some (.int .i64 (ps.getD k (0, 0, 0)).2.2)
theorem P3Row.below {w w' : World} {ao : Option Addr} {ps : List (Int × Int × Int)} (h : P3Row w ao ps) (hb : Below w.heap.size w w') : P3Row w' ao ps := by
 rcases h with h | ⟨b, off, rfl, hc⟩
 ·exact Or.inl h
 ·refine Or.inr ⟨b, off, rfl, fun j hj => ?_⟩
  obtain ⟨c0, c1, c2⟩ := hc j hj
  exact ⟨by rw [hb.cell (World.block_lt_of_cell? w _ c0)]; exact c0, by rw [hb.cell (World.block_lt_of_cell? w _ c1)]; exact c1, by rw [hb.cell (World.block_lt_of_cell? w _ c2)]; exact c2⟩
theorem Tryz.info3 : (Tryz.prog.info? 77).map (fun i => (i.zero, i.size, i.bytes)) = some (some (.agg #[.int .i64 0, .int .i64 0, .int .i64 0]), 3, 24) := by kernel_rfl
def unkA (js : List Jn) (ms : List Mb) : (List (Int × Int × Int) × Int) × Int := if (cpA js ms).1 = 0 then (plK js ms js.length, 0) else (([], 0), (cpA js ms).1)
def GavePl (w : World) (x : (List (Int × Int × Int) × Int) × Int) (e : Ending) (w' : World) : Prop :=
 ∃ ao ac, e = .returned (.tuple #[.agg #[.slice ao x.1.1.length ac, .int .i64 x.1.2], .int .i64 x.2]) ∧ P3Row w' ao x.1.1 ∧ Below w.heap.size w w'
structure T3 (w : World) (b : Nat) (x y z : Value) : Prop where
 c0 : w.cell? ⟨b, 0, none⟩ = some x
 c1 : w.cell? ⟨b, 1, none⟩ = some y
 c2 : w.cell? ⟨b, 2, none⟩ = some z
 f0 : w.frozen? ⟨b, 0, none⟩ = false
 f1 : w.frozen? ⟨b, 1, none⟩ = false
 f2 : w.frozen? ⟨b, 2, none⟩ = false
 lt : b < w.heap.size
theorem T3.new (w : World) (x y z : Value) (t : TypeId) : T3 (w.alloc (.cells #[x, y, z] t)) w.heap.size x y z :=
 ⟨by go_simp, by go_simp, by go_simp, by go_simp, by go_simp, by go_simp, by simp⟩
theorem T3.below {w w' : World} {b : Nat} {x y z : Value} (h : T3 w b x y z) (hb : Below w.heap.size w w') : T3 w' b x y z :=
 ⟨(hb.cell (p := ⟨b, 0, none⟩) h.lt).trans h.c0, (hb.cell (p := ⟨b, 1, none⟩) h.lt).trans h.c1, (hb.cell (p := ⟨b, 2, none⟩) h.lt).trans h.c2, (hb.frozen (p := ⟨b, 0, none⟩) h.lt).trans h.f0, (hb.frozen (p := ⟨b, 1, none⟩) h.lt).trans h.f1, (hb.frozen (p := ⟨b, 2, none⟩) h.lt).trans h.f2, Nat.lt_of_lt_of_le h.lt hb.size⟩
theorem T3.set0 {w : World} {b : Nat} {x y z : Value} (h : T3 w b x y z) (p : Value) : T3 (w.setCell ⟨b, 0, none⟩ p) b p y z := by
 obtain ⟨c0, c1, c2, f0, f1, f2, lt⟩ := h
 exact ⟨by go_simp, by go_simp, by go_simp, by go_simp, by go_simp, by go_simp, by simpa [World.setCell] using lt⟩
theorem T3.set1 {w : World} {b : Nat} {x y z : Value} (h : T3 w b x y z) (p : Value) : T3 (w.setCell ⟨b, 1, none⟩ p) b x p z := by
 obtain ⟨c0, c1, c2, f0, f1, f2, lt⟩ := h
 exact ⟨by go_simp, by go_simp, by go_simp, by go_simp, by go_simp, by go_simp, by simpa [World.setCell] using lt⟩
theorem T3.set2 {w : World} {b : Nat} {x y z : Value} (h : T3 w b x y z) (p : Value) : T3 (w.setCell ⟨b, 2, none⟩ p) b x y p := by
 obtain ⟨c0, c1, c2, f0, f1, f2, lt⟩ := h
 exact ⟨by go_simp, by go_simp, by go_simp, by go_simp, by go_simp, by go_simp, by simpa [World.setCell] using lt⟩
theorem T3.far {w : World} {b g : Nat} {x y z : Value} (h : T3 w b x y z) (hn : b ≠ g) {i : Nat} (a : Value) : T3 (w.setCell ⟨g, i, none⟩ a) b x y z := by
 obtain ⟨c0, c1, c2, f0, f1, f2, lt⟩ := h
 exact ⟨by simp [go_sem, c0], by simp [go_sem, c1], by simp [go_sem, c2], by simp [go_sem, f0], by simp [go_sem, f1], by simp [go_sem, f2], by simpa [World.setCell] using lt⟩
theorem ownp_block {w : World} {B n s k lc : Nat} {e : TypeId} {lo : Option Addr} {xs : List Value} (h : w.ownsRow B e s (.slice lo k lc) n xs) (a : Addr) (ha : lo = some a) : B ≤ a.block ∧ a.block < w.heap.size := by
 rcases h.2 with hn | ⟨g', cap, cur, h1, h2, h3, h4⟩
 ·obtain ⟨e1, _⟩ := hn
  cases e1
  cases ha
 ·cases h1
  cases ha
  refine ⟨h2, ?_⟩
  rcases Nat.lt_or_ge g' w.heap.size with q | q
  ·exact q
  ·rw [Array.getElem?_eq_none q] at h3
   cases h3
theorem PBox.belowB {w w' : World} {b B : Nat} {x y : Value} (h : PBox w b x y) (hl : b < B) (hb : Below B w w') : PBox w' b x y :=
 ⟨(hb.cell (p := ⟨b, 0, none⟩) hl).trans h.c0, (hb.cell (p := ⟨b, 1, none⟩) hl).trans h.c1, (hb.frozen (p := ⟨b, 0, none⟩) hl).trans h.f0, (hb.frozen (p := ⟨b, 1, none⟩) hl).trans h.f1, Nat.lt_of_lt_of_le h.lt hb.size⟩
theorem ownp_shape {w : World} {B k s : Nat} {e : TypeId} {v : Value} {xs : List Value} (h : w.ownsRow B e s v (k + 1) xs) : ∃ g c, v = .slice (some ⟨g, 0, none⟩) (k + 1) c := by
 rcases h.2 with hn | ⟨g', cap, cur, h1, h2, h3, h4⟩
 ·exact absurd hn.2 (by omega)
 ·exact ⟨g', cap, h1⟩
end Go.Proofs.YtfipmopmpacdaaaGreatDoor
