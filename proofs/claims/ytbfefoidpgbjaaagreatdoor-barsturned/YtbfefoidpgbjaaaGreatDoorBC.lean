/- What the kit's SamePlaces answers of places that are alike. -/
import Derived.Test.YtbfefoidpgbjaaaGreatDoorBA
import Derived.Test.YtbfefoidpgbjaaaGreatDoorZf
import Derived.Test.YtbfefoidpgbjaaaGreatDoorK1
import Derived.BigQuiet
import Derived.Deep.QuietTactic
import Derived.Test.YtbfefoidpgbjaaaGreatDoorBB
namespace Go.Proofs.YtbfefoidpgbjaaaGreatDoor
open Go.RowKit
theorem bge_le {x c : Nat} (hx : x < 18446744073709551616) (hc : c < 18446744073709551616) (nc : nanB c = false) : geF x c = leF c x := by
 cases h : nanB x
 ·unfold geF leF
  rw [gt_num hx hc h nc, eq_num hx hc h nc, lt_num hc hx nc h, eq_num hc hx nc h, Bool.eq_iff_iff]
  simp
  omega
 ·unfold geF leF
  rw [ord_nan hx hc (Or.inl h), ord_nan hc hx (Or.inr h)]
  rfl
def tn1 (m : Mb) (q : Nat) : Bool := decide (m.kd = 2) && ((decide (m.a = q) && !m.ha) || (decide (m.b = q) && !m.hb))
def tnB (ms : List Mb) (q : Nat) : Bool := ms.any fun m => tn1 m q
def freB (f : Nat) (t : Bool) : Bool × Bool × Bool := (decide (f % 2 = 0), decide (f / 2 % 2 = 0), decide (f / 4 % 2 = 0) && t)
def plN (n : Int) (b : Bool × Bool × Bool) : (Int × Int × Int) × Int :=
 let x := if b.1 then (n, n + 1) else (-1, n)
 let y := if b.2.1 then (x.2, x.2 + 1) else (-1, x.2)
 let z := if b.2.2 then (y.2, y.2 + 1) else (-1, y.2)
 ((x.1, y.1, z.1), z.2)
def plK (js : List Jn) (ms : List Mb) : Nat → List (Int × Int × Int) × Int
 | 0 => ([], 0)
 | k + 1 => ((plK js ms k).1 ++ [(plN (plK js ms k).2 (freB (js.getD k jz).2.2.2 (tnB ms k))).1], (plN (plK js ms k).2 (freB (js.getD k jz).2.2.2 (tnB ms k))).2)
theorem plK_len (js : List Jn) (ms : List Mb) (k : Nat) : (plK js ms k).1.length = k := by
 induction k with
 | zero => rfl
 | succ n ih => simp [plK, ih]
def P3Row (w : World) (ao : Option Addr) (ps : List (Int × Int × Int)) : Prop := ps.length = 0 ∨ ∃ b off, ao = some ⟨b, off, none⟩ ∧ ∀ k, k < ps.length →
 w.cell? ⟨b, off + k * 3, none⟩ = some (.int .i64 (ps.getD k (0, 0, 0)).1) ∧ w.cell? ⟨b, off + k * 3 + 1, none⟩ = some (.int .i64 (ps.getD k (0, 0, 0)).2.1) ∧ w.cell? ⟨b, off + k * 3 + 2, none⟩ = some (.int .i64 (ps.getD k (0, 0, 0)).2.2)
theorem P3Row.below {w w' : World} {ao : Option Addr} {ps : List (Int × Int × Int)} (h : P3Row w ao ps) (hb : Below w.heap.size w w') : P3Row w' ao ps := by
 rcases h with h | ⟨b, off, rfl, hc⟩
 ·exact Or.inl h
 ·refine Or.inr ⟨b, off, rfl, fun j hj => ?_⟩
  obtain ⟨c0, c1, c2⟩ := hc j hj
  exact ⟨by rw [hb.cell (World.block_lt_of_cell? w _ c0)]; exact c0, by rw [hb.cell (World.block_lt_of_cell? w _ c1)]; exact c1, by rw [hb.cell (World.block_lt_of_cell? w _ c2)]; exact c2⟩
end Go.Proofs.YtbfefoidpgbjaaaGreatDoor
