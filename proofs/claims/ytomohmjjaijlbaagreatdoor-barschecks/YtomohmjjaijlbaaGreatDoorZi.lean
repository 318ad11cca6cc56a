/- What round's Add answers. -/
import Derived.Test.YtomohmjjaijlbaaGreatDoorY8
import Derived.Test.YtomohmjjaijlbaaGreatDoorZb
import Derived.Deep.RegionHeld3
namespace Go.Proofs.YtomohmjjaijlbaaGreatDoor
open Go.RowKit

theorem write_word {d : Ieee.Datum} (h : d.isNaN = false) : ∃ s q, q ≤ 9218868437227405312 ∧ Ieee.double.write d = Ieee.double.word s q := by
  cases d with
  | number s m p => obtain ⟨q, hq, e⟩ := nearest_bd s m p; exact ⟨s, q, hq, e⟩
  | infinity s => exact ⟨s, 9218868437227405312, Nat.le_refl _, rfl⟩
  | nan s t => cases h
theorem sum_nan {x y d : Ieee.Datum} (h : x.sum y = some d) : d.isNaN = false := by
  unfold Ieee.Datum.sum at h
  split at h
  · cases h
  · cases h
  · split at h
    · cases h; rfl
    · cases h
  · cases h; rfl
  · cases h; rfl
  · cases h; rfl
theorem sum_word {o : Option Ieee.Datum} {r : Nat} (hn : ∀ d, o = some d → d.isNaN = false) (h : o.map Ieee.double.write = some r) : r < 18446744073709551616 ∧ rung r ≤ 9218868437227405312 := by
  cases o with
  | none => cases h
  | some d =>
    obtain ⟨s, q, hq, e⟩ := write_word (hn d rfl)
    simp only [Option.map_some, Option.some.injEq] at h
    rw [← h, e]
    exact ⟨word_lt64 s (by omega), by rw [(word_rung s (by omega)).1]; exact hq⟩
theorem add_word {a b r : Nat} (h : floatBits .add .f64 a b = some r) : r < 18446744073709551616 ∧ rung r ≤ 9218868437227405312 :=
  sum_word (fun _ h => sum_nan h) (show ((Ieee.double.read a).sum (Ieee.double.read b)).map Ieee.double.write = some r from h)

/-- What an operation of floats answers, and the world behind it: drawn on where there is no answer. -/
def opR (op : BinOp) (a b : Nat) (w : World) : Nat := match floatBits op .f64 a b with | some r => r | none => nanW a b w
def opW (op : BinOp) (a b : Nat) (w : World) : World := match floatBits op .f64 a b with | some _ => w | none => w.drew
theorem opW_below (op : BinOp) (a b : Nat) {w0 w : World} (h : Below w0.heap.size w0 w) : Below w0.heap.size w0 (opW op a b w) := by
  unfold opW
  split
  · exact h
  · exact h.drew
/-- What is told of a finite sum. -/
def addM (a b n r : Nat) (m : Int) : Nat := if rung n == 0 then noughtF a b m else stepF n (signF r) m
end Go.Proofs.YtomohmjjaijlbaaGreatDoor

namespace Go.Proofs.YtomohmjjaijlbaaGreatDoor
open Go.RowKit

theorem run_negf (b : Nat) : Op.unary .neg (.float .f64 b) = pure (.float .f64 (negW b)) := rfl
end Go.Proofs.YtomohmjjaijlbaaGreatDoor
