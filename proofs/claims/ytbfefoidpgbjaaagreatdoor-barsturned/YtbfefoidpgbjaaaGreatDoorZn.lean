/- What the reference's NatBits, NatCmp answer. -/
import Derived.Test.YtbfefoidpgbjaaaGreatDoorZa
import Derived.Test.YtbfefoidpgbjaaaGreatDoorV3
import Derived.Deep.RegionHeld3
import Derived.Deep.AppendLies
import Derived.Laws.OwnMore
import Derived.Deep.QuietTactic
import Derived.BigQuiet
namespace Go.Proofs.YtbfefoidpgbjaaaGreatDoor
open Go.RowKit
def NS (w : World) (ao : Option Addr) (cap : Nat) (xs : List Nat) : Prop := LRow w ao xs ∧ (ao = none → cap = 0 ∧ xs.length = 0) ∧ xs.length ≤ cap
theorem NS.below {w w' : World} {ao : Option Addr} {cap : Nat} {xs : List Nat} (h : NS w ao cap xs) (hb : Below w.heap.size w w') : NS w' ao cap xs := ⟨h.1.below hb, h.2⟩
theorem NS.nil (w : World) : NS w none 0 [] := ⟨LRow.nil _ _, fun _ => ⟨rfl, rfl⟩, by simp⟩
theorem LRow.take {w : World} {ao : Option Addr} {xs : List Nat} (h : LRow w ao xs) (n : Nat) : LRow w ao (xs.take n) := by
 rcases h with h | ⟨b, off, rfl, hc⟩
 ·exact Or.inl (by rw [List.length_take]; omega)
 ·refine Or.inr ⟨b, off, rfl, fun j hj => ?_⟩
  rw [List.length_take] at hj
  rw [hc j (by omega), List.getD_eq_getElem?_getD, List.getD_eq_getElem?_getD, List.getElem?_take, if_pos (by omega)]
theorem NS.take {w : World} {ao : Option Addr} {cap : Nat} {xs : List Nat} (h : NS w ao cap xs) (n : Nat) : NS w ao cap (xs.take n) :=
 ⟨h.1.take n, fun e => ⟨(h.2.1 e).1, by rw [List.length_take, (h.2.1 e).2]; omega⟩, by rw [List.length_take]; have := h.2.2; omega⟩
theorem FRow.ns {w : World} {b n V : Nat} {f : Nat → Nat} (h : FRow w b n f) (hf : ∀ j, j < n → f j = dg V j) : NS w (some ⟨b, 0, none⟩) n (th n V) :=
 ⟨h.lrow (th_length _ _) (fun j hj => by rw [th_dg hj, hf j hj]), fun h => (by cases h), by rw [th_length]; exact Nat.le_refl _⟩
theorem LRow.drop {w : World} {b off : Nat} {xs : List Nat} (hc : ∀ j, j < xs.length → w.cell? ⟨b, off + j, none⟩ = some (.int .u64 (xs.getD j 0 : Nat))) (k : Nat) : LRow w (some ⟨b, off + k, none⟩) (xs.drop k) := by
 refine Or.inr ⟨b, off + k, rfl, fun j hj => ?_⟩
 rw [List.length_drop] at hj
 have := hc (k + j) (by omega)
 rw [← Nat.add_assoc] at this
 rw [this, List.getD_eq_getElem?_getD, List.getD_eq_getElem?_getD, List.getElem?_drop]
theorem below_drewN {B : Nat} {w w1 : World} (h : Below B w w1) (n : Nat) : Below B w (w1.drewN n) := ⟨h.os, h.tape, h.output, h.size, h.block⟩
end Go.Proofs.YtbfefoidpgbjaaaGreatDoor
