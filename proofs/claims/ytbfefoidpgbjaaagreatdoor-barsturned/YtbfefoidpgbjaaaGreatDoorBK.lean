/- The document's Springs of bars, of a plan that may be. -/
import Derived.Test.YtbfefoidpgbjaaaGreatDoorBE
import Derived.Test.YtbfefoidpgbjaaaGreatDoorBG
import Derived.Test.YtbfefoidpgbjaaaGreatDoorZu
import Derived.BigQuiet
import Derived.Test.YtbfefoidpgbjaaaGreatDoorBF
import Derived.Test.YtbfefoidpgbjaaaGreatDoorZK
import Derived.Deep.AppendLies
import Derived.Maps.AppendAt
namespace Go.Proofs.YtbfefoidpgbjaaaGreatDoor
open Go.RowKit
theorem below_al {w : World} (o : Obj) : Below w.heap.size w (w.alloc o) := (Below.refl _ _).alloc (Nat.le_refl _) _
def rwK (dx dy l2 : Int) (k : Nat) (back : Bool) : R6 :=
 if k = 1 then ⟨-dx, -dy, 0, dx, dy, 0⟩ else if k = 2 then ⟨-2 * dy, 2 * dx, l2, 2 * dy, -2 * dx, l2⟩ else if k = 3 then ⟨0, 0, 1, 0, 0, -1⟩
 else if back then ⟨-dy, dx, 0, dy, -dx, l2⟩ else ⟨-dy, dx, l2, dy, -dx, 0⟩
def kdK (m : Mb) : List Nat := if m.kd = 1 ∨ (m.ha = true ∧ m.hb = true) then [1] else if m.ha = true ∨ m.hb = true then [1, 4] else [1, 2, 3]
def stK (m : Mb) (L : Am) (x : Nat) (k : Nat) : Am := if k = 1 then axA L x m.e m.ar else if k = 3 then enA L m.e m.i else acA L x m.e m.i
def sgK (m : Mb) (dx dy l2 : Int) (L : Am) (x : Nat) (k : Nat) : Sg := ⟨0, k, rwK dx dy l2 k m.ha, stK m L x k⟩
theorem spK_kds (m : Mb) (p q : Jn) : spK m p q = (kdK m).map (sgK m (aptA p q).1 (aptA p q).2.1 (aptA p q).2.2 (aR (l2F p q)) (l2F p q)) := by
 rw [spK_is]
 unfold spL kdK sgK rwK stK
 by_cases h : m.kd = 1 ∨ (m.ha = true ∧ m.hb = true)
 ·rw [if_pos h, if_pos h]; rfl
 ·rw [if_neg h, if_neg h]
  cases ha : m.ha <;> cases hb : m.hb <;> simp
theorem MBox.grown {w w' : World} {row : Option Nat} {b : Nat} {m : Mb} (h : MBox w b m) (hg : w.grownBy w' row) (hne : some b ≠ row) : MBox w' b m := by
 have k := fun i => hg.frozen_far ⟨b, i, none⟩ h.lt hne
 obtain ⟨⟨c0, c1, c2, c3, c4, c5, c6, c7, c8⟩, f0, f1, f2, f3, f4, f5, f6, f7, f8, lt⟩ := h
 exact ⟨⟨hg.cell c0 hne, hg.cell c1 hne, hg.cell c2 hne, hg.cell c3 hne, hg.cell c4 hne, hg.cell c5 hne, hg.cell c6 hne, hg.cell c7 hne, hg.cell c8 hne⟩, (k 0).trans f0, (k 1).trans f1, (k 2).trans f2, (k 3).trans f3, (k 4).trans f4, (k 5).trans f5, (k 6).trans f6, (k 7).trans f7, (k 8).trans f8, Nat.lt_of_lt_of_le lt hg.size⟩
end Go.Proofs.YtbfefoidpgbjaaaGreatDoor
