/- The document's Springs of bars, of a plan that may be. -/
import Derived.Test.YtfipmopmpacdaaaGreatDoorBE
import Derived.Test.YtfipmopmpacdaaaGreatDoorBG
import Derived.Test.YtfipmopmpacdaaaGreatDoorY9
import Derived.BigQuiet
import Derived.Test.YtfipmopmpacdaaaGreatDoorBF
import Derived.Test.YtfipmopmpacdaaaGreatDoorZK
import Derived.Deep.AppendLies
import Derived.Maps.AppendAt
namespace Go.Proofs.YtfipmopmpacdaaaGreatDoor
open Go.RowKit
theorem MBox.grown {w w' : World} {row : Option Nat} {b : Nat} {m : Mb} (h : MBox w b m) (hg : w.grownBy w' row) (hne : some b ≠ row) : MBox w' b m := by
 have k := fun i => hg.frozen_far ⟨b, i, none⟩ h.lt hne
 obtain ⟨⟨c0, c1, c2, c3, c4, c5, c6, c7, c8⟩, f0, f1, f2, f3, f4, f5, f6, f7, f8, lt⟩ := h
 exact ⟨⟨hg.cell c0 hne, hg.cell c1 hne, hg.cell c2 hne, hg.cell c3 hne, hg.cell c4 hne, hg.cell c5 hne, hg.cell c6 hne, hg.cell c7 hne, hg.cell c8 hne⟩, (k 0).trans f0, (k 1).trans f1, (k 2).trans f2, (k 3).trans f3, (k 4).trans f4, (k 5).trans f5, (k 6).trans f6, (k 7).trans f7, (k 8).trans f8, Nat.lt_of_lt_of_le lt hg.size⟩
end Go.Proofs.YtfipmopmpacdaaaGreatDoor
