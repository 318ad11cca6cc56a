/- What the statements' own 'same' and 'made' answer. -/
import Derived.Test.YtomohmjjaijlbaaGreatDoorZp
namespace Go.Proofs.YtomohmjjaijlbaaGreatDoor
open Go.RowKit

/-- A dyad in a box. -/
structure Hd (w : World) (p : Nat) (d : Dy) (ao : Option Addr) (cap : Nat) : Prop where
  c0 : w.cell? ⟨p, 0, none⟩ = some (.bool d.neg)
  c1 : w.cell? ⟨p, 1, none⟩ = some (.slice ao d.mag.length cap)
  c2 : w.cell? ⟨p, 2, none⟩ = some (.int .i64 d.exp)
  row : LRow w ao d.mag
theorem Hd.below {w w' : World} {p : Nat} {d : Dy} {ao : Option Addr} {cap : Nat} (h : Hd w p d ao cap) (hb : Below w.heap.size w w') : Hd w' p d ao cap := by
  obtain ⟨c0, c1, c2⟩ := three_on hb ⟨h.c0, h.c1, h.c2⟩
  exact ⟨c0, c1, c2, h.row.below hb⟩
/-- The box that a result is stored in. -/
theorem Hd.new {w : World} {d : Dy} {ao : Option Addr} {cap : Nat} (h : LRow w ao d.mag) : Hd (w.alloc (.cells #[.bool d.neg, .slice ao d.mag.length cap, .int .i64 d.exp] 126)) w.heap.size d ao cap := by
  refine ⟨?_, ?_, ?_, h.alloc _⟩ <;> go_simp
end Go.Proofs.YtomohmjjaijlbaaGreatDoor
