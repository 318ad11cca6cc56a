/- What the reference's numbers answer: Zero, Sign, Minus, Times, top. -/
import Derived.Test.YtggdjbdamaeikaaDoorMc
namespace Go.Proofs.YtggdjbdamaeikaaDoor
open Go.RowKit

theorem bl_none {v : Nat} : bl v = 0 ↔ v = 0 := by
  constructor
  · intro h
    by_cases h0 : v = 0
    · exact h0
    · have := bl_pos h0; omega
  · intro h; rw [h, bl_zero]
end Go.Proofs.YtggdjbdamaeikaaDoor
