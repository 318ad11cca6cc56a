/- What Scale answers, the program's and the reference's. -/
import Derived.Test.YtmffalpckdkabaaDoorY6
import Derived.Test.YtmffalpckdkabaaDoorMdp
import Derived.Test.YtmffalpckdkabaaDoorNn
import Derived.Test.YtmffalpckdkabaaDoorZp
namespace Go.Proofs.YtmffalpckdkabaaDoor
open Go.RowKit

theorem LRow.blk {w : World} {ao : Option Addr} {xs : List Nat} (h : LRow w ao xs) {b off : Nat} (e : ao = some ⟨b, off, none⟩) (h0 : xs.length ≠ 0) : b < w.heap.size := by
  rcases h with h | ⟨b', off', e', hc⟩
  · exact absurd h h0
  · rw [e] at e'
    cases e'
    exact World.block_lt_of_cell? w _ (hc 0 (by omega))
theorem one_more {W w2 w3 : World} {o : Obj} (h1 : Below W.heap.size W w2) (h2 : Below (w2.alloc o).heap.size (w2.alloc o) w3) : Below W.heap.size w2 w3 := by
  have h3 : Below w2.heap.size w2 w3 := ((Below.refl _ _).alloc (Nat.le_refl _) _).trans (h2.mono (by simp))
  exact h3.mono h1.size
end Go.Proofs.YtmffalpckdkabaaDoor
