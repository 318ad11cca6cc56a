/- What Naive answers, the program's and the document's. -/
import Derived.Test.YtclldmdhpojciaaBa
import Derived.Test.YtclldmdhpojciaaZb
import Derived.Deep.LoopGhost
namespace Go.Proofs.Ytclldmdhpojciaa
open Go.RowKit

/-- Floats at an address. -/
def GRow (w : World) (ao : Option Addr) (xs : List Nat) : Prop := xs.length = 0 ∨ ∃ b off, ao = some ⟨b, off, none⟩ ∧ ∀ j, j < xs.length → w.cell? ⟨b, off + j, none⟩ = some (.float .f64 (xs.getD j 0))
theorem GRow.below {w w' : World} {ao : Option Addr} {xs : List Nat} (h : GRow w ao xs) (hb : Below w.heap.size w w') : GRow w' ao xs := by
  rcases h with h | ⟨b, off, rfl, hc⟩
  · exact Or.inl h
  · exact Or.inr ⟨b, off, rfl, fun j hj => by rw [hb.cell (World.block_lt_of_cell? w _ (hc j hj))]; exact hc j hj⟩
theorem getD_at {xs : List Nat} {k : Nat} (hk : k < xs.length) : xs.getD k 0 = xs[k] := by simp [List.getD, hk]
def FW (xs : List Nat) : Prop := ∀ x, x ∈ xs → x < 18446744073709551616
theorem FW.at {xs : List Nat} (h : FW xs) {k : Nat} (hk : k < xs.length) : xs.getD k 0 < 18446744073709551616 := by
  rw [getD_at hk]
  exact h _ (List.getElem_mem hk)
theorem take_at {xs : List Nat} {k : Nat} (hk : k < xs.length) : xs.take (k + 1) = xs.take k ++ [xs.getD k 0] := by
  rw [List.take_succ_eq_append_getElem hk, getD_at hk]
end Go.Proofs.Ytclldmdhpojciaa
