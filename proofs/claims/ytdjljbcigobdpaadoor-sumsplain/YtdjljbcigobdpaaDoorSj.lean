/- That RoundSums answers true (the library's table lying as its initialiser lays it). -/
import Derived.Test.YtdjljbcigobdpaaDoorSi
import Derived.Test.YtdjljbcigobdpaaDoorWj
namespace Go.Proofs.YtdjljbcigobdpaaDoor
open Go.RowKit

theorem NR_same {o : Option Nat} {r s : Nat} (h : NR o r) (g : NR o s) : sameB r s = true := by
  unfold NR at h g
  cases o with
  | none => unfold sameB; rw [h.2, g.2]; rfl
  | some v => rw [h.2, g.2]; unfold sameB; cases hn : nanB v <;> simp
theorem NR_some {r s : Nat} (h : r < 18446744073709551616) (e : s = r) : NR (some r) s := ⟨by omega, e⟩
end Go.Proofs.YtdjljbcigobdpaaDoor
