/- How long a result is; DyadRing where one of its dyads is not made: true at once. -/
import Derived.Test.YtokfkooffbihcaaDoorHb
import Derived.Test.YtokfkooffbihcaaDoorHc
import Derived.Test.YtokfkooffbihcaaDoorEm
namespace Go.Proofs.YtokfkooffbihcaaDoor
open Go.RowKit

theorem nrm_len (m e : Int) : (nrm m e).1.mag.length ≤ 256 := by
  by_cases h : (nrm m e).2 = 0
  · exact (right_exp (nrm_ok h).1).2.2
  · rw [nrm_exp h]; simp [dy0]
theorem addD_len (d e : Dy) : (addD d e).1.mag.length ≤ 256 := by
  unfold addD
  split
  · exact nrm_len _ _
  · simp [dy0]
theorem mulD_len (d e : Dy) : (mulD d e).1.mag.length ≤ 256 := by
  unfold mulD
  split
  · exact nrm_len _ _
  · simp [dy0]
theorem addD_comm (x y : Dy) : addD x y = addD y x := by unfold addD; rw [Bool.and_comm, Int.add_comm]

end Go.Proofs.YtokfkooffbihcaaDoor
