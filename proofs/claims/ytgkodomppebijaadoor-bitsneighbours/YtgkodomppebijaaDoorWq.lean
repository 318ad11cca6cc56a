/- BitsNeighbours of any two floats, NaN among them. -/
import Derived.Test.YtgkodomppebijaaDoorWn
namespace Go.Proofs.YtgkodomppebijaaDoor
open Go.RowKit

theorem law_neighbours (a b : Nat) (ha : a < 18446744073709551616) (hb : b < 18446744073709551616) (w : World) (hT : TabW w) :
    Calls Tryd.prog 8 #[.float .f64 a, .float .f64 b] w fun r w' => r = .returned (.bool true) ∧ Below w.heap.size w w' := by
  cases na : nanB a
  · exact law_neigh a b ha hb na w hT
  · exact law_neigh_nan a b ha na w hT
end Go.Proofs.YtgkodomppebijaaDoor
