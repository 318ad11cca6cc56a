/- What Finite, Sign, Fits answer. -/
import Derived.Test.YtnclddfljghebaaDoorZo
import Derived.Test.YtnclddfljghebaaDoorFz
namespace Go.Proofs.YtnclddfljghebaaDoor
open Go.RowKit

/-- Is a right dyad a finite float? -/
def fitB (d : Dy) : Bool := rightB d && decide (d.mag.length ≤ 1) && okP (lmb d.mag 0) d.exp
end Go.Proofs.YtnclddfljghebaaDoor
