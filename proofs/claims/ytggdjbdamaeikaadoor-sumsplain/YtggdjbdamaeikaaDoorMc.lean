/- What the reference's Right, Dyad answer. -/
import Derived.Test.YtggdjbdamaeikaaDoorNm
namespace Go.Proofs.YtggdjbdamaeikaaDoor
open Go.RowKit

end Go.Proofs.YtggdjbdamaeikaaDoor
