/- What the reference's Right, Dyad answer. -/
import Derived.Test.YtlnkjhplapnjnaaDoorNm
namespace Go.Proofs.YtlnkjhplapnjnaaDoor
open Go.RowKit

end Go.Proofs.YtlnkjhplapnjnaaDoor
