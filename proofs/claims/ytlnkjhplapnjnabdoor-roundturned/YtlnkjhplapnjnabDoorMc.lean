/- What the reference's Right, Dyad answer. -/
import Derived.Test.YtlnkjhplapnjnabDoorNm
namespace Go.Proofs.YtlnkjhplapnjnabDoor
open Go.RowKit

end Go.Proofs.YtlnkjhplapnjnabDoor
