/- What the reference's Right, Dyad answer. -/
import Derived.Test.YtlnkjhplapnjnaaGreatDoorNm
namespace Go.Proofs.YtlnkjhplapnjnaaGreatDoor
open Go.RowKit

end Go.Proofs.YtlnkjhplapnjnaaGreatDoor
