/- What the reference's Right, Dyad answer. -/
import Derived.Test.YtdkjjhdiimpnpaaGreatDoorNm
namespace Go.Proofs.YtdkjjhdiimpnpaaGreatDoor
open Go.RowKit

end Go.Proofs.YtdkjjhdiimpnpaaGreatDoor
