/- What the reference's Right, Dyad answer. -/
import Derived.Test.YtlmmjbllbjeoiaaGreatDoorNm
namespace Go.Proofs.YtlmmjbllbjeoiaaGreatDoor
open Go.RowKit

end Go.Proofs.YtlmmjbllbjeoiaaGreatDoor
