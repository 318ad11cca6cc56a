/- What the reference's Right, Dyad answer. -/
import Derived.Test.YthenmahafdncmaaGreatDoorNm
namespace Go.Proofs.YthenmahafdncmaaGreatDoor
open Go.RowKit

end Go.Proofs.YthenmahafdncmaaGreatDoor
