/- What the reference's Right, Dyad answer. -/
import Derived.Test.YtalkdjgmblabgaaGreatDoorNm
namespace Go.Proofs.YtalkdjgmblabgaaGreatDoor
open Go.RowKit

end Go.Proofs.YtalkdjgmblabgaaGreatDoor
