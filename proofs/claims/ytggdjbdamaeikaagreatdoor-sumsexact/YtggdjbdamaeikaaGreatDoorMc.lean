/- What the reference's Right, Dyad answer. -/
import Derived.Test.YtggdjbdamaeikaaGreatDoorNm
namespace Go.Proofs.YtggdjbdamaeikaaGreatDoor
open Go.RowKit

end Go.Proofs.YtggdjbdamaeikaaGreatDoor
