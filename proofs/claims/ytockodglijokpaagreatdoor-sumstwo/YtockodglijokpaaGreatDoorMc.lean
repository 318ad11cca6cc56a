/- What the reference's Right, Dyad answer. -/
import Derived.Test.YtockodglijokpaaGreatDoorNm
namespace Go.Proofs.YtockodglijokpaaGreatDoor
open Go.RowKit

end Go.Proofs.YtockodglijokpaaGreatDoor
