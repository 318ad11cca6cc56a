/- What the reference's Right, Dyad answer. -/
import Derived.Test.YtiaeannkkjhkaaaGreatDoorNm
namespace Go.Proofs.YtiaeannkkjhkaaaGreatDoor
open Go.RowKit

end Go.Proofs.YtiaeannkkjhkaaaGreatDoor
