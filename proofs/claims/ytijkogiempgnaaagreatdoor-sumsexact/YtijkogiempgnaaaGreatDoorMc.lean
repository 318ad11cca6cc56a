/- What the reference's Right, Dyad answer. -/
import Derived.Test.YtijkogiempgnaaaGreatDoorNm
namespace Go.Proofs.YtijkogiempgnaaaGreatDoor
open Go.RowKit

end Go.Proofs.YtijkogiempgnaaaGreatDoor
