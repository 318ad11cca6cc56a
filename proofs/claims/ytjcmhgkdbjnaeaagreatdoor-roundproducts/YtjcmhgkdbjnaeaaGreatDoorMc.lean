/- What the reference's Right, Dyad answer. -/
import Derived.Test.YtjcmhgkdbjnaeaaGreatDoorNm
namespace Go.Proofs.YtjcmhgkdbjnaeaaGreatDoor
open Go.RowKit

end Go.Proofs.YtjcmhgkdbjnaeaaGreatDoor
