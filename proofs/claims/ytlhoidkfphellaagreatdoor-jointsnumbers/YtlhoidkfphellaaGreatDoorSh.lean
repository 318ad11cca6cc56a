/- What round's Int answers, and Add and the document's sum of finite floats. -/
import Derived.Test.YtlhoidkfphellaaGreatDoorSg
import Derived.Test.YtlhoidkfphellaaGreatDoorSx
import Derived.Test.YtlhoidkfphellaaGreatDoorZo
namespace Go.Proofs.YtlhoidkfphellaaGreatDoor
open Go.RowKit

end Go.Proofs.YtlhoidkfphellaaGreatDoor
