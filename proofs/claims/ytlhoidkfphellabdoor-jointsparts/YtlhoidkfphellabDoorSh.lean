/- What round's Int answers, and Add and the document's sum of finite floats. -/
import Derived.Test.YtlhoidkfphellabDoorSg
import Derived.Test.YtlhoidkfphellabDoorSx
import Derived.Test.YtlhoidkfphellabDoorZo
namespace Go.Proofs.YtlhoidkfphellabDoor
open Go.RowKit

end Go.Proofs.YtlhoidkfphellabDoor
