/- What round's Int answers, and Add and the document's sum of finite floats. -/
import Derived.Test.YtlhoidkfphellaaDoorSg
import Derived.Test.YtlhoidkfphellaaDoorSx
import Derived.Test.YtlhoidkfphellaaDoorZo
namespace Go.Proofs.YtlhoidkfphellaaDoor
open Go.RowKit

end Go.Proofs.YtlhoidkfphellaaDoor
