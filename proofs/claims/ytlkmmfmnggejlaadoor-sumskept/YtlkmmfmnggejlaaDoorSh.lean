/- What round's Int answers, and Add and the document's sum of finite floats. -/
import Derived.Test.YtlkmmfmnggejlaaDoorSg
import Derived.Test.YtlkmmfmnggejlaaDoorSx
import Derived.Test.YtlkmmfmnggejlaaDoorZo
namespace Go.Proofs.YtlkmmfmnggejlaaDoor
open Go.RowKit

end Go.Proofs.YtlkmmfmnggejlaaDoor
