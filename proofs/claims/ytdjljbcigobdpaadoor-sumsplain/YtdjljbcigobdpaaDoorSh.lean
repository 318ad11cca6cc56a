/- What round's Int answers, and Add and the document's sum of finite floats. -/
import Derived.Test.YtdjljbcigobdpaaDoorSg
import Derived.Test.YtdjljbcigobdpaaDoorSx
import Derived.Test.YtdjljbcigobdpaaDoorZo
namespace Go.Proofs.YtdjljbcigobdpaaDoor
open Go.RowKit

end Go.Proofs.YtdjljbcigobdpaaDoor
