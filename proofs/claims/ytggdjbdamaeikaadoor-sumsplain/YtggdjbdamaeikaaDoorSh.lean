/- What round's Int answers, and Add and the document's sum of finite floats. -/
import Derived.Test.YtggdjbdamaeikaaDoorSg
import Derived.Test.YtggdjbdamaeikaaDoorSx
import Derived.Test.YtggdjbdamaeikaaDoorZo
namespace Go.Proofs.YtggdjbdamaeikaaDoor
open Go.RowKit

end Go.Proofs.YtggdjbdamaeikaaDoor
