/- What round's Int answers, and Add and the document's sum of finite floats. -/
import Derived.Test.YtmffalpckdkabaaDoorSg
import Derived.Test.YtmffalpckdkabaaDoorSx
import Derived.Test.YtmffalpckdkabaaDoorZo
namespace Go.Proofs.YtmffalpckdkabaaDoor
open Go.RowKit

end Go.Proofs.YtmffalpckdkabaaDoor
