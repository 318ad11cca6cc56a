/- What round's Int answers, and Add and the document's sum of finite floats. -/
import Derived.Test.YtojdlheblnjoiaaDoorSg
import Derived.Test.YtojdlheblnjoiaaDoorSx
import Derived.Test.YtojdlheblnjoiaaDoorZo
namespace Go.Proofs.YtojdlheblnjoiaaDoor
open Go.RowKit

end Go.Proofs.YtojdlheblnjoiaaDoor
