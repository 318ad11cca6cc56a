/- What round's Int answers, and Add and the document's sum of finite floats. -/
import Derived.Test.YtbhkgjjogepgnaaDoorSg
import Derived.Test.YtbhkgjjogepgnaaDoorSx
import Derived.Test.YtbhkgjjogepgnaaDoorZo
namespace Go.Proofs.YtbhkgjjogepgnaaDoor
open Go.RowKit

end Go.Proofs.YtbhkgjjogepgnaaDoor
