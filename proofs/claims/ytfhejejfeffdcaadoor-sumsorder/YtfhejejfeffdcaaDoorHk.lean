/- What Cmp answers for right dyads. -/
import Derived.Test.YtfhejejfeffdcaaDoorHj
import Derived.Test.YtfhejejfeffdcaaDoorU6
namespace Go.Proofs.YtfhejejfeffdcaaDoor
open Go.RowKit

end Go.Proofs.YtfhejejfeffdcaaDoor
