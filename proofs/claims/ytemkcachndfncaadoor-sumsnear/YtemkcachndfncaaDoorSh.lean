/- What round's Int answers, and Add and the document's sum of finite floats. -/
import Derived.Test.YtemkcachndfncaaDoorSg
import Derived.Test.YtemkcachndfncaaDoorSx
import Derived.Test.YtemkcachndfncaaDoorZo
namespace Go.Proofs.YtemkcachndfncaaDoor
open Go.RowKit

end Go.Proofs.YtemkcachndfncaaDoor
