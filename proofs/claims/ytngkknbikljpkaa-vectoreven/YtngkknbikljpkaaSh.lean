/- What round's Int answers, and Add and the document's sum of finite floats. -/
import Derived.Test.YtngkknbikljpkaaSg
import Derived.Test.YtngkknbikljpkaaSx
import Derived.Test.YtngkknbikljpkaaZo
namespace Go.Proofs.Ytngkknbikljpkaa
open Go.RowKit

end Go.Proofs.Ytngkknbikljpkaa
