/- What round's Int answers, and Add and the document's sum of finite floats. -/
import Derived.Test.YtclldmdhpojciaaSg
import Derived.Test.YtclldmdhpojciaaSx
import Derived.Test.YtclldmdhpojciaaZo
namespace Go.Proofs.Ytclldmdhpojciaa
open Go.RowKit

end Go.Proofs.Ytclldmdhpojciaa
