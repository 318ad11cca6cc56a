/- What round's Int answers, and Add and the document's sum of finite floats. -/
import Derived.Test.YtpllknjomjbpnaaSg
import Derived.Test.YtpllknjomjbpnaaSx
import Derived.Test.YtpllknjomjbpnaaZo
namespace Go.Proofs.Ytpllknjomjbpnaa
open Go.RowKit

end Go.Proofs.Ytpllknjomjbpnaa
