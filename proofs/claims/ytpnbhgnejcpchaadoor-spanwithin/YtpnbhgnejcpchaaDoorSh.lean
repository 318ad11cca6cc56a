/- What round's Int answers, and Add and the document's sum of finite floats. -/
import Derived.Test.YtpnbhgnejcpchaaDoorSg
import Derived.Test.YtpnbhgnejcpchaaDoorSx
import Derived.Test.YtpnbhgnejcpchaaDoorZo
namespace Go.Proofs.YtpnbhgnejcpchaaDoor
open Go.RowKit

end Go.Proofs.YtpnbhgnejcpchaaDoor
