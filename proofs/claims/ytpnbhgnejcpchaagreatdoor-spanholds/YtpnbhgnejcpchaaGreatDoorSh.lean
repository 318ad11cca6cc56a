/- What round's Int answers, and Add and the document's sum of finite floats. -/
import Derived.Test.YtpnbhgnejcpchaaGreatDoorSg
import Derived.Test.YtpnbhgnejcpchaaGreatDoorSx
import Derived.Test.YtpnbhgnejcpchaaGreatDoorZo
namespace Go.Proofs.YtpnbhgnejcpchaaGreatDoor
open Go.RowKit

end Go.Proofs.YtpnbhgnejcpchaaGreatDoor
