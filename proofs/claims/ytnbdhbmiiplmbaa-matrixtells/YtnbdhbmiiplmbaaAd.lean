/- Most, of the program and of the document. -/
import Derived.Test.YtnbdhbmiiplmbaaAc
import Derived.Deep.QuietTactic
import Derived.BigQuiet
namespace Go.Proofs.Ytnbdhbmiiplmbaa
open Go.RowKit

end Go.Proofs.Ytnbdhbmiiplmbaa
