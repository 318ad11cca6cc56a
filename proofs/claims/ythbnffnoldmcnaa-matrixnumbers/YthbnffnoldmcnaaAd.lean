/- Most, of the program and of the document. -/
import Derived.Test.YthbnffnoldmcnaaAc
import Derived.Deep.QuietTactic
import Derived.BigQuiet
namespace Go.Proofs.Ythbnffnoldmcnaa
open Go.RowKit

end Go.Proofs.Ythbnffnoldmcnaa
