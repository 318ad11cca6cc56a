/- For every input the call returns true and leaves its arguments as they were: RoundBetween; the row's one condition: the library's table math/bits.deBruijn64tab lies as its own initialiser lays it, which the card ties to the program's text. -/
import Derived.Test.YtalkdjgmblabgabDoorPl
import Derived.Test.YtalkdjgmblabgabDoorWu
import Derived.Test.YtalkdjgmblabgabDoorTie
import Derived.Test.YtalkdjgmblabgabDoorCards
import Derived.SevenTiedAt
import Derived.Carry
import Derived.Test.YtalkdjgmblabgabDoorPq
namespace Go.Proofs.YtalkdjgmblabgabDoor
open Go.ChangeShapes Go.WideShapes Go.ChangeAt Go.RowKit

end Go.Proofs.YtalkdjgmblabgabDoor
