/- For every input the call returns true and leaves its arguments as they were: LowerBack. No condition. -/
import Derived.Test.YtbnjjoaippoinaaLb2
import Derived.Test.YtbnjjoaippoinaaLw16
import Derived.Carry
namespace Go.Proofs.Ytbnjjoaippoinaa
open Go.ChangeShapes Go.WideShapes Go.ChangeAt Go.RowKit Go.Joins

theorem lowerBack_own : ownKnob Try.prog.godebug = none := by kernel_rfl
end Go.Proofs.Ytbnjjoaippoinaa
