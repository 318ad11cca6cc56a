/- What round's Add answers. -/
import Derived.Test.YtkcomdglflnaeabDoorSd
namespace Go.Proofs.YtkcomdglflnaeabDoor
open Go.RowKit

theorem run_negf (b : Nat) : Op.unary .neg (.float .f64 b) = pure (.float .f64 (negW b)) := rfl
end Go.Proofs.YtkcomdglflnaeabDoor
