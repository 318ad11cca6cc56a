/- The closures of Add, Sub, Axpy and Scale; what filled and together make of them. -/
import Derived.Test.YtclldmdhpojciaaAe
namespace Go.Proofs.Ytclldmdhpojciaa
open Go.RowKit

/-- A float is stored. -/
theorem vstoref (P : Program) (a : Addr) (k : FloatKind) (b : Nat) (m : Mode) (w : World) : (store a (.float k b) m).run P w = stored P w a (.float k b) m := run_store P w a _ m rfl
theorem opS : FourOp .sub := Or.inr (Or.inl rfl)
theorem opMu : FourOp .mul := Or.inr (Or.inr (Or.inl rfl))
/-- At each place. -/
def adO (xs ys : List Nat) (k : Nat) : Option Nat := opO .add (toO (xs.getD k 0)) (toO (ys.getD k 0))
def sbO (xs ys : List Nat) (k : Nat) : Option Nat := opO .sub (toO (xs.getD k 0)) (toO (ys.getD k 0))
def scO (t : Nat) (xs : List Nat) (k : Nat) : Option Nat := opO .mul (toO t) (toO (xs.getD k 0))
def axO (t : Nat) (xs ys : List Nat) (k : Nat) : Option Nat := opO .add (opO .mul (toO t) (toO (xs.getD k 0))) (toO (ys.getD k 0))
end Go.Proofs.Ytclldmdhpojciaa
