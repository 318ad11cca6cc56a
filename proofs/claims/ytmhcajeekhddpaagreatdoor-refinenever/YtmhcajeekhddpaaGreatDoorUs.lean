/- api.Span as an argument: opened into its two ends, and shut again. -/
import Derived.Test.YtmhcajeekhddpaaGreatDoorPq
namespace Go.Proofs.YtmhcajeekhddpaaGreatDoor
open Go.ChangeShapes Go.WideShapes Go.ChangeAt Go.RowKit Go.Joins

set_option maxRecDepth 100000 in
theorem end_cell {H : Type} {enc : TypeId × Value → H} {w : World} {base : Nat} {spare : Nat → Bool} {held : Bool} {fuel : Nat} {v : Value} {y : DataW H × List MemPlace} (h : DataW.trod enc Tryz.prog w base spare held fuel 37 [v] = some y) :
    ∃ n, v = .float .f64 n ∧ y = (.lit (.float .f64 n), []) ∧ (Lit.float .f64 n).wf = true := by
  have hu := Tryz.underlying37
  generalize Tryz.prog = P at h hu
  generalize 37 = t at h hu
  cases fuel with
  | zero => simp [DataW.trod] at h
  | succ m =>
    unfold DataW.trod at h
    rw [hu] at h
    split at h <;> simp_all
end Go.Proofs.YtmhcajeekhddpaaGreatDoor
