/- api.Factor as an argument: opened into its fields, its numbers rows of cells. -/
import Derived.Test.YtclldmdhpojciaaMx11
namespace Go.Proofs.Ytclldmdhpojciaa
open Go.ChangeShapes Go.WideShapes Go.ChangeAt Go.RowKit Go.Joins

set_option maxRecDepth 100000 in
theorem cFactor : Try.prog.cellsOf 27 = 3 := by kernel_rfl
set_option maxRecDepth 100000 in
theorem open_factor {H : Type} {enc : TypeId × Value → H} {w : World} {base : Nat} {held : Bool} {r : Reach} {b0 : Nat} {v : Value} {d : DataW H} {p : List MemPlace}
    (hv : Value.okWide Try.prog w r b0 27 v) (h : DataW.Trod enc Try.prog w base (fun _ => true) held 27 v d p) :
    ∃ (m : Int) (l : List Nat) (ao : Option Addr) (cap : Nat) (l2 : List Nat) (bo : Option Addr) (cap2 : Nat), v = .agg #[.int .i64 m, .slice ao l.length cap, .slice bo l2.length cap2] ∧ GRow w ao l ∧ FW l ∧ (ao = none → cap = 0 ∧ l.length = 0) ∧ l.length ≤ cap ∧ GRow w bo l2 ∧ FW l2 ∧ (bo = none → cap2 = 0 ∧ l2.length = 0) ∧ l2.length ≤ cap2 ∧ ((d.weights Try.prog 27).all (· ≤ reachBytes) = true → cap ≤ 17592186044416 ∧ cap2 ≤ 17592186044416) := by
  obtain ⟨v0, v1, v2, y0, y1, y2, k, rfl, rfl, rfl, h0, h1, h2⟩ := open_agg3 Try.underlying27 (by kernel_rfl) cFactor hv h
  obtain ⟨m, e0, rfl, _⟩ := DataW.trod_int Try.underlying3 h0
  simp at e0
  subst e0
  obtain ⟨l, ao, cap, rfl, g1, g2, g3, g4, g5⟩ := mopen_floats h1
  obtain ⟨l2, bo, cap2, rfl, k1, k2, k3, k4, k5⟩ := mopen_floats h2
  refine ⟨m, l, ao, cap, l2, bo, cap2, rfl, g1, g2, g4, g3, k1, k2, k4, k3, fun hh => ?_⟩
  simp [DataW.weights, DataW.weightsEach, Try.underlying27] at hh
  exact ⟨g5 (by simpa using hh.1), k5 (by simpa using hh.2)⟩
end Go.Proofs.Ytclldmdhpojciaa
