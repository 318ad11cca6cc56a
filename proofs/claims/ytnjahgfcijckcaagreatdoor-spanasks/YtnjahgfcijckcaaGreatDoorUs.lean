/- api.Span as an argument: opened into its two ends, and shut again. -/
import Derived.Test.YtnjahgfcijckcaaGreatDoorPq
namespace Go.Proofs.YtnjahgfcijckcaaGreatDoor
open Go.ChangeShapes Go.WideShapes Go.ChangeAt Go.RowKit Go.Joins

set_option maxRecDepth 100000 in
theorem cSpan : Tryz.prog.cellsOf 24 = 2 := by kernel_rfl
set_option maxRecDepth 100000 in
theorem end_cell {H : Type} {enc : TypeId × Value → H} {w : World} {base : Nat} {spare : Nat → Bool} {held : Bool} {fuel : Nat} {v : Value} {y : DataW H × List MemPlace} (h : DataW.trod enc Tryz.prog w base spare held fuel 22 [v] = some y) :
    ∃ n, v = .float .f64 n ∧ y = (.lit (.float .f64 n), []) ∧ (Lit.float .f64 n).wf = true := by
  have hu := Tryz.underlying22
  generalize Tryz.prog = P at h hu
  generalize 22 = t at h hu
  cases fuel with
  | zero => simp [DataW.trod] at h
  | succ m =>
    unfold DataW.trod at h
    rw [hu] at h
    split at h <;> simp_all
set_option maxRecDepth 100000 in
theorem open_span {H : Type} {enc : TypeId × Value → H} {w : World} {base : Nat} {spare : Nat → Bool} {held : Bool} {r : Reach} {b0 : Nat} {v : Value} {d : DataW H} {p : List MemPlace}
    (hv : Value.okWide Tryz.prog w r b0 24 v) (h : DataW.Trod enc Tryz.prog w base spare held 24 v d p) :
    ∃ (l u : Nat), (Lit.float .f64 l).wf = true ∧ (Lit.float .f64 u).wf = true ∧ v = .agg #[.float .f64 l, .float .f64 u] ∧ d = .agg [.lit (.float .f64 l), .lit (.float .f64 u)] ∧ p = [] := by
  obtain ⟨v0, v1, y0, y1, k, rfl, rfl, rfl, h0, h1⟩ := open_agg2 Tryz.underlying24 (by kernel_rfl) cSpan hv h
  obtain ⟨l, rfl, rfl, wl⟩ := end_cell h0
  obtain ⟨u, rfl, rfl, wu⟩ := end_cell h1
  exact ⟨l, u, wl, wu, rfl, rfl, rfl⟩
set_option maxRecDepth 100000 in
theorem shut_span {H : Type} {enc : TypeId × Value → H} {w : World} {base : Nat} {spare : Nat → Bool} {held : Bool} {l u : Nat} (wl : (Lit.float .f64 l).wf = true) (wu : (Lit.float .f64 u).wf = true) :
    DataW.Trod enc Tryz.prog w base spare held 24 (.agg #[.float .f64 l, .float .f64 u]) (.agg [.lit (.float .f64 l), .lit (.float .f64 u)]) [] :=
  shut_agg2 (y0 := (.lit (.float .f64 l), [])) (y1 := (.lit (.float .f64 u), [])) Tryz.underlying24 (by kernel_rfl) cSpan ⟨1, by simp [DataW.trod, Tryz.underlying22, wl]⟩ ⟨1, by simp [DataW.trod, Tryz.underlying22, wu]⟩
end Go.Proofs.YtnjahgfcijckcaaGreatDoor
