/- api.Parts as an argument: opened into its three fields, and shut again. -/
import Derived.Test.YtnclddfljghebaaGreatDoorPl
import Derived.Lib.SmallJoins
namespace Go.Proofs.YtnclddfljghebaaGreatDoor
open Go.ChangeShapes Go.WideShapes Go.ChangeAt Go.RowKit Go.Joins

theorem i64_bd {n : Int} (h : (Lit.int .i64 n).wf = true) : -9223372036854775808 ≤ n ∧ n ≤ 9223372036854775807 := by
  simpa [Lit.wf, IntKind.min, IntKind.max, IntKind.signed, IntKind.bits] using h
theorem u64_bd {n : Int} (h : (Lit.int .u64 n).wf = true) : 0 ≤ n ∧ n ≤ 18446744073709551615 := by
  simpa [Lit.wf, IntKind.min, IntKind.max, IntKind.signed, IntKind.bits] using h
set_option maxRecDepth 100000 in
theorem cParts : Tryz.prog.cellsOf 89 = 3 := by kernel_rfl

set_option maxRecDepth 100000 in
theorem open_parts {H : Type} {enc : TypeId × Value → H} {w : World} {base : Nat} {spare : Nat → Bool} {held : Bool} {r : Reach} {b0 : Nat} {v : Value} {d : DataW H} {p : List MemPlace}
    (hv : Value.okWide Tryz.prog w r b0 89 v) (h : DataW.Trod enc Tryz.prog w base spare held 89 v d p) :
    ∃ (n : Bool) (f : Nat) (e : Int), (Lit.int .u64 (f : Int)).wf = true ∧ (Lit.int .i64 e).wf = true ∧ v = .agg #[.bool n, .int .u64 f, .int .i64 e] ∧ d = .agg [.lit (.bool n), .lit (.int .u64 f), .lit (.int .i64 e)] ∧ p = [] := by
  obtain ⟨v0, v1, v2, y0, y1, y2, k, rfl, rfl, rfl, h0, h1, h2⟩ := open_agg3 Tryz.underlying89 (by kernel_rfl) cParts hv h
  obtain ⟨n, e0, rfl⟩ := DataW.trod_bool Tryz.underlying4 h0
  obtain ⟨f, e1, rfl, wf⟩ := DataW.trod_int Tryz.underlying46 h1
  obtain ⟨e, e2, rfl, we⟩ := DataW.trod_int Tryz.underlying3 h2
  simp at e0 e1 e2
  subst e0 e1 e2
  obtain ⟨g, rfl⟩ := Int.eq_ofNat_of_zero_le (u64_bd wf).1
  exact ⟨n, g, e, wf, we, rfl, rfl, rfl⟩

set_option maxRecDepth 100000 in
theorem shut_parts {H : Type} {enc : TypeId × Value → H} {w : World} {base : Nat} {spare : Nat → Bool} {held : Bool} (n : Bool) {f e : Int} (wf : (Lit.int .u64 f).wf = true) (we : (Lit.int .i64 e).wf = true) :
    DataW.Trod enc Tryz.prog w base spare held 89 (.agg #[.bool n, .int .u64 f, .int .i64 e]) (.agg [.lit (.bool n), .lit (.int .u64 f), .lit (.int .i64 e)]) [] :=
  shut_agg3 (y0 := (.lit (.bool n), [])) (y1 := (.lit (.int .u64 f), [])) (y2 := (.lit (.int .i64 e), [])) Tryz.underlying89 (by kernel_rfl) cParts ⟨1, by simp [DataW.trod, Tryz.underlying4]⟩ ⟨1, by simp [DataW.trod, Tryz.underlying46, wf]⟩ ⟨1, by simp [DataW.trod, Tryz.underlying3, we]⟩
end Go.Proofs.YtnclddfljghebaaGreatDoor
