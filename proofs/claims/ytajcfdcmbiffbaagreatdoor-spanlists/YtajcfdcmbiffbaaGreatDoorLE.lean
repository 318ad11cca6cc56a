/- A list of spans as an argument: opened into a row of pairs of cells. -/
import Derived.Test.YtajcfdcmbiffbaaGreatDoorK1
import Derived.ProofKit
import Derived.LaidMore
import Derived.OpenShut
import Derived.Stop.Joined
import Derived.Lib.LaidTab
import Derived.Lib.SmallJoins
import Derived.Test.YtajcfdcmbiffbaaGreatDoorLA
import Derived.Deep.SlicePairs
namespace Go.Proofs.YtajcfdcmbiffbaaGreatDoor
open Go.ChangeShapes Go.WideShapes Go.ChangeAt Go.RowKit

theorem Tryz.own : ownKnob Tryz.prog.godebug = none := by kernel_rfl
theorem gTab : Tryz.prog.globalNamed "math/bits.deBruijn64tab" = some 1 := by kernel_rfl
theorem tTab : (Tryz.prog.globals[1]?).map (·.type) = some 115 := by kernel_rfl
theorem cU8 : Tryz.prog.cellsOf 5 = 1 := by kernel_rfl
theorem cTab : Tryz.prog.cellsOf 115 = 64 := by kernel_rfl
def laidTab : List (String × DataW Unit) := [("math/bits.deBruijn64tab", Rows.laid_math_bits_deBruijn64tab)]
def laidTab' : List (String × DataW Unit) := ("math/bits.deBruijn64tab", Lib.tabData .u8 (Lib.deBruijn64tab.map fun n : Nat => (n : Int))) :: []
theorem laidTab_eq : laidTab = laidTab' := by kernel_rfl

theorem tab_of_laid {W : World} (h : laidMetH Tryz.prog laidTab W) : TabW W := by
  rw [MakeChecks.laidMetH_plain _ _ _ (by kernel_rfl), laidTab_eq] at h
  have hT := Lib.tabIs_of_head gTab tTab Tryz.underlying115 Tryz.underlying5 cU8 cTab h
  intro j hj
  have hl : Lib.deBruijn64tab.length = 64 := rfl
  rw [hT.cell gTab j (by rw [List.length_map, hl]; exact hj)]
  have hg : (Lib.deBruijn64tab.map fun n : Nat => (n : Int)).getD j 0 = ((Lib.deBruijn64tab.getD j 0 : Nat) : Int) := by
    rw [List.getD_eq_getElem?_getD, List.getD_eq_getElem?_getD, List.getElem?_map]
    cases Lib.deBruijn64tab[j]? <;> rfl
  rw [hg]

theorem door_met (os : Os) (args : Array Value) : laidMetH Tryz.prog laidTab ((World.doorLaid Tryz.prog 400 os).forCall (fun _ _ => 0) ⟨#[], args, []⟩).memory :=
  laidMetH_of_parts3 (fuel := 8) (laidMet_of_run' 8 (by kernel_rfl) (by kernel_rfl)) (by kernel_rfl) (by kernel_rfl)

theorem word_lt {a : Nat} (h : (Lit.float .f64 a).wf = true) : a < 18446744073709551616 := by
  simpa [Lit.wf] using h
end Go.Proofs.YtajcfdcmbiffbaaGreatDoor

namespace Go.Proofs.YtajcfdcmbiffbaaGreatDoor
open Go.ChangeShapes Go.WideShapes Go.ChangeAt Go.RowKit Go.Joins

theorem i64_bd {n : Int} (h : (Lit.int .i64 n).wf = true) : -9223372036854775808 ≤ n ∧ n ≤ 9223372036854775807 := by
  simpa [Lit.wf, IntKind.min, IntKind.max, IntKind.signed, IntKind.bits] using h
theorem u64_bd {n : Int} (h : (Lit.int .u64 n).wf = true) : 0 ≤ n ∧ n ≤ 18446744073709551615 := by
  simpa [Lit.wf, IntKind.min, IntKind.max, IntKind.signed, IntKind.bits] using h
set_option maxRecDepth 100000 in
theorem cParts : Tryz.prog.cellsOf 98 = 3 := by kernel_rfl

set_option maxRecDepth 100000 in
theorem open_parts {H : Type} {enc : TypeId × Value → H} {w : World} {base : Nat} {spare : Nat → Bool} {held : Bool} {r : Reach} {b0 : Nat} {v : Value} {d : DataW H} {p : List MemPlace}
    (hv : Value.okWide Tryz.prog w r b0 98 v) (h : DataW.Trod enc Tryz.prog w base spare held 98 v d p) :
    ∃ (n : Bool) (f : Nat) (e : Int), (Lit.int .u64 (f : Int)).wf = true ∧ (Lit.int .i64 e).wf = true ∧ v = .agg #[.bool n, .int .u64 f, .int .i64 e] ∧ d = .agg [.lit (.bool n), .lit (.int .u64 f), .lit (.int .i64 e)] ∧ p = [] := by
  obtain ⟨v0, v1, v2, y0, y1, y2, k, rfl, rfl, rfl, h0, h1, h2⟩ := open_agg3 Tryz.underlying98 (by kernel_rfl) cParts hv h
  obtain ⟨n, e0, rfl⟩ := DataW.trod_bool Tryz.underlying4 h0
  obtain ⟨f, e1, rfl, wf⟩ := DataW.trod_int Tryz.underlying59 h1
  obtain ⟨e, e2, rfl, we⟩ := DataW.trod_int Tryz.underlying3 h2
  simp at e0 e1 e2
  subst e0 e1 e2
  obtain ⟨g, rfl⟩ := Int.eq_ofNat_of_zero_le (u64_bd wf).1
  exact ⟨n, g, e, wf, we, rfl, rfl, rfl⟩

set_option maxRecDepth 100000 in
theorem shut_parts {H : Type} {enc : TypeId × Value → H} {w : World} {base : Nat} {spare : Nat → Bool} {held : Bool} (n : Bool) {f e : Int} (wf : (Lit.int .u64 f).wf = true) (we : (Lit.int .i64 e).wf = true) :
    DataW.Trod enc Tryz.prog w base spare held 98 (.agg #[.bool n, .int .u64 f, .int .i64 e]) (.agg [.lit (.bool n), .lit (.int .u64 f), .lit (.int .i64 e)]) [] :=
  shut_agg3 (y0 := (.lit (.bool n), [])) (y1 := (.lit (.int .u64 f), [])) (y2 := (.lit (.int .i64 e), [])) Tryz.underlying98 (by kernel_rfl) cParts ⟨1, by simp [DataW.trod, Tryz.underlying4]⟩ ⟨1, by simp [DataW.trod, Tryz.underlying59, wf]⟩ ⟨1, by simp [DataW.trod, Tryz.underlying3, we]⟩
end Go.Proofs.YtajcfdcmbiffbaaGreatDoor

namespace Go.Proofs.YtajcfdcmbiffbaaGreatDoor
open Go.ChangeShapes Go.WideShapes Go.ChangeAt Go.RowKit Go.Joins

set_option maxRecDepth 100000 in
theorem cSpan : Tryz.prog.cellsOf 27 = 2 := by kernel_rfl
set_option maxRecDepth 100000 in
theorem end_cell {H : Type} {enc : TypeId × Value → H} {w : World} {base : Nat} {spare : Nat → Bool} {held : Bool} {fuel : Nat} {v : Value} {y : DataW H × List MemPlace} (h : DataW.trod enc Tryz.prog w base spare held fuel 25 [v] = some y) :
    ∃ n, v = .float .f64 n ∧ y = (.lit (.float .f64 n), []) ∧ (Lit.float .f64 n).wf = true := by
  have hu := Tryz.underlying25
  generalize Tryz.prog = P at h hu
  generalize 25 = t at h hu
  cases fuel with
  | zero => simp [DataW.trod] at h
  | succ m =>
    unfold DataW.trod at h
    rw [hu] at h
    split at h <;> simp_all
set_option maxRecDepth 100000 in
theorem open_span {H : Type} {enc : TypeId × Value → H} {w : World} {base : Nat} {spare : Nat → Bool} {held : Bool} {r : Reach} {b0 : Nat} {v : Value} {d : DataW H} {p : List MemPlace}
    (hv : Value.okWide Tryz.prog w r b0 27 v) (h : DataW.Trod enc Tryz.prog w base spare held 27 v d p) :
    ∃ (l u : Nat), (Lit.float .f64 l).wf = true ∧ (Lit.float .f64 u).wf = true ∧ v = .agg #[.float .f64 l, .float .f64 u] ∧ d = .agg [.lit (.float .f64 l), .lit (.float .f64 u)] ∧ p = [] := by
  obtain ⟨v0, v1, y0, y1, k, rfl, rfl, rfl, h0, h1⟩ := open_agg2 Tryz.underlying27 (by kernel_rfl) cSpan hv h
  obtain ⟨l, rfl, rfl, wl⟩ := end_cell h0
  obtain ⟨u, rfl, rfl, wu⟩ := end_cell h1
  exact ⟨l, u, wl, wu, rfl, rfl, rfl⟩
set_option maxRecDepth 100000 in
theorem shut_span {H : Type} {enc : TypeId × Value → H} {w : World} {base : Nat} {spare : Nat → Bool} {held : Bool} {l u : Nat} (wl : (Lit.float .f64 l).wf = true) (wu : (Lit.float .f64 u).wf = true) :
    DataW.Trod enc Tryz.prog w base spare held 27 (.agg #[.float .f64 l, .float .f64 u]) (.agg [.lit (.float .f64 l), .lit (.float .f64 u)]) [] :=
  shut_agg2 (y0 := (.lit (.float .f64 l), [])) (y1 := (.lit (.float .f64 u), [])) Tryz.underlying27 (by kernel_rfl) cSpan ⟨1, by simp [DataW.trod, Tryz.underlying25, wl]⟩ ⟨1, by simp [DataW.trod, Tryz.underlying25, wu]⟩
end Go.Proofs.YtajcfdcmbiffbaaGreatDoor

namespace Go.Proofs.YtajcfdcmbiffbaaGreatDoor
open Go.ChangeShapes Go.WideShapes Go.ChangeAt Go.RowKit Go.Joins

theorem w64S_of {n : Nat} (h : (Lit.float .f64 n).wf = true) : n < 18446744073709551616 := by
  simpa [Lit.wf] using h
theorem spotS_of {w : World} {a : Addr} {v : Value} (h : w.cell? a = some v) : a = ⟨a.block, a.off, none⟩ := by
  obtain ⟨b, o, s⟩ := a
  cases s with
  | none => rfl
  | some k =>
    unfold World.cell? at h
    split at h
    · simp at h
    · cases h
/-- The float that a cell holds. -/
def fcellS : Value → Nat
  | .float .f64 n => n
  | _ => 0
set_option maxRecDepth 100000 in
theorem open_spans {H : Type} {enc : TypeId × Value → H} {w : World} {base : Nat} {held : Bool} {r : Reach} {b0 : Nat} {v : Value} {d : DataW H} {p : List MemPlace}
    (hv : Value.okWide Tryz.prog w r b0 22 v) (h : DataW.Trod enc Tryz.prog w base (fun _ => true) held 22 v d p) :
    ∃ (l : List (Nat × Nat)) (ao : Option Addr) (cap : Nat), v = .slice ao l.length cap ∧ SRow w ao l ∧ FS l ∧ l.length ≤ cap ∧ (ao = none → cap = 0 ∧ l.length = 0) ∧ ((d.weights Tryz.prog 22).all (· ≤ reachBytes) = true → cap ≤ 17592186044416) := by
  obtain ⟨a0, len0, cap0, rfl⟩ := okWide_slice Tryz.underlying22 hv
  obtain ⟨fuel, hf⟩ := h
  have hcs : (Value.slice a0 len0 cap0).cells.toList = [.slice a0 len0 cap0] := rfl
  rw [hcs] at hf
  rcases Go.Deep.open_slice_pairs Tryz.underlying22 Tryz.underlying27 cSpan rfl rfl (by kernel_rfl) (by kernel_rfl) hf with ⟨e1, e2⟩ | ⟨a, len, cap, m, n, V0, V1, D0, D1, P0, P1, e1, _, hl, _, hm, e2, hx⟩
  · simp at e1
    obtain ⟨rfl, rfl, rfl⟩ := e1
    exact ⟨[], none, 0, rfl, Or.inl rfl, fun x hx => by simp at hx, Nat.le_refl _, fun _ => ⟨rfl, rfl⟩, fun _ => by omega⟩
  · simp only [List.cons.injEq, Value.slice.injEq, and_true] at e1
    obtain ⟨rfl, rfl, rfl⟩ := e1
    simp only [if_true] at hm
    subst hm
    obtain ⟨f, hfV⟩ : ∃ f : Nat → Nat × Nat, ∀ i, i < m → V0 i = .float .f64 (f i).1 ∧ (f i).1 < 18446744073709551616 ∧ V1 i = .float .f64 (f i).2 ∧ (f i).2 < 18446744073709551616 := by
      refine ⟨fun i => (fcellS (V0 i), fcellS (V1 i)), fun i hi => ?_⟩
      obtain ⟨x, hx1, _, hx3⟩ := end_cell (hx i hi).2.2.1
      obtain ⟨y, hy1, _, hy3⟩ := end_cell (hx i hi).2.2.2
      show V0 i = .float .f64 (fcellS (V0 i)) ∧ fcellS (V0 i) < 18446744073709551616 ∧ V1 i = .float .f64 (fcellS (V1 i)) ∧ fcellS (V1 i) < 18446744073709551616
      rw [hx1, hy1]
      exact ⟨rfl, w64S_of hx3, rfl, w64S_of hy3⟩
    have hlen : ((List.range len0).map f).length = len0 := by simp
    have hget : ∀ j, j < len0 → ((List.range len0).map f).getD j (0, 0) = f j := fun j hj => by simp [List.getD_eq_getElem?_getD, hj]
    refine ⟨(List.range len0).map f, some a, m, by rw [hlen], ?_, ?_, by rw [hlen]; exact hl, (fun h => by cases h), ?_⟩
    · rcases Nat.eq_zero_or_pos len0 with h0 | h0
      · exact Or.inl (hlen.trans h0)
      · have ha : a = ⟨a.block, a.off, none⟩ := by
          have h := spotS_of (hx 0 (by omega)).1
          simpa [Addr.add] using h
        refine Or.inr ⟨a.block, a.off, congrArg some ha, fun j hj => ?_⟩
        rw [hlen] at hj
        have hadd : ∀ j, a.add j = ⟨a.block, a.off + j, none⟩ := by
          intro j
          unfold Addr.add
          split
          · subst j; exact ha
          · rfl
        obtain ⟨hc0, hc1, _, _⟩ := hx j (by omega)
        rw [hadd] at hc0 hc1
        obtain ⟨v0, _, v1, _⟩ := hfV j (by omega)
        rw [hget j hj]
        exact ⟨by rw [hc0, v0], by rw [Nat.add_assoc, hc1, v1]⟩
    · intro x hx
      obtain ⟨y, hy, rfl⟩ := List.mem_map.1 hx
      have := hfV y (by have := List.mem_range.1 hy; omega)
      exact ⟨this.2.1, this.2.2.2⟩
    · intro hh
      have hb : Tryz.prog.bytesOf 27 = 16 := by kernel_rfl
      simp only [Prod.mk.injEq] at e2
      obtain ⟨rfl, _⟩ := e2
      simp only [DataW.weights, Tryz.underlying22, hb, List.all_cons, Bool.and_eq_true, List.length_map, List.length_range, reachBytes] at hh
      have h8 := of_decide_eq_true hh.1
      omega
end Go.Proofs.YtajcfdcmbiffbaaGreatDoor
