/- A list of floats as an argument: opened into a row of cells. -/
import Derived.Test.YtmbcmhncicbbjaaGreatDoorU1
import Derived.ProofKit
import Derived.LaidMore
import Derived.OpenShut
import Derived.Stop.Joined
import Derived.Lib.LaidTab
import Derived.Lib.SmallJoins
import Derived.Test.YtmbcmhncicbbjaaGreatDoorZa
import Derived.Test.YtmbcmhncicbbjaaGreatDoorZb
import Derived.SizedLaws
import Derived.ChangeSlices
import Derived.Test.YtmbcmhncicbbjaaGreatDoorU2
import Derived.Deep.Slices
namespace Go.Proofs.YtmbcmhncicbbjaaGreatDoor
open Go.ChangeShapes Go.WideShapes Go.ChangeAt Go.RowKit

theorem Tryz.own : ownKnob Tryz.prog.godebug = none := by kernel_rfl
theorem gTab : Tryz.prog.globalNamed "math/bits.deBruijn64tab" = some 1 := by kernel_rfl
theorem tTab : (Tryz.prog.globals[1]?).map (·.type) = some 152 := by kernel_rfl
theorem cU8 : Tryz.prog.cellsOf 5 = 1 := by kernel_rfl
theorem cTab : Tryz.prog.cellsOf 152 = 64 := by kernel_rfl
def laidTab : List (String × DataW Unit) := [("math/bits.deBruijn64tab", Rows.laid_math_bits_deBruijn64tab)]
def laidTab' : List (String × DataW Unit) := ("math/bits.deBruijn64tab", Lib.tabData .u8 (Lib.deBruijn64tab.map fun n : Nat => (n : Int))) :: []
theorem laidTab_eq : laidTab = laidTab' := by kernel_rfl

theorem tab_of_laid {W : World} (h : laidMetH Tryz.prog laidTab W) : TabW W := by
  rw [MakeChecks.laidMetH_plain _ _ _ (by kernel_rfl), laidTab_eq] at h
  have hT := Lib.tabIs_of_head gTab tTab Tryz.underlying152 Tryz.underlying5 cU8 cTab h
  intro j hj
  have hl : Lib.deBruijn64tab.length = 64 := rfl
  rw [hT.cell gTab j (by rw [List.length_map, hl]; exact hj)]
  have hg : (Lib.deBruijn64tab.map fun n : Nat => (n : Int)).getD j 0 = ((Lib.deBruijn64tab.getD j 0 : Nat) : Int) := by
    rw [List.getD_eq_getElem?_getD, List.getD_eq_getElem?_getD, List.getElem?_map]
    cases Lib.deBruijn64tab[j]? <;> rfl
  rw [hg]

theorem door_met (os : Os) (args : Array Value) : laidMetH Tryz.prog laidTab ((World.doorLaid Tryz.prog 400 os).forCall (fun _ _ => 0) ⟨#[], args, []⟩).memory :=
  laidMetH_of_parts3 (fuel := 8) (laidMet_of_run' 8 (by kernel_rfl) (by kernel_rfl)) (by kernel_rfl) (by kernel_rfl)

theorem word_lt {a : Nat} (h : (Lit.float .f64 a).wf = true) : a < 18446744073709551616 := by
  simpa [Lit.wf] using h
end Go.Proofs.YtmbcmhncicbbjaaGreatDoor

namespace Go.Proofs.YtmbcmhncicbbjaaGreatDoor
open Go.ChangeShapes Go.WideShapes Go.ChangeAt Go.RowKit Go.Joins

theorem i64_bd {n : Int} (h : (Lit.int .i64 n).wf = true) : -9223372036854775808 ≤ n ∧ n ≤ 9223372036854775807 := by
  simpa [Lit.wf, IntKind.min, IntKind.max, IntKind.signed, IntKind.bits] using h
theorem u64_bd {n : Int} (h : (Lit.int .u64 n).wf = true) : 0 ≤ n ∧ n ≤ 18446744073709551615 := by
  simpa [Lit.wf, IntKind.min, IntKind.max, IntKind.signed, IntKind.bits] using h
set_option maxRecDepth 100000 in
theorem cParts : Tryz.prog.cellsOf 77 = 3 := by kernel_rfl

set_option maxRecDepth 100000 in
theorem open_parts {H : Type} {enc : TypeId × Value → H} {w : World} {base : Nat} {spare : Nat → Bool} {held : Bool} {r : Reach} {b0 : Nat} {v : Value} {d : DataW H} {p : List MemPlace}
    (hv : Value.okWide Tryz.prog w r b0 77 v) (h : DataW.Trod enc Tryz.prog w base spare held 77 v d p) :
    ∃ (n : Bool) (f : Nat) (e : Int), (Lit.int .u64 (f : Int)).wf = true ∧ (Lit.int .i64 e).wf = true ∧ v = .agg #[.bool n, .int .u64 f, .int .i64 e] ∧ d = .agg [.lit (.bool n), .lit (.int .u64 f), .lit (.int .i64 e)] ∧ p = [] := by
  obtain ⟨v0, v1, v2, y0, y1, y2, k, rfl, rfl, rfl, h0, h1, h2⟩ := open_agg3 Tryz.underlying77 (by kernel_rfl) cParts hv h
  obtain ⟨n, e0, rfl⟩ := DataW.trod_bool Tryz.underlying4 h0
  obtain ⟨f, e1, rfl, wf⟩ := DataW.trod_int Tryz.underlying75 h1
  obtain ⟨e, e2, rfl, we⟩ := DataW.trod_int Tryz.underlying3 h2
  simp at e0 e1 e2
  subst e0 e1 e2
  obtain ⟨g, rfl⟩ := Int.eq_ofNat_of_zero_le (u64_bd wf).1
  exact ⟨n, g, e, wf, we, rfl, rfl, rfl⟩

set_option maxRecDepth 100000 in
theorem shut_parts {H : Type} {enc : TypeId × Value → H} {w : World} {base : Nat} {spare : Nat → Bool} {held : Bool} (n : Bool) {f e : Int} (wf : (Lit.int .u64 f).wf = true) (we : (Lit.int .i64 e).wf = true) :
    DataW.Trod enc Tryz.prog w base spare held 77 (.agg #[.bool n, .int .u64 f, .int .i64 e]) (.agg [.lit (.bool n), .lit (.int .u64 f), .lit (.int .i64 e)]) [] :=
  shut_agg3 (y0 := (.lit (.bool n), [])) (y1 := (.lit (.int .u64 f), [])) (y2 := (.lit (.int .i64 e), [])) Tryz.underlying77 (by kernel_rfl) cParts ⟨1, by simp [DataW.trod, Tryz.underlying4]⟩ ⟨1, by simp [DataW.trod, Tryz.underlying75, wf]⟩ ⟨1, by simp [DataW.trod, Tryz.underlying3, we]⟩
end Go.Proofs.YtmbcmhncicbbjaaGreatDoor

namespace Go.Proofs.YtmbcmhncicbbjaaGreatDoor
open Go.ChangeShapes Go.WideShapes Go.ChangeAt Go.RowKit Go.Joins

set_option maxRecDepth 100000 in
theorem end_cell {H : Type} {enc : TypeId × Value → H} {w : World} {base : Nat} {spare : Nat → Bool} {held : Bool} {fuel : Nat} {v : Value} {y : DataW H × List MemPlace} (h : DataW.trod enc Tryz.prog w base spare held fuel 48 [v] = some y) :
    ∃ n, v = .float .f64 n ∧ y = (.lit (.float .f64 n), []) ∧ (Lit.float .f64 n).wf = true := by
  have hu := Tryz.underlying48
  generalize Tryz.prog = P at h hu
  generalize 48 = t at h hu
  cases fuel with
  | zero => simp [DataW.trod] at h
  | succ m =>
    unfold DataW.trod at h
    rw [hu] at h
    split at h <;> simp_all
end Go.Proofs.YtmbcmhncicbbjaaGreatDoor

namespace Go.Proofs.YtmbcmhncicbbjaaGreatDoor
open Go.ChangeShapes Go.WideShapes Go.ChangeAt Go.RowKit Go.Joins

set_option maxRecDepth 100000 in
theorem cDyad : Tryz.prog.cellsOf 99 = 3 := by kernel_rfl
theorem cell_spot {w : World} {a : Addr} {v : Value} (h : w.cell? a = some v) : a = ⟨a.block, a.off, none⟩ := by
  obtain ⟨b, o, s⟩ := a
  cases s with
  | none => rfl
  | some k =>
    unfold World.cell? at h
    split at h
    · simp at h
    · cases h

set_option maxRecDepth 100000 in
theorem open_dyad {H : Type} {enc : TypeId × Value → H} {w : World} {base : Nat} {spare : Nat → Bool} {held : Bool} {r : Reach} {b0 : Nat} {v : Value} {d : DataW H} {p : List MemPlace}
    (hv : Value.okWide Tryz.prog w r b0 99 v) (h : DataW.Trod enc Tryz.prog w base spare held 99 v d p) :
    ∃ (D : Dy) (ao : Option Addr) (cap : Nat), v = .agg #[.bool D.neg, .slice ao D.mag.length cap, .int .i64 D.exp] ∧ LRow w ao D.mag ∧ Lm D.mag ∧ (ao = none → cap = 0 ∧ D.mag.length = 0) ∧
      ((d.weights Tryz.prog 99).all (· ≤ reachBytes) = true → D.mag.length ≤ 17592186044416) := by
  obtain ⟨v0, v1, v2, y0, y1, y2, k, rfl, rfl, rfl, h0, h1, h2⟩ := open_agg3 Tryz.underlying99 (by kernel_rfl) cDyad hv h
  obtain ⟨n, e0, rfl⟩ := DataW.trod_bool Tryz.underlying4 h0
  obtain ⟨e, e2, rfl, we⟩ := DataW.trod_int Tryz.underlying3 h2
  simp at e0 e2
  subst e0 e2
  rcases open_ints Tryz.underlying54 Tryz.underlying75 (by kernel_rfl) h1 with ⟨e1, rfl⟩ | ⟨a, len, cap, zs, e1, _, hl, _, hz, rfl, hc, hw⟩
  · simp at e1
    subst e1
    exact ⟨⟨n, [], e⟩, none, 0, rfl, Or.inl rfl, fun x hx => by simp at hx, fun _ => ⟨rfl, rfl⟩, fun _ => by simp⟩
  · simp at e1
    subst e1
    have hzl : len ≤ zs.length := by rw [hz]; split <;> omega
    have hlen : ((zs.take len).map Int.toNat).length = len := by simp; omega
    refine ⟨⟨n, (zs.take len).map Int.toNat, e⟩, some a, cap, by rw [hlen], ?_, ?_, fun h => (by cases h), ?_⟩
    · rcases Nat.eq_zero_or_pos len with h0 | h0
      · exact Or.inl (hlen.trans h0)
      · have ha : a = ⟨a.block, a.off, none⟩ := by
          have h := cell_spot (hc 0 (by omega))
          simpa [Addr.add] using h
        refine Or.inr ⟨a.block, a.off, congrArg some ha, fun j hj => ?_⟩
        have hj' : j < len := by rw [← hlen]; exact hj
        have hadd : a.add j = ⟨a.block, a.off + j, none⟩ := by
          unfold Addr.add
          split
          · subst j; exact ha
          · rfl
        have hcj := hc j (by omega)
        rw [hadd] at hcj
        rw [hcj]
        have hzj : zs.getD j 0 ∈ zs := by rw [List.getD_eq_getElem?_getD, List.getElem?_eq_getElem (show j < zs.length by omega)]; exact List.getElem_mem _
        have hpos := (u64_bd (hw _ hzj)).1
        have hget : ((zs.take len).map Int.toNat).getD j 0 = (zs.getD j 0).toNat := by
          rw [List.getD_eq_getElem?_getD, List.getD_eq_getElem?_getD, List.getElem?_map, List.getElem?_take_of_lt hj', List.getElem?_eq_getElem (show j < zs.length by omega)]; rfl
        show some (Value.int .u64 (zs.getD j 0)) = some (Value.int .u64 ((((zs.take len).map Int.toNat).getD j 0 : Nat) : Int))
        rw [hget, Int.toNat_of_nonneg hpos]
    · intro x hx
      obtain ⟨y, hy, rfl⟩ := List.mem_map.1 hx
      have := u64_bd (hw y (List.mem_of_mem_take hy))
      omega
    · intro hh
      have hb : Tryz.prog.bytesOf 75 = 8 := by kernel_rfl
      simp [DataW.weights, DataW.weightsEach, Tryz.underlying99, Tryz.underlying54, lits, hb, reachBytes] at hh
      show ((zs.take len).map Int.toNat).length ≤ _
      have h8 := of_decide_eq_true hh.1
      rw [Nat.min_eq_left hzl] at h8
      rw [hlen]
      omega
end Go.Proofs.YtmbcmhncicbbjaaGreatDoor

namespace Go.Proofs.YtmbcmhncicbbjaaGreatDoor
open Go.ChangeShapes Go.WideShapes Go.ChangeAt Go.RowKit Go.Joins

theorem w64_of {n : Nat} (h : (Lit.float .f64 n).wf = true) : n < 18446744073709551616 := by
  simpa [Lit.wf] using h
/-- The float that a cell holds. -/
def fcell : Value → Nat
  | .float .f64 n => n
  | _ => 0
set_option maxRecDepth 100000 in
theorem open_floats {H : Type} {enc : TypeId × Value → H} {w : World} {base : Nat} {held : Bool} {r : Reach} {b0 : Nat} {v : Value} {d : DataW H} {p : List MemPlace}
    (hv : Value.okWide Tryz.prog w r b0 22 v) (h : DataW.Trod enc Tryz.prog w base (fun _ => true) held 22 v d p) :
    ∃ (l : List Nat) (ao : Option Addr) (cap : Nat), v = .slice ao l.length cap ∧ GRow w ao l ∧ FW l ∧ l.length ≤ cap ∧ ((d.weights Tryz.prog 22).all (· ≤ reachBytes) = true → cap ≤ 17592186044416) := by
  obtain ⟨a0, len0, cap0, rfl⟩ := okWide_slice Tryz.underlying22 hv
  obtain ⟨fuel, hf⟩ := h
  have hcs : (Value.slice a0 len0 cap0).cells.toList = [.slice a0 len0 cap0] := rfl
  rw [hcs] at hf
  rcases Go.Deep.open_slice1 Tryz.underlying22 (by kernel_rfl) hf with ⟨e1, e2⟩ | ⟨a, len, cap, m, n, V, D, Pl, e1, _, hl, _, hm, e2, hx⟩
  · simp at e1
    obtain ⟨rfl, rfl, rfl⟩ := e1
    exact ⟨[], none, 0, rfl, Or.inl rfl, fun x hx => by simp at hx, Nat.le_refl _, fun _ => by omega⟩
  · simp only [List.cons.injEq, Value.slice.injEq, and_true] at e1
    obtain ⟨rfl, rfl, rfl⟩ := e1
    simp only [if_true] at hm
    subst hm
    obtain ⟨f, hfV⟩ : ∃ f : Nat → Nat, ∀ i, i < m → V i = .float .f64 (f i) ∧ f i < 18446744073709551616 := by
      refine ⟨fun i => fcell (V i), fun i hi => ?_⟩
      obtain ⟨x, hx1, _, hx3⟩ := end_cell (hx i hi).2
      show V i = .float .f64 (fcell (V i)) ∧ fcell (V i) < 18446744073709551616
      rw [hx1]
      exact ⟨rfl, w64_of hx3⟩
    have hlen : ((List.range len0).map f).length = len0 := by simp
    have hget : ∀ j, j < len0 → ((List.range len0).map f).getD j 0 = f j := fun j hj => by simp [List.getD_eq_getElem?_getD, hj]
    refine ⟨(List.range len0).map f, some a, m, by rw [hlen], ?_, ?_, by rw [hlen]; exact hl, ?_⟩
    · rcases Nat.eq_zero_or_pos len0 with h0 | h0
      · exact Or.inl (hlen.trans h0)
      · have ha : a = ⟨a.block, a.off, none⟩ := by
          have h := cell_spot (hx 0 (by omega)).1
          simpa [Addr.add] using h
        refine Or.inr ⟨a.block, a.off, congrArg some ha, fun j hj => ?_⟩
        rw [hlen] at hj
        have hadd : a.add j = ⟨a.block, a.off + j, none⟩ := by
          unfold Addr.add
          split
          · subst j; exact ha
          · rfl
        have hcj := (hx j (by omega)).1
        rw [hadd] at hcj
        rw [hcj, (hfV j (by omega)).1, hget j hj]
    · intro x hx
      obtain ⟨y, hy, rfl⟩ := List.mem_map.1 hx
      exact (hfV y (by have := List.mem_range.1 hy; omega)).2
    · intro hh
      have hb : Tryz.prog.bytesOf 48 = 8 := by kernel_rfl
      simp only [Prod.mk.injEq] at e2
      obtain ⟨rfl, _⟩ := e2
      simp only [DataW.weights, Tryz.underlying22, hb, List.all_cons, Bool.and_eq_true, List.length_map, List.length_range, reachBytes] at hh
      have h8 := of_decide_eq_true hh.1
      omega
end Go.Proofs.YtmbcmhncicbbjaaGreatDoor
