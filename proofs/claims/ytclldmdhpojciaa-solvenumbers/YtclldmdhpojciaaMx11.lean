/- api.Matrix as an argument: opened into its fields, its numbers a row of cells. -/
import Derived.Test.YtclldmdhpojciaaAl
namespace Go.Proofs.Ytclldmdhpojciaa
open Go.ChangeShapes Go.WideShapes Go.ChangeAt Go.RowKit Go.Joins

set_option maxRecDepth 100000 in
theorem cMatrix : Try.prog.cellsOf 34 = 3 := by kernel_rfl
set_option maxRecDepth 100000 in
theorem mopen_floats {H : Type} {enc : TypeId × Value → H} {w : World} {base : Nat} {held : Bool} {fuel : Nat} {v : Value} {y : DataW H × List MemPlace}
    (hf : DataW.trod enc Try.prog w base (fun _ => true) held fuel 22 [v] = some y) :
    ∃ (l : List Nat) (ao : Option Addr) (cap : Nat), v = .slice ao l.length cap ∧ GRow w ao l ∧ FW l ∧ l.length ≤ cap ∧ (ao = none → cap = 0 ∧ l.length = 0) ∧ ((y.1.weights Try.prog 22).all (· ≤ reachBytes) = true → cap ≤ 17592186044416) := by
  rcases Go.Deep.open_slice1 Try.underlying22 (by kernel_rfl) hf with ⟨e1, e2⟩ | ⟨a, len, cap, m, n, V, D, Pl, e1, _, hl, _, hm, e2, hx⟩
  · simp at e1
    subst e1
    exact ⟨[], none, 0, rfl, Or.inl rfl, fun x hx => by simp at hx, Nat.le_refl _, fun _ => ⟨rfl, rfl⟩, fun _ => by omega⟩
  · simp only [List.cons.injEq, and_true] at e1
    subst e1
    simp only [if_true] at hm
    subst hm
    obtain ⟨f, hfV⟩ : ∃ f : Nat → Nat, ∀ i, i < m → V i = .float .f64 (f i) ∧ f i < 18446744073709551616 := by
      refine ⟨fun i => vfcell (V i), fun i hi => ?_⟩
      obtain ⟨x, hx1, _, hx3⟩ := vend_cell (hx i hi).2
      show V i = .float .f64 (vfcell (V i)) ∧ vfcell (V i) < 18446744073709551616
      rw [hx1]
      exact ⟨rfl, vw64_of hx3⟩
    have hlen : ((List.range len).map f).length = len := by simp
    have hget : ∀ j, j < len → ((List.range len).map f).getD j 0 = f j := fun j hj => by simp [List.getD_eq_getElem?_getD, hj]
    refine ⟨(List.range len).map f, some a, m, by rw [hlen], ?_, ?_, by rw [hlen]; exact hl, fun h => (by cases h), ?_⟩
    · rcases Nat.eq_zero_or_pos len with h0 | h0
      · exact Or.inl (hlen.trans h0)
      · have ha : a = ⟨a.block, a.off, none⟩ := by
          have h := vspot (hx 0 (by omega)).1
          simpa [Addr.add] using h
        refine Or.inr ⟨a.block, a.off, congrArg some ha, fun j hj => ?_⟩
        rw [hlen] at hj
        have hadd : a.add j = ⟨a.block, a.off + j, none⟩ := by
          unfold Addr.add
          split
          · subst j; exact ha
          · rfl
        have hcj := (hx j (by omega)).1
        rw [hadd] at hcj
        rw [hcj, (hfV j (by omega)).1, hget j hj]
    · intro x hx
      obtain ⟨y, hy, rfl⟩ := List.mem_map.1 hx
      exact (hfV y (by have := List.mem_range.1 hy; omega)).2
    · intro hh
      have hb : Try.prog.bytesOf 29 = 8 := by kernel_rfl
      subst e2
      simp only [DataW.weights, Try.underlying22, hb, List.all_cons, Bool.and_eq_true, List.length_map, List.length_range, reachBytes] at hh
      have h8 := of_decide_eq_true hh.1
      omega
theorem mopen_list {H : Type} {enc : TypeId × Value → H} {w : World} {base : Nat} {held : Bool} {r : Reach} {b0 : Nat} {v : Value} {d : DataW H} {p : List MemPlace} (hv : Value.okWide Try.prog w r b0 22 v) (h : DataW.Trod enc Try.prog w base (fun _ => true) held 22 v d p) :
    ∃ (l : List Nat) (ao : Option Addr) (cap : Nat), v = .slice ao l.length cap ∧ GRow w ao l ∧ FW l ∧ l.length ≤ cap ∧ (ao = none → cap = 0 ∧ l.length = 0) ∧ ((d.weights Try.prog 22).all (· ≤ reachBytes) = true → cap ≤ 17592186044416) := by
  obtain ⟨a0, len0, cap0, rfl⟩ := okWide_slice Try.underlying22 hv
  obtain ⟨fuel, hf⟩ := h
  exact mopen_floats (y := (d, p)) hf
set_option maxRecDepth 100000 in
theorem open_matrix {H : Type} {enc : TypeId × Value → H} {w : World} {base : Nat} {held : Bool} {r : Reach} {b0 : Nat} {v : Value} {d : DataW H} {p : List MemPlace}
    (hv : Value.okWide Try.prog w r b0 34 v) (h : DataW.Trod enc Try.prog w base (fun _ => true) held 34 v d p) :
    ∃ (m c : Int) (l : List Nat) (ao : Option Addr) (cap : Nat), v = .agg #[.int .i64 m, .int .i64 c, .slice ao l.length cap] ∧ GRow w ao l ∧ FW l ∧ (ao = none → cap = 0 ∧ l.length = 0) ∧ l.length ≤ cap ∧ ((d.weights Try.prog 34).all (· ≤ reachBytes) = true → cap ≤ 17592186044416) := by
  obtain ⟨v0, v1, v2, y0, y1, y2, k, rfl, rfl, rfl, h0, h1, h2⟩ := open_agg3 Try.underlying34 (by kernel_rfl) cMatrix hv h
  obtain ⟨m, e0, rfl, _⟩ := DataW.trod_int Try.underlying3 h0
  obtain ⟨c, e1, rfl, _⟩ := DataW.trod_int Try.underlying3 h1
  simp at e0 e1
  subst e0 e1
  obtain ⟨l, ao, cap, rfl, g1, g2, g3, g4, g5⟩ := mopen_floats h2
  refine ⟨m, c, l, ao, cap, rfl, g1, g2, g4, g3, fun hh => g5 ?_⟩
  simp [DataW.weights, DataW.weightsEach, Try.underlying34] at hh
  simpa using hh
end Go.Proofs.Ytclldmdhpojciaa
