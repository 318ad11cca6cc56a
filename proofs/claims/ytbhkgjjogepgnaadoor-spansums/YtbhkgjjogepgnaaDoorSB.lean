/- A list of floats as an argument: opened into a row of cells. -/
import Derived.Test.YtbhkgjjogepgnaaDoorWD
import Derived.Test.YtbhkgjjogepgnaaDoorWA
import Derived.Deep.SlicePairs
import Derived.Test.YtbhkgjjogepgnaaDoorZa
import Derived.Test.YtbhkgjjogepgnaaDoorZb
import Derived.SizedLaws
import Derived.ChangeSlices
import Derived.Test.YtbhkgjjogepgnaaDoorSA
import Derived.Deep.Slices
namespace Go.Proofs.YtbhkgjjogepgnaaDoor
open Go.ChangeShapes Go.WideShapes Go.ChangeAt Go.RowKit Go.Joins

theorem w64S_of {n : Nat} (h : (Lit.float .f64 n).wf = true) : n < 18446744073709551616 := by
  simpa [Lit.wf] using h
theorem spotS_of {w : World} {a : Addr} {v : Value} (h : w.cell? a = some v) : a = ⟨a.block, a.off, none⟩ := by
  obtain ⟨b, o, s⟩ := a
  cases s with
  | none => rfl
  | some k =>
    unfold World.cell? at h
    split at h
    · simp at h
    · cases h
/-- The float that a cell holds. -/
def fcellS : Value → Nat
  | .float .f64 n => n
  | _ => 0
set_option maxRecDepth 100000 in
theorem open_spans {H : Type} {enc : TypeId × Value → H} {w : World} {base : Nat} {held : Bool} {r : Reach} {b0 : Nat} {v : Value} {d : DataW H} {p : List MemPlace}
    (hv : Value.okWide Tryd.prog w r b0 34 v) (h : DataW.Trod enc Tryd.prog w base (fun _ => true) held 34 v d p) :
    ∃ (l : List (Nat × Nat)) (ao : Option Addr) (cap : Nat), v = .slice ao l.length cap ∧ SRow w ao l ∧ FS l ∧ l.length ≤ cap ∧ (ao = none → cap = 0 ∧ l.length = 0) ∧ ((d.weights Tryd.prog 34).all (· ≤ reachBytes) = true → cap ≤ 17592186044416) := by
  obtain ⟨a0, len0, cap0, rfl⟩ := okWide_slice Tryd.underlying34 hv
  obtain ⟨fuel, hf⟩ := h
  have hcs : (Value.slice a0 len0 cap0).cells.toList = [.slice a0 len0 cap0] := rfl
  rw [hcs] at hf
  rcases Go.Deep.open_slice_pairs Tryd.underlying34 Tryd.underlying24 cSpan rfl rfl (by kernel_rfl) (by kernel_rfl) hf with ⟨e1, e2⟩ | ⟨a, len, cap, m, n, V0, V1, D0, D1, P0, P1, e1, _, hl, _, hm, e2, hx⟩
  · simp at e1
    obtain ⟨rfl, rfl, rfl⟩ := e1
    exact ⟨[], none, 0, rfl, Or.inl rfl, fun x hx => by simp at hx, Nat.le_refl _, fun _ => ⟨rfl, rfl⟩, fun _ => by omega⟩
  · simp only [List.cons.injEq, Value.slice.injEq, and_true] at e1
    obtain ⟨rfl, rfl, rfl⟩ := e1
    simp only [if_true] at hm
    subst hm
    obtain ⟨f, hfV⟩ : ∃ f : Nat → Nat × Nat, ∀ i, i < m → V0 i = .float .f64 (f i).1 ∧ (f i).1 < 18446744073709551616 ∧ V1 i = .float .f64 (f i).2 ∧ (f i).2 < 18446744073709551616 := by
      refine ⟨fun i => (fcellS (V0 i), fcellS (V1 i)), fun i hi => ?_⟩
      obtain ⟨x, hx1, _, hx3⟩ := end_cell (hx i hi).2.2.1
      obtain ⟨y, hy1, _, hy3⟩ := end_cell (hx i hi).2.2.2
      show V0 i = .float .f64 (fcellS (V0 i)) ∧ fcellS (V0 i) < 18446744073709551616 ∧ V1 i = .float .f64 (fcellS (V1 i)) ∧ fcellS (V1 i) < 18446744073709551616
      rw [hx1, hy1]
      exact ⟨rfl, w64S_of hx3, rfl, w64S_of hy3⟩
    have hlen : ((List.range len0).map f).length = len0 := by simp
    have hget : ∀ j, j < len0 → ((List.range len0).map f).getD j (0, 0) = f j := fun j hj => by simp [List.getD_eq_getElem?_getD, hj]
    refine ⟨(List.range len0).map f, some a, m, by rw [hlen], ?_, ?_, by rw [hlen]; exact hl, (fun h => by cases h), ?_⟩
    · rcases Nat.eq_zero_or_pos len0 with h0 | h0
      · exact Or.inl (hlen.trans h0)
      · have ha : a = ⟨a.block, a.off, none⟩ := by
          have h := spotS_of (hx 0 (by omega)).1
          simpa [Addr.add] using h
        refine Or.inr ⟨a.block, a.off, congrArg some ha, fun j hj => ?_⟩
        rw [hlen] at hj
        have hadd : ∀ j, a.add j = ⟨a.block, a.off + j, none⟩ := by
          intro j
          unfold Addr.add
          split
          · subst j; exact ha
          · rfl
        obtain ⟨hc0, hc1, _, _⟩ := hx j (by omega)
        rw [hadd] at hc0 hc1
        obtain ⟨v0, _, v1, _⟩ := hfV j (by omega)
        rw [hget j hj]
        exact ⟨by rw [hc0, v0], by rw [Nat.add_assoc, hc1, v1]⟩
    · intro x hx
      obtain ⟨y, hy, rfl⟩ := List.mem_map.1 hx
      have := hfV y (by have := List.mem_range.1 hy; omega)
      exact ⟨this.2.1, this.2.2.2⟩
    · intro hh
      have hb : Tryd.prog.bytesOf 24 = 16 := by kernel_rfl
      simp only [Prod.mk.injEq] at e2
      obtain ⟨rfl, _⟩ := e2
      simp only [DataW.weights, Tryd.underlying34, hb, List.all_cons, Bool.and_eq_true, List.length_map, List.length_range, reachBytes] at hh
      have h8 := of_decide_eq_true hh.1
      omega
end Go.Proofs.YtbhkgjjogepgnaaDoor

namespace Go.Proofs.YtbhkgjjogepgnaaDoor
open Go.ChangeShapes Go.WideShapes Go.ChangeAt Go.RowKit Go.Joins

set_option maxRecDepth 100000 in
theorem cDyad : Tryd.prog.cellsOf 38 = 3 := by kernel_rfl
theorem cell_spot {w : World} {a : Addr} {v : Value} (h : w.cell? a = some v) : a = ⟨a.block, a.off, none⟩ := by
  obtain ⟨b, o, s⟩ := a
  cases s with
  | none => rfl
  | some k =>
    unfold World.cell? at h
    split at h
    · simp at h
    · cases h

set_option maxRecDepth 100000 in
theorem open_dyad {H : Type} {enc : TypeId × Value → H} {w : World} {base : Nat} {spare : Nat → Bool} {held : Bool} {r : Reach} {b0 : Nat} {v : Value} {d : DataW H} {p : List MemPlace}
    (hv : Value.okWide Tryd.prog w r b0 38 v) (h : DataW.Trod enc Tryd.prog w base spare held 38 v d p) :
    ∃ (D : Dy) (ao : Option Addr) (cap : Nat), v = .agg #[.bool D.neg, .slice ao D.mag.length cap, .int .i64 D.exp] ∧ LRow w ao D.mag ∧ Lm D.mag ∧ (ao = none → cap = 0 ∧ D.mag.length = 0) ∧
      ((d.weights Tryd.prog 38).all (· ≤ reachBytes) = true → D.mag.length ≤ 17592186044416) := by
  obtain ⟨v0, v1, v2, y0, y1, y2, k, rfl, rfl, rfl, h0, h1, h2⟩ := open_agg3 Tryd.underlying38 (by kernel_rfl) cDyad hv h
  obtain ⟨n, e0, rfl⟩ := DataW.trod_bool Tryd.underlying4 h0
  obtain ⟨e, e2, rfl, we⟩ := DataW.trod_int Tryd.underlying3 h2
  simp at e0 e2
  subst e0 e2
  rcases open_ints Tryd.underlying36 Tryd.underlying69 (by kernel_rfl) h1 with ⟨e1, rfl⟩ | ⟨a, len, cap, zs, e1, _, hl, _, hz, rfl, hc, hw⟩
  · simp at e1
    subst e1
    exact ⟨⟨n, [], e⟩, none, 0, rfl, Or.inl rfl, fun x hx => by simp at hx, fun _ => ⟨rfl, rfl⟩, fun _ => by simp⟩
  · simp at e1
    subst e1
    have hzl : len ≤ zs.length := by rw [hz]; split <;> omega
    have hlen : ((zs.take len).map Int.toNat).length = len := by simp; omega
    refine ⟨⟨n, (zs.take len).map Int.toNat, e⟩, some a, cap, by rw [hlen], ?_, ?_, fun h => (by cases h), ?_⟩
    · rcases Nat.eq_zero_or_pos len with h0 | h0
      · exact Or.inl (hlen.trans h0)
      · have ha : a = ⟨a.block, a.off, none⟩ := by
          have h := cell_spot (hc 0 (by omega))
          simpa [Addr.add] using h
        refine Or.inr ⟨a.block, a.off, congrArg some ha, fun j hj => ?_⟩
        have hj' : j < len := by rw [← hlen]; exact hj
        have hadd : a.add j = ⟨a.block, a.off + j, none⟩ := by
          unfold Addr.add
          split
          · subst j; exact ha
          · rfl
        have hcj := hc j (by omega)
        rw [hadd] at hcj
        rw [hcj]
        have hzj : zs.getD j 0 ∈ zs := by rw [List.getD_eq_getElem?_getD, List.getElem?_eq_getElem (show j < zs.length by omega)]; exact List.getElem_mem _
        have hpos := (u64_bd (hw _ hzj)).1
        have hget : ((zs.take len).map Int.toNat).getD j 0 = (zs.getD j 0).toNat := by
          rw [List.getD_eq_getElem?_getD, List.getD_eq_getElem?_getD, List.getElem?_map, List.getElem?_take_of_lt hj', List.getElem?_eq_getElem (show j < zs.length by omega)]; rfl
        show some (Value.int .u64 (zs.getD j 0)) = some (Value.int .u64 ((((zs.take len).map Int.toNat).getD j 0 : Nat) : Int))
        rw [hget, Int.toNat_of_nonneg hpos]
    · intro x hx
      obtain ⟨y, hy, rfl⟩ := List.mem_map.1 hx
      have := u64_bd (hw y (List.mem_of_mem_take hy))
      omega
    · intro hh
      have hb : Tryd.prog.bytesOf 69 = 8 := by kernel_rfl
      simp [DataW.weights, DataW.weightsEach, Tryd.underlying38, Tryd.underlying36, lits, hb, reachBytes] at hh
      show ((zs.take len).map Int.toNat).length ≤ _
      have h8 := of_decide_eq_true hh.1
      rw [Nat.min_eq_left hzl] at h8
      rw [hlen]
      omega
end Go.Proofs.YtbhkgjjogepgnaaDoor

namespace Go.Proofs.YtbhkgjjogepgnaaDoor
open Go.ChangeShapes Go.WideShapes Go.ChangeAt Go.RowKit Go.Joins

theorem w64_of {n : Nat} (h : (Lit.float .f64 n).wf = true) : n < 18446744073709551616 := by
  simpa [Lit.wf] using h
/-- The float that a cell holds. -/
def fcell : Value → Nat
  | .float .f64 n => n
  | _ => 0
set_option maxRecDepth 100000 in
theorem open_floats {H : Type} {enc : TypeId × Value → H} {w : World} {base : Nat} {held : Bool} {r : Reach} {b0 : Nat} {v : Value} {d : DataW H} {p : List MemPlace}
    (hv : Value.okWide Tryd.prog w r b0 35 v) (h : DataW.Trod enc Tryd.prog w base (fun _ => true) held 35 v d p) :
    ∃ (l : List Nat) (ao : Option Addr) (cap : Nat), v = .slice ao l.length cap ∧ GRow w ao l ∧ FW l ∧ l.length ≤ cap ∧ ((d.weights Tryd.prog 35).all (· ≤ reachBytes) = true → cap ≤ 17592186044416) := by
  obtain ⟨a0, len0, cap0, rfl⟩ := okWide_slice Tryd.underlying35 hv
  obtain ⟨fuel, hf⟩ := h
  have hcs : (Value.slice a0 len0 cap0).cells.toList = [.slice a0 len0 cap0] := rfl
  rw [hcs] at hf
  rcases Go.Deep.open_slice1 Tryd.underlying35 (by kernel_rfl) hf with ⟨e1, e2⟩ | ⟨a, len, cap, m, n, V, D, Pl, e1, _, hl, _, hm, e2, hx⟩
  · simp at e1
    obtain ⟨rfl, rfl, rfl⟩ := e1
    exact ⟨[], none, 0, rfl, Or.inl rfl, fun x hx => by simp at hx, Nat.le_refl _, fun _ => by omega⟩
  · simp only [List.cons.injEq, Value.slice.injEq, and_true] at e1
    obtain ⟨rfl, rfl, rfl⟩ := e1
    simp only [if_true] at hm
    subst hm
    obtain ⟨f, hfV⟩ : ∃ f : Nat → Nat, ∀ i, i < m → V i = .float .f64 (f i) ∧ f i < 18446744073709551616 := by
      refine ⟨fun i => fcell (V i), fun i hi => ?_⟩
      obtain ⟨x, hx1, _, hx3⟩ := end_cell (hx i hi).2
      show V i = .float .f64 (fcell (V i)) ∧ fcell (V i) < 18446744073709551616
      rw [hx1]
      exact ⟨rfl, w64_of hx3⟩
    have hlen : ((List.range len0).map f).length = len0 := by simp
    have hget : ∀ j, j < len0 → ((List.range len0).map f).getD j 0 = f j := fun j hj => by simp [List.getD_eq_getElem?_getD, hj]
    refine ⟨(List.range len0).map f, some a, m, by rw [hlen], ?_, ?_, by rw [hlen]; exact hl, ?_⟩
    · rcases Nat.eq_zero_or_pos len0 with h0 | h0
      · exact Or.inl (hlen.trans h0)
      · have ha : a = ⟨a.block, a.off, none⟩ := by
          have h := cell_spot (hx 0 (by omega)).1
          simpa [Addr.add] using h
        refine Or.inr ⟨a.block, a.off, congrArg some ha, fun j hj => ?_⟩
        rw [hlen] at hj
        have hadd : a.add j = ⟨a.block, a.off + j, none⟩ := by
          unfold Addr.add
          split
          · subst j; exact ha
          · rfl
        have hcj := (hx j (by omega)).1
        rw [hadd] at hcj
        rw [hcj, (hfV j (by omega)).1, hget j hj]
    · intro x hx
      obtain ⟨y, hy, rfl⟩ := List.mem_map.1 hx
      exact (hfV y (by have := List.mem_range.1 hy; omega)).2
    · intro hh
      have hb : Tryd.prog.bytesOf 22 = 8 := by kernel_rfl
      simp only [Prod.mk.injEq] at e2
      obtain ⟨rfl, _⟩ := e2
      simp only [DataW.weights, Tryd.underlying35, hb, List.all_cons, Bool.and_eq_true, List.length_map, List.length_range, reachBytes] at hh
      have h8 := of_decide_eq_true hh.1
      omega
end Go.Proofs.YtbhkgjjogepgnaaDoor
