/- A case as an argument: opened into its fields, its numbers rows of cells. -/
import Derived.Test.YtmbcmhncicbbjaaGreatDoorRF
import Derived.Test.YtmbcmhncicbbjaaGreatDoorZ11
namespace Go.Proofs.YtmbcmhncicbbjaaGreatDoor
open Go.ChangeShapes Go.WideShapes Go.ChangeAt Go.RowKit Go.Joins

set_option maxRecDepth 100000 in
theorem cMx14 : Tryz.prog.cellsOf 24 = 3 := by kernel_rfl
set_option maxRecDepth 100000 in
theorem cFc14 : Tryz.prog.cellsOf 36 = 3 := by kernel_rfl
set_option maxRecDepth 100000 in
theorem cIn14 : Tryz.prog.cellsOf 3 = 1 := by kernel_rfl
set_option maxRecDepth 100000 in
theorem cSl14 : Tryz.prog.cellsOf 22 = 1 := by kernel_rfl
set_option maxRecDepth 100000 in
theorem cCs14 : Tryz.prog.cellsOf 38 = 8 := by kernel_rfl
set_option maxRecDepth 100000 in
theorem list14 {H : Type} {enc : TypeId × Value → H} {w : World} {base : Nat} {held : Bool} {fuel : Nat} {v : Value} {y : DataW H × List MemPlace}
    (hf : DataW.trod enc Tryz.prog w base (fun _ => true) held fuel 22 [v] = some y) :
    ∃ (l : List Nat) (ao : Option Addr) (cap : Nat), v = .slice ao l.length cap ∧ GRow w ao l ∧ FW l ∧ l.length ≤ cap ∧ Shp ao cap ∧ ((y.1.weights Tryz.prog 22).all (· ≤ reachBytes) = true → cap ≤ 17592186044416) := by
  rcases Go.Deep.open_slice1 Tryz.underlying22 (by kernel_rfl) hf with ⟨e1, e2⟩ | ⟨a, len, cap, m, n, V, D, Pl, e1, _, hl, _, hm, e2, hx⟩
  · simp at e1
    subst e1
    exact ⟨[], none, 0, rfl, Or.inl rfl, fun x hx => by simp at hx, Nat.le_refl _, Or.inl ⟨rfl, rfl⟩, fun _ => by omega⟩
  · simp only [List.cons.injEq, and_true] at e1
    subst e1
    simp only [if_true] at hm
    subst hm
    obtain ⟨f, hfV⟩ : ∃ f : Nat → Nat, ∀ i, i < m → V i = .float .f64 (f i) ∧ f i < 18446744073709551616 := by
      refine ⟨fun i => fcell (V i), fun i hi => ?_⟩
      obtain ⟨x, hx1, _, hx3⟩ := end_cell (hx i hi).2
      show V i = .float .f64 (fcell (V i)) ∧ fcell (V i) < 18446744073709551616
      rw [hx1]
      exact ⟨rfl, w64_of hx3⟩
    have hlen : ((List.range len).map f).length = len := by simp
    have hget : ∀ j, j < len → ((List.range len).map f).getD j 0 = f j := fun j hj => by simp [List.getD_eq_getElem?_getD, hj]
    have ha : 0 < m → a = ⟨a.block, a.off, none⟩ := fun h0 => by
      have h := cell_spot (hx 0 h0).1
      simpa [Addr.add] using h
    refine ⟨(List.range len).map f, some a, m, by rw [hlen], ?_, ?_, by rw [hlen]; exact hl, ?_, ?_⟩
    · rcases Nat.eq_zero_or_pos len with h0 | h0
      · exact Or.inl (hlen.trans h0)
      · have ha := ha (by omega)
        refine Or.inr ⟨a.block, a.off, congrArg some ha, fun j hj => ?_⟩
        rw [hlen] at hj
        have hadd : a.add j = ⟨a.block, a.off + j, none⟩ := by
          unfold Addr.add
          split
          · subst j; exact ha
          · rfl
        have hcj := (hx j (by omega)).1
        rw [hadd] at hcj
        rw [hcj, (hfV j (by omega)).1, hget j hj]
    · intro x hx
      obtain ⟨y, hy, rfl⟩ := List.mem_map.1 hx
      exact (hfV y (by have := List.mem_range.1 hy; omega)).2
    · rcases Nat.eq_zero_or_pos m with h0 | h0
      · exact Or.inr (Or.inr ⟨h0, a, rfl⟩)
      · exact Or.inr (Or.inl ⟨a.block, a.off, congrArg some (ha h0)⟩)
    · intro hh
      have hb : Tryz.prog.bytesOf 48 = 8 := by kernel_rfl
      subst e2
      simp only [DataW.weights, Tryz.underlying22, hb, List.all_cons, Bool.and_eq_true, List.length_map, List.length_range, reachBytes] at hh
      have h8 := of_decide_eq_true hh.1
      omega
theorem array8 {cs : Array Value} (h : cs.size = 8) : ∃ c0 c1 c2 c3 c4 c5 c6 c7, cs = #[c0, c1, c2, c3, c4, c5, c6, c7] := by
  obtain ⟨l⟩ := cs
  match l, h with
  | [c0, c1, c2, c3, c4, c5, c6, c7], _ => exact ⟨c0, c1, c2, c3, c4, c5, c6, c7, rfl⟩
set_option maxRecDepth 100000 in
theorem matrix14 {H : Type} {enc : TypeId × Value → H} {w : World} {base : Nat} {held : Bool} {fuel : Nat} {c0 c1 c2 : Value} {y : DataW H × List MemPlace} (hf : DataW.trod enc Tryz.prog w base (fun _ => true) held fuel 24 [c0, c1, c2] = some y) :
    ∃ (r c : Int) (l : List Nat) (ao : Option Addr) (cap : Nat), c0 = .int .i64 r ∧ c1 = .int .i64 c ∧ c2 = .slice ao l.length cap ∧ GRow w ao l ∧ FW l ∧ l.length ≤ cap ∧ Shp ao cap ∧ ((y.1.weights Tryz.prog 24).all (· ≤ reachBytes) = true → cap ≤ 17592186044416) := by
  obtain ⟨y0, y1, y2, k, rfl, _, h0, h1, h2⟩ := Go.Deep.trod_struct3 Tryz.underlying24 hf
  simp only [cIn14, cSl14] at h0 h1 h2
  obtain ⟨r, e0, rfl, _⟩ := DataW.trod_int Tryz.underlying3 h0
  obtain ⟨c, e1, rfl, _⟩ := DataW.trod_int Tryz.underlying3 h1
  simp at e0 e1
  subst e0 e1
  obtain ⟨l, ao, cap, e2, g1, g2, g3, g4, g5⟩ := list14 (v := c2) h2
  refine ⟨r, c, l, ao, cap, rfl, rfl, e2, g1, g2, g3, g4, fun hh => g5 ?_⟩
  simp [DataW.weights, DataW.weightsEach, Tryz.underlying24] at hh
  simpa using hh
set_option maxRecDepth 100000 in
theorem factor14 {H : Type} {enc : TypeId × Value → H} {w : World} {base : Nat} {held : Bool} {fuel : Nat} {c0 c1 c2 : Value} {y : DataW H × List MemPlace} (hf : DataW.trod enc Tryz.prog w base (fun _ => true) held fuel 36 [c0, c1, c2] = some y) :
    ∃ (n : Int) (l : List Nat) (ao : Option Addr) (cap : Nat) (l2 : List Nat) (bo : Option Addr) (cap2 : Nat), c0 = .int .i64 n ∧ c1 = .slice ao l.length cap ∧ c2 = .slice bo l2.length cap2 ∧ GRow w ao l ∧ FW l ∧ l.length ≤ cap ∧ GRow w bo l2 ∧ FW l2 ∧ l2.length ≤ cap2 ∧ Shp ao cap ∧ Shp bo cap2 ∧ ((y.1.weights Tryz.prog 36).all (· ≤ reachBytes) = true → cap ≤ 17592186044416 ∧ cap2 ≤ 17592186044416) := by
  obtain ⟨y0, y1, y2, k, rfl, _, h0, h1, h2⟩ := Go.Deep.trod_struct3 Tryz.underlying36 hf
  simp only [cIn14, cSl14] at h0 h1 h2
  obtain ⟨n, e0, rfl, _⟩ := DataW.trod_int Tryz.underlying3 h0
  simp at e0
  subst e0
  obtain ⟨l, ao, cap, e1, g1, g2, g3, g4, g5⟩ := list14 (v := c1) h1
  obtain ⟨l2, bo, cap2, e2, k1, k2, k3, k4, k5⟩ := list14 (v := c2) h2
  refine ⟨n, l, ao, cap, l2, bo, cap2, rfl, e1, e2, g1, g2, g3, k1, k2, k3, g4, k4, fun hh => ?_⟩
  simp [DataW.weights, DataW.weightsEach, Tryz.underlying36] at hh
  exact ⟨g5 (by simpa using hh.1), k5 (by simpa using hh.2)⟩
set_option maxRecDepth 100000 in
theorem open_case {H : Type} {enc : TypeId × Value → H} {w : World} {base : Nat} {held : Bool} {r : Reach} {b0 : Nat} {v : Value} {d : DataW H} {p : List MemPlace}
    (hv : Value.okWide Tryz.prog w r b0 38 v) (h : DataW.Trod enc Tryz.prog w base (fun _ => true) held 38 v d p) :
    ∃ (r c : Int) (ms : List Nat) (ao : Option Addr) (cap : Nat) (n : Int) (ls : List Nat) (lo : Option Addr) (lc : Nat) (ds : List Nat) (dO : Option Addr) (dc : Nat) (xs : List Nat) (xo : Option Addr) (xc : Nat) (bs : List Nat) (bo : Option Addr) (bc : Nat), v = csV r c ao ms.length cap n lo ls.length lc dO ds.length dc xo xs.length xc bo bs.length bc ∧ (GRow w ao ms ∧ GRow w lo ls ∧ GRow w dO ds ∧ GRow w xo xs ∧ GRow w bo bs) ∧ (FW ms ∧ FW ls ∧ FW ds ∧ FW xs ∧ FW bs) ∧ (ms.length ≤ cap ∧ ls.length ≤ lc ∧ ds.length ≤ dc ∧ xs.length ≤ xc ∧ bs.length ≤ bc) ∧ (Shp ao cap ∧ Shp lo lc ∧ Shp dO dc ∧ Shp xo xc ∧ Shp bo bc) ∧ ((d.weights Tryz.prog 38).all (· ≤ reachBytes) = true → cap ≤ 17592186044416 ∧ lc ≤ 17592186044416 ∧ dc ≤ 17592186044416 ∧ xc ≤ 17592186044416 ∧ bc ≤ 17592186044416) := by
  obtain ⟨cs, rfl, hsz⟩ := okWide_struct Tryz.underlying38 hv
  obtain ⟨c0, c1, c2, c3, c4, c5, c6, c7, rfl⟩ := array8 (hsz.trans cCs14)
  obtain ⟨fuel, hf⟩ := h
  obtain ⟨y0, y1, y2, y3, k, hx, _, h0, h1, h2, h3⟩ := trod_struct4 Tryz.underlying38 hf
  simp only [cMx14, cFc14, cSl14] at h0 h1 h2 h3
  obtain ⟨r', c', ms, ao, cap, rfl, rfl, rfl, m1, m2, m3, m4, m5⟩ := matrix14 (c0 := c0) (c1 := c1) (c2 := c2) h0
  obtain ⟨n, ls, lo, lc, ds, dO, dc, rfl, rfl, rfl, f1, f2, f3, f4, f5, f6, f7, f8, f9⟩ := factor14 (c0 := c3) (c1 := c4) (c2 := c5) h1
  obtain ⟨xs, xo, xc, rfl, x1, x2, x3, x4, x5⟩ := list14 (v := c6) h2
  obtain ⟨bs, bo, bc, rfl, b1, b2, b3, b4, b5⟩ := list14 (v := c7) h3
  refine ⟨r', c', ms, ao, cap, n, ls, lo, lc, ds, dO, dc, xs, xo, xc, bs, bo, bc, rfl, ⟨m1, f1, f4, x1, b1⟩, ⟨m2, f2, f5, x2, b2⟩, ⟨m3, f3, f6, x3, b3⟩, ⟨m4, f7, f8, x4, b4⟩, fun hh => ?_⟩
  simp only [Prod.mk.injEq] at hx
  obtain ⟨rfl, _⟩ := hx
  simp only [DataW.weights, DataW.weightsEach, Tryz.underlying38, List.map, List.all_append, Bool.and_eq_true] at hh
  obtain ⟨a0, a1, a2, a3, _⟩ := hh
  exact ⟨m5 a0, (f9 a1).1, (f9 a1).2, x5 a2, b5 a3⟩
end Go.Proofs.YtmbcmhncicbbjaaGreatDoor
