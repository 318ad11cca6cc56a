/- A list of joints as an argument: opened into a row of cells, four a joint. -/
import Derived.Test.YtlhoidkfphellabDoorJA
import Derived.Test.YtlhoidkfphellabDoorWD
import Derived.Deep.Slices
import Derived.ChangeMaps5
namespace Go.Proofs.YtlhoidkfphellabDoor
open Go.ChangeShapes Go.WideShapes Go.ChangeAt Go.RowKit Go.Joins

set_option maxRecDepth 100000 in
theorem cJoint : Tryd.prog.cellsOf 30 = 4 := by kernel_rfl
theorem cJstr : Tryd.prog.cellsOf 9 = 1 := by kernel_rfl
theorem cJi32 : Tryd.prog.cellsOf 21 = 1 := by kernel_rfl
theorem cJu8 : Tryd.prog.cellsOf 5 = 1 := by kernel_rfl
theorem spotJ_of {w : World} {a : Addr} {v : Value} (h : w.cell? a = some v) : a = ⟨a.block, a.off, none⟩ := by
  obtain ⟨b, o, s⟩ := a
  cases s with
  | none => rfl
  | some k =>
    unfold World.cell? at h
    split at h
    · simp at h
    · cases h
theorem i32_of {n : Int} (h : (Lit.int .i32 n).wf = true) : -2147483648 ≤ n ∧ n ≤ 2147483647 := by
  simpa [Lit.wf, IntKind.min, IntKind.max, IntKind.signed, IntKind.bits] using h
theorem u8_of {n : Int} (h : (Lit.int .u8 n).wf = true) : 0 ≤ n ∧ n ≤ 255 := by
  simpa [Lit.wf, IntKind.min, IntKind.max, IntKind.signed, IntKind.bits] using h
/-- A joint that four cells hold. -/
def FourJ (vs : List Value) (j : Jn) : Prop := vs = [.string j.1, .int .i32 j.2.1, .int .i32 j.2.2.1, .int .u8 j.2.2.2] ∧ JW j
set_option maxRecDepth 100000 in
theorem four_cells {H : Type} {enc : TypeId × Value → H} {w : World} {base : Nat} {spare : Nat → Bool} {held : Bool} {n : Nat} {vs : List Value} {x : DataW H × List MemPlace} (hl : vs.length = 4)
    (h : DataW.trod enc Tryd.prog w base spare held n 30 vs = some x) : ∃ j, FourJ vs j := by
  obtain ⟨xs, k, _, _, _, hxl, hf⟩ := DataW.trod_struct Tryd.underlying30 h
  match vs, hl, xs, hxl with
  | [a, b, c, d], _, [y0, y1, y2, y3], _ =>
    have g0 : DataW.trod enc Tryd.prog w base spare held k 9 ((([a, b, c, d] : List Value).drop 0).take (Tryd.prog.cellsOf 9)) = some y0 := hf 0 _ rfl
    rw [cJstr] at g0
    have g1 : DataW.trod enc Tryd.prog w base spare held k 21 ((([a, b, c, d] : List Value).drop 1).take (Tryd.prog.cellsOf 21)) = some y1 := hf 1 _ rfl
    rw [cJi32] at g1
    have g2 : DataW.trod enc Tryd.prog w base spare held k 21 ((([a, b, c, d] : List Value).drop 2).take (Tryd.prog.cellsOf 21)) = some y2 := hf 2 _ rfl
    rw [cJi32] at g2
    have g3 : DataW.trod enc Tryd.prog w base spare held k 5 ((([a, b, c, d] : List Value).drop 3).take (Tryd.prog.cellsOf 5)) = some y3 := hf 3 _ rfl
    rw [cJu8] at g3
    obtain ⟨s, e0, _, s1⟩ := DataW.trod_string Tryd.underlying9 g0
    obtain ⟨p, e1, _, p1⟩ := DataW.trod_int Tryd.underlying21 g1
    obtain ⟨q, e2, _, q1⟩ := DataW.trod_int Tryd.underlying21 g2
    obtain ⟨f, e3, _, f1⟩ := DataW.trod_int Tryd.underlying5 g3
    cases e0
    cases e1
    cases e2
    cases e3
    have p2 := i32_of p1
    have q2 := i32_of q1
    have f2 := u8_of f1
    refine ⟨(s, p, q, f.toNat), ?_, s1, p2.1, p2.2, q2.1, q2.2, ?_⟩
    · have : (f.toNat : Int) = f := by omega
      simp only [this]
    · show f.toNat < 256
      omega
set_option maxRecDepth 100000 in
theorem open_joints {H : Type} {enc : TypeId × Value → H} {w : World} {base : Nat} {held : Bool} {r : Reach} {b0 : Nat} {v : Value} {d : DataW H} {p : List MemPlace}
    (hv : Value.okWide Tryd.prog w r b0 22 v) (h : DataW.Trod enc Tryd.prog w base (fun _ => true) held 22 v d p) :
    ∃ (l : List Jn) (ao : Option Addr) (cap : Nat), v = .slice ao l.length cap ∧ JRow w ao l ∧ JWs l ∧ (ao = none → cap = 0 ∧ l.length = 0) ∧ ((d.weights Tryd.prog 22).all (· ≤ reachBytes) = true → l.length ≤ 4398046511104) := by
  obtain ⟨a0, len0, cap0, rfl⟩ := okWide_slice Tryd.underlying22 hv
  obtain ⟨fuel, hf⟩ := h
  have hcs : (Value.slice a0 len0 cap0).cells.toList = [.slice a0 len0 cap0] := rfl
  rw [hcs] at hf
  rcases Go.Deep.open_slice Tryd.underlying22 hf with ⟨e1, e2⟩ | ⟨a, len, cap, m, n, D, Pl, e1, _, hl, _, hm, e2, hx⟩
  · simp at e1
    obtain ⟨rfl, rfl, rfl⟩ := e1
    exact ⟨[], none, 0, rfl, Or.inl rfl, fun x hx => by simp at hx, fun _ => ⟨rfl, rfl⟩, fun _ => by simp⟩
  · simp only [List.cons.injEq, Value.slice.injEq, and_true] at e1
    obtain ⟨rfl, rfl, rfl⟩ := e1
    simp only [if_true] at hm
    subst hm
    have each : ∀ i, i < m → ∃ j : Jn, JW j ∧ w.cell? (a.add (i * 4)) = some (.string j.1) ∧ w.cell? (a.add (i * 4 + 1)) = some (.int .i32 j.2.1) ∧ w.cell? (a.add (i * 4 + 2)) = some (.int .i32 j.2.2.1) ∧ w.cell? (a.add (i * 4 + 3)) = some (.int .u8 j.2.2.2) := by
      intro i hi
      obtain ⟨cs, h1, h2⟩ := hx i hi
      rw [cJoint] at h1
      obtain ⟨_, hlen, hcell⟩ := World.cells?_some h1
      obtain ⟨j, rfl, hj⟩ := four_cells hlen h2
      have q0 := hcell 0 (by omega)
      have q1 := hcell 1 (by omega)
      have q2 := hcell 2 (by omega)
      have q3 := hcell 3 (by omega)
      rw [Go.Deep.add_add] at q0 q1 q2 q3
      exact ⟨j, hj, q0, q1, q2, q3⟩
    have hF : ∃ f : Nat → Jn, ∀ i, i < m → JW (f i) ∧ w.cell? (a.add (i * 4)) = some (.string (f i).1) ∧ w.cell? (a.add (i * 4 + 1)) = some (.int .i32 (f i).2.1) ∧ w.cell? (a.add (i * 4 + 2)) = some (.int .i32 (f i).2.2.1) ∧ w.cell? (a.add (i * 4 + 3)) = some (.int .u8 (f i).2.2.2) :=
      Go.Deep.choose_lt each
    obtain ⟨f, hfj⟩ := hF
    have hlen : ((List.range len0).map f).length = len0 := by simp
    have hget : ∀ j, j < len0 → ((List.range len0).map f).getD j jz = f j := fun j hj => by simp [List.getD_eq_getElem?_getD, hj]
    refine ⟨(List.range len0).map f, some a, m, by rw [hlen], ?_, ?_, (fun h => by cases h), ?_⟩
    · rcases Nat.eq_zero_or_pos len0 with h0 | h0
      · exact Or.inl (hlen.trans h0)
      · have ha : a = ⟨a.block, a.off, none⟩ := by
          have h := spotJ_of (hfj 0 (by omega)).2.1
          simpa [Addr.add] using h
        have hadd : ∀ j, a.add j = ⟨a.block, a.off + j, none⟩ := by
          intro j
          unfold Addr.add
          split
          · subst j; exact ha
          · rfl
        refine Or.inr ⟨a.block, a.off, congrArg some ha, fun j hj => ?_⟩
        rw [hlen] at hj
        obtain ⟨_, c0, c1, c2, c3⟩ := hfj j (by omega)
        rw [hadd] at c0 c1 c2 c3
        rw [hget j hj]
        exact ⟨c0, by rw [Nat.add_assoc]; exact c1, by rw [Nat.add_assoc]; exact c2, by rw [Nat.add_assoc]; exact c3⟩
    · intro x hx
      obtain ⟨y, hy, rfl⟩ := List.mem_map.1 hx
      exact (hfj y (by have := List.mem_range.1 hy; omega)).1
    · intro hh
      have hb : Tryd.prog.bytesOf 30 = 32 := by kernel_rfl
      simp only [Prod.mk.injEq] at e2
      obtain ⟨rfl, _⟩ := e2
      simp only [DataW.weights, Tryd.underlying22, hb, List.all_cons, Bool.and_eq_true, List.length_map, List.length_range, reachBytes] at hh
      have h8 := of_decide_eq_true hh.1
      rw [hlen]
      omega
set_option maxRecDepth 100000 in
theorem joints_cap {H : Type} {enc : TypeId × Value → H} {w : World} {base : Nat} {held : Bool} {ao : Option Addr} {n cap : Nat} {d : DataW H} {p : List MemPlace} (h : DataW.Trod enc Tryd.prog w base (fun _ => true) held 22 (.slice ao n cap) d p) : n ≤ cap := by
  obtain ⟨fuel, hf⟩ := h
  have hcs : (Value.slice ao n cap).cells.toList = [.slice ao n cap] := rfl
  rw [hcs] at hf
  rcases Go.Deep.open_slice Tryd.underlying22 hf with ⟨e1, _⟩ | ⟨a, len, cap', m, k, D, Pl, e1, _, hl, _, _, _, _⟩
  · simp at e1
    omega
  · simp only [List.cons.injEq, Value.slice.injEq, and_true] at e1
    obtain ⟨_, rfl, rfl⟩ := e1
    exact hl
end Go.Proofs.YtlhoidkfphellabDoor
