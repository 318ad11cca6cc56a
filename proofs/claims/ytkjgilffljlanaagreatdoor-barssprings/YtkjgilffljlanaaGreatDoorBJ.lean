/- A plan as an argument: opened into a row of joints and a row of members. -/
import Derived.Test.YtkjgilffljlanaaGreatDoorBA
import Derived.Test.YtkjgilffljlanaaGreatDoorWD
import Derived.Deep.Slices
import Derived.ChangeMaps5
import Derived.Test.YtkjgilffljlanaaGreatDoorJA
namespace Go.Proofs.YtkjgilffljlanaaGreatDoor
open Go.ChangeShapes Go.WideShapes Go.ChangeAt Go.RowKit Go.Joins
set_option maxRecDepth 100000 in
theorem cMember : Tryz.prog.cellsOf 42 = 9 := by kernel_rfl
theorem cMstr : Tryz.prog.cellsOf 9 = 1 := by kernel_rfl
theorem cMkind : Tryz.prog.cellsOf 39 = 1 := by kernel_rfl
theorem cMint : Tryz.prog.cellsOf 3 = 1 := by kernel_rfl
theorem cMbool : Tryz.prog.cellsOf 4 = 1 := by kernel_rfl
theorem cMflt : Tryz.prog.cellsOf 40 = 1 := by kernel_rfl
theorem spotM_of {w : World} {a : Addr} {v : Value} (h : w.cell? a = some v) : a = ⟨a.block, a.off, none⟩ := by
 obtain ⟨b, o, s⟩ := a
 cases s with
 | none => rfl
 | some k =>
  unfold World.cell? at h
  split at h
  ·simp at h
  ·cases h
theorem mu8_of {n : Int} (h : (Lit.int .u8 n).wf = true) : 0 ≤ n ∧ n ≤ 255 := by
 simpa [Lit.wf, IntKind.min, IntKind.max, IntKind.signed, IntKind.bits] using h
theorem mi64_of {n : Int} (h : (Lit.int .i64 n).wf = true) : -9223372036854775808 ≤ n ∧ n ≤ 9223372036854775807 := by
 simpa [Lit.wf, IntKind.min, IntKind.max, IntKind.signed, IntKind.bits] using h
theorem mw64_of {n : Nat} (h : (Lit.float .f64 n).wf = true) : n < 18446744073709551616 := by
 simpa [Lit.wf] using h
theorem bend_cell {H : Type} {enc : TypeId × Value → H} {w : World} {base : Nat} {spare : Nat → Bool} {held : Bool} {fuel : Nat} {v : Value} {y : DataW H × List MemPlace} (h : DataW.trod enc Tryz.prog w base spare held fuel 40 [v] = some y) :
  ∃ n, v = .float .f64 n ∧ y = (.lit (.float .f64 n), []) ∧ (Lit.float .f64 n).wf = true := by
 have hu := Tryz.underlying40
 generalize Tryz.prog = P at h hu
 generalize 40 = t at h hu
 cases fuel with
 | zero => simp [DataW.trod] at h
 | succ m =>
  unfold DataW.trod at h
  rw [hu] at h
  split at h <;> simp_all
def NineM (vs : List Value) (m : Mb) : Prop := vs = [.string m.nm, .int .u8 m.kd, .int .i64 m.a, .int .i64 m.b, .bool m.ha, .bool m.hb, .float .f64 m.e, .float .f64 m.ar, .float .f64 m.i] ∧ MW m
set_option maxRecDepth 100000 in
theorem nine_cells {H : Type} {enc : TypeId × Value → H} {w : World} {base : Nat} {spare : Nat → Bool} {held : Bool} {n : Nat} {vs : List Value} {x : DataW H × List MemPlace} (hl : vs.length = 9)
  (h : DataW.trod enc Tryz.prog w base spare held n 42 vs = some x) : ∃ m, NineM vs m := by
 obtain ⟨xs, k, _, _, _, hxl, hf⟩ := DataW.trod_struct Tryz.underlying42 h
 match vs, hl, xs, hxl with
 | [v0, v1, v2, v3, v4, v5, v6, v7, v8], _, [y0, y1, y2, y3, y4, y5, y6, y7, y8], _ =>
  have g0 : DataW.trod enc Tryz.prog w base spare held k 9 ((([v0, v1, v2, v3, v4, v5, v6, v7, v8] : List Value).drop 0).take (Tryz.prog.cellsOf 9)) = some y0 := hf 0 _ rfl
  rw [cMstr] at g0
  have g1 : DataW.trod enc Tryz.prog w base spare held k 39 ((([v0, v1, v2, v3, v4, v5, v6, v7, v8] : List Value).drop 1).take (Tryz.prog.cellsOf 39)) = some y1 := hf 1 _ rfl
  rw [cMkind] at g1
  have g2 : DataW.trod enc Tryz.prog w base spare held k 3 ((([v0, v1, v2, v3, v4, v5, v6, v7, v8] : List Value).drop 2).take (Tryz.prog.cellsOf 3)) = some y2 := hf 2 _ rfl
  rw [cMint] at g2
  have g3 : DataW.trod enc Tryz.prog w base spare held k 3 ((([v0, v1, v2, v3, v4, v5, v6, v7, v8] : List Value).drop 3).take (Tryz.prog.cellsOf 3)) = some y3 := hf 3 _ rfl
  rw [cMint] at g3
  have g4 : DataW.trod enc Tryz.prog w base spare held k 4 ((([v0, v1, v2, v3, v4, v5, v6, v7, v8] : List Value).drop 4).take (Tryz.prog.cellsOf 4)) = some y4 := hf 4 _ rfl
  rw [cMbool] at g4
  have g5 : DataW.trod enc Tryz.prog w base spare held k 4 ((([v0, v1, v2, v3, v4, v5, v6, v7, v8] : List Value).drop 5).take (Tryz.prog.cellsOf 4)) = some y5 := hf 5 _ rfl
  rw [cMbool] at g5
  have g6 : DataW.trod enc Tryz.prog w base spare held k 40 ((([v0, v1, v2, v3, v4, v5, v6, v7, v8] : List Value).drop 6).take (Tryz.prog.cellsOf 40)) = some y6 := hf 6 _ rfl
  rw [cMflt] at g6
  have g7 : DataW.trod enc Tryz.prog w base spare held k 40 ((([v0, v1, v2, v3, v4, v5, v6, v7, v8] : List Value).drop 7).take (Tryz.prog.cellsOf 40)) = some y7 := hf 7 _ rfl
  rw [cMflt] at g7
  have g8 : DataW.trod enc Tryz.prog w base spare held k 40 ((([v0, v1, v2, v3, v4, v5, v6, v7, v8] : List Value).drop 8).take (Tryz.prog.cellsOf 40)) = some y8 := hf 8 _ rfl
  rw [cMflt] at g8
  obtain ⟨s, e0, _, s1⟩ := DataW.trod_string Tryz.underlying9 g0
  obtain ⟨q, e1, _, q1⟩ := DataW.trod_int Tryz.underlying39 g1
  obtain ⟨xa, e2, _, a1⟩ := DataW.trod_int Tryz.underlying3 g2
  obtain ⟨xb, e3, _, b1⟩ := DataW.trod_int Tryz.underlying3 g3
  obtain ⟨ha, e4, _⟩ := DataW.trod_bool Tryz.underlying4 g4
  obtain ⟨hb, e5, _⟩ := DataW.trod_bool Tryz.underlying4 g5
  obtain ⟨x6, e6, _, w6⟩ := bend_cell g6
  obtain ⟨x7, e7, _, w7⟩ := bend_cell g7
  obtain ⟨x8, e8, _, w8⟩ := bend_cell g8
  cases e0
  cases e1
  cases e2
  cases e3
  cases e4
  cases e5
  cases e6
  cases e7
  cases e8
  have q2 := mu8_of q1
  have a2 := mi64_of a1
  have b2 := mi64_of b1
  refine ⟨⟨s, q.toNat, xa, xb, ha, hb, x6, x7, x8⟩, ?_, ⟨s1, ?_, a2.1, a2.2, b2.1, b2.2, mw64_of w6, mw64_of w7, mw64_of w8⟩⟩
  ·have : (q.toNat : Int) = q := by omega
   simp only [this]
  ·show q.toNat < 256
   omega
set_option maxRecDepth 100000 in
theorem cJoint : Tryz.prog.cellsOf 46 = 4 := by kernel_rfl
theorem cJstr : Tryz.prog.cellsOf 9 = 1 := by kernel_rfl
theorem cJi32 : Tryz.prog.cellsOf 21 = 1 := by kernel_rfl
theorem cJu8 : Tryz.prog.cellsOf 5 = 1 := by kernel_rfl
theorem spotJ_of {w : World} {a : Addr} {v : Value} (h : w.cell? a = some v) : a = ⟨a.block, a.off, none⟩ := by
 obtain ⟨b, o, s⟩ := a
 cases s with
 | none => rfl
 | some k =>
  unfold World.cell? at h
  split at h
  ·simp at h
  ·cases h
theorem i32_of {n : Int} (h : (Lit.int .i32 n).wf = true) : -2147483648 ≤ n ∧ n ≤ 2147483647 := by
 simpa [Lit.wf, IntKind.min, IntKind.max, IntKind.signed, IntKind.bits] using h
theorem u8_of {n : Int} (h : (Lit.int .u8 n).wf = true) : 0 ≤ n ∧ n ≤ 255 := by
 simpa [Lit.wf, IntKind.min, IntKind.max, IntKind.signed, IntKind.bits] using h
def FourJ (vs : List Value) (j : Jn) : Prop := vs = [.string j.1, .int .i32 j.2.1, .int .i32 j.2.2.1, .int .u8 j.2.2.2] ∧ JW j
set_option maxRecDepth 100000 in
theorem four_cells {H : Type} {enc : TypeId × Value → H} {w : World} {base : Nat} {spare : Nat → Bool} {held : Bool} {n : Nat} {vs : List Value} {x : DataW H × List MemPlace} (hl : vs.length = 4)
  (h : DataW.trod enc Tryz.prog w base spare held n 46 vs = some x) : ∃ j, FourJ vs j := by
 obtain ⟨xs, k, _, _, _, hxl, hf⟩ := DataW.trod_struct Tryz.underlying46 h
 match vs, hl, xs, hxl with
 | [a, b, c, d], _, [y0, y1, y2, y3], _ =>
  have g0 : DataW.trod enc Tryz.prog w base spare held k 9 ((([a, b, c, d] : List Value).drop 0).take (Tryz.prog.cellsOf 9)) = some y0 := hf 0 _ rfl
  rw [cJstr] at g0
  have g1 : DataW.trod enc Tryz.prog w base spare held k 21 ((([a, b, c, d] : List Value).drop 1).take (Tryz.prog.cellsOf 21)) = some y1 := hf 1 _ rfl
  rw [cJi32] at g1
  have g2 : DataW.trod enc Tryz.prog w base spare held k 21 ((([a, b, c, d] : List Value).drop 2).take (Tryz.prog.cellsOf 21)) = some y2 := hf 2 _ rfl
  rw [cJi32] at g2
  have g3 : DataW.trod enc Tryz.prog w base spare held k 5 ((([a, b, c, d] : List Value).drop 3).take (Tryz.prog.cellsOf 5)) = some y3 := hf 3 _ rfl
  rw [cJu8] at g3
  obtain ⟨s, e0, _, s1⟩ := DataW.trod_string Tryz.underlying9 g0
  obtain ⟨p, e1, _, p1⟩ := DataW.trod_int Tryz.underlying21 g1
  obtain ⟨q, e2, _, q1⟩ := DataW.trod_int Tryz.underlying21 g2
  obtain ⟨f, e3, _, f1⟩ := DataW.trod_int Tryz.underlying5 g3
  cases e0
  cases e1
  cases e2
  cases e3
  have p2 := i32_of p1
  have q2 := i32_of q1
  have f2 := u8_of f1
  refine ⟨(s, p, q, f.toNat), ?_, s1, p2.1, p2.2, q2.1, q2.2, ?_⟩
  ·have : (f.toNat : Int) = f := by omega
   simp only [this]
  ·show f.toNat < 256
   omega
set_option maxRecDepth 100000 in
theorem joints_trod {H : Type} {enc : TypeId × Value → H} {w : World} {base fuel : Nat} {held : Bool} {v : Value} {d : DataW H} {p : List MemPlace}
  (hf : DataW.trod enc Tryz.prog w base (fun _ => true) held fuel 22 [v] = some (d, p)) :
  ∃ (l : List Jn) (ao : Option Addr) (cap : Nat), v = .slice ao l.length cap ∧ JRow w ao l ∧ JWs l ∧ (ao = none → cap = 0 ∧ l.length = 0) ∧ ((d.weights Tryz.prog 22).all (· ≤ reachBytes) = true → l.length ≤ 4398046511104) := by
 rcases Go.Deep.open_slice Tryz.underlying22 hf with ⟨e1, e2⟩ | ⟨a, len, cap, m, n, D, Pl, e1, _, hl, _, hm, e2, hx⟩
 ·simp only [List.cons.injEq, and_true] at e1
  subst e1
  exact ⟨[], none, 0, rfl, Or.inl rfl, fun x hx => by simp at hx, fun _ => ⟨rfl, rfl⟩, fun _ => by simp⟩
 ·simp only [List.cons.injEq, and_true] at e1
  subst e1
  simp only [if_true] at hm
  subst hm
  have each : ∀ i, i < m → ∃ j : Jn, JW j ∧ w.cell? (a.add (i * 4)) = some (.string j.1) ∧ w.cell? (a.add (i * 4 + 1)) = some (.int .i32 j.2.1) ∧ w.cell? (a.add (i * 4 + 2)) = some (.int .i32 j.2.2.1) ∧ w.cell? (a.add (i * 4 + 3)) = some (.int .u8 j.2.2.2) := by
   intro i hi
   obtain ⟨cs, h1, h2⟩ := hx i hi
   rw [cJoint] at h1
   obtain ⟨_, hlen, hcell⟩ := World.cells?_some h1
   obtain ⟨j, rfl, hj⟩ := four_cells hlen h2
   have q0 := hcell 0 (by omega)
   have q1 := hcell 1 (by omega)
   have q2 := hcell 2 (by omega)
   have q3 := hcell 3 (by omega)
   rw [Go.Deep.add_add] at q0 q1 q2 q3
   exact ⟨j, hj, q0, q1, q2, q3⟩
  have hF : ∃ f : Nat → Jn, ∀ i, i < m → JW (f i) ∧ w.cell? (a.add (i * 4)) = some (.string (f i).1) ∧ w.cell? (a.add (i * 4 + 1)) = some (.int .i32 (f i).2.1) ∧ w.cell? (a.add (i * 4 + 2)) = some (.int .i32 (f i).2.2.1) ∧ w.cell? (a.add (i * 4 + 3)) = some (.int .u8 (f i).2.2.2) :=
   Go.Deep.choose_lt each
  obtain ⟨f, hfj⟩ := hF
  have hlen : ((List.range len).map f).length = len := by simp
  have hget : ∀ j, j < len → ((List.range len).map f).getD j jz = f j := fun j hj => by simp [List.getD_eq_getElem?_getD, hj]
  refine ⟨(List.range len).map f, some a, m, by rw [hlen], ?_, ?_, (fun h => by cases h), ?_⟩
  ·rcases Nat.eq_zero_or_pos len with h0 | h0
   ·exact Or.inl (hlen.trans h0)
   ·have ha : a = ⟨a.block, a.off, none⟩ := by
     have h := spotJ_of (hfj 0 (by omega)).2.1
     simpa [Addr.add] using h
    have hadd : ∀ j, a.add j = ⟨a.block, a.off + j, none⟩ := by
     intro j
     unfold Addr.add
     split
     ·subst j; exact ha
     ·rfl
    refine Or.inr ⟨a.block, a.off, congrArg some ha, fun j hj => ?_⟩
    rw [hlen] at hj
    obtain ⟨_, c0, c1, c2, c3⟩ := hfj j (by omega)
    rw [hadd] at c0 c1 c2 c3
    rw [hget j hj]
    exact ⟨c0, by rw [Nat.add_assoc]; exact c1, by rw [Nat.add_assoc]; exact c2, by rw [Nat.add_assoc]; exact c3⟩
  ·intro x hx
   obtain ⟨y, hy, rfl⟩ := List.mem_map.1 hx
   exact (hfj y (by have := List.mem_range.1 hy; omega)).1
  ·intro hh
   have hb : Tryz.prog.bytesOf 46 = 32 := by kernel_rfl
   simp only [Prod.mk.injEq] at e2
   obtain ⟨rfl, _⟩ := e2
   simp only [DataW.weights, Tryz.underlying22, hb, List.all_cons, Bool.and_eq_true, List.length_map, List.length_range, reachBytes] at hh
   have h8 := of_decide_eq_true hh.1
   rw [hlen]
   omega
set_option maxRecDepth 100000 in
theorem members_trod {H : Type} {enc : TypeId × Value → H} {w : World} {base fuel : Nat} {held : Bool} {v : Value} {d : DataW H} {p : List MemPlace}
  (hf : DataW.trod enc Tryz.prog w base (fun _ => true) held fuel 23 [v] = some (d, p)) :
  ∃ (l : List Mb) (ao : Option Addr) (cap : Nat), v = .slice ao l.length cap ∧ MRow w ao l ∧ MWs l ∧ (ao = none → cap = 0 ∧ l.length = 0) ∧ ((d.weights Tryz.prog 23).all (· ≤ reachBytes) = true → l.length ≤ 1954687338268) := by
 rcases Go.Deep.open_slice Tryz.underlying23 hf with ⟨e1, e2⟩ | ⟨a, len, cap, m, n, D, Pl, e1, _, hl, _, hm, e2, hx⟩
 ·simp only [List.cons.injEq, and_true] at e1
  subst e1
  exact ⟨[], none, 0, rfl, Or.inl rfl, fun x hx => by simp at hx, fun _ => ⟨rfl, rfl⟩, fun _ => by simp⟩
 ·simp only [List.cons.injEq, and_true] at e1
  subst e1
  simp only [if_true] at hm
  subst hm
  have each : ∀ i, i < m → ∃ j : Mb, MW j ∧ w.cell? (a.add (i * 9)) = some (.string j.nm) ∧ w.cell? (a.add (i * 9 + 1)) = some (.int .u8 j.kd) ∧ w.cell? (a.add (i * 9 + 2)) = some (.int .i64 j.a) ∧ w.cell? (a.add (i * 9 + 3)) = some (.int .i64 j.b) ∧ w.cell? (a.add (i * 9 + 4)) = some (.bool j.ha) ∧ w.cell? (a.add (i * 9 + 5)) = some (.bool j.hb) ∧ w.cell? (a.add (i * 9 + 6)) = some (.float .f64 j.e) ∧ w.cell? (a.add (i * 9 + 7)) = some (.float .f64 j.ar) ∧ w.cell? (a.add (i * 9 + 8)) = some (.float .f64 j.i) := by
   intro i hi
   obtain ⟨cs, h1, h2⟩ := hx i hi
   rw [cMember] at h1
   obtain ⟨_, hlen, hcell⟩ := World.cells?_some h1
   obtain ⟨j, rfl, hj⟩ := nine_cells hlen h2
   have q0 := hcell 0 (by omega)
   have q1 := hcell 1 (by omega)
   have q2 := hcell 2 (by omega)
   have q3 := hcell 3 (by omega)
   have q4 := hcell 4 (by omega)
   have q5 := hcell 5 (by omega)
   have q6 := hcell 6 (by omega)
   have q7 := hcell 7 (by omega)
   have q8 := hcell 8 (by omega)
   rw [Go.Deep.add_add] at q0 q1 q2 q3 q4 q5 q6 q7 q8
   exact ⟨j, hj, q0, q1, q2, q3, q4, q5, q6, q7, q8⟩
  haveI : Inhabited Mb := ⟨mz⟩
  obtain ⟨f, hfj⟩ := Go.Deep.choose_lt each
  have hlen : ((List.range len).map f).length = len := by simp
  have hget : ∀ j, j < len → ((List.range len).map f).getD j mz = f j := fun j hj => by simp [List.getD_eq_getElem?_getD, hj]
  refine ⟨(List.range len).map f, some a, m, by rw [hlen], ?_, ?_, (fun h => by cases h), ?_⟩
  ·rcases Nat.eq_zero_or_pos len with h0 | h0
   ·exact Or.inl (hlen.trans h0)
   ·have ha : a = ⟨a.block, a.off, none⟩ := by
     have h := spotM_of (hfj 0 (by omega)).2.1
     simpa [Addr.add] using h
    have hadd : ∀ j, a.add j = ⟨a.block, a.off + j, none⟩ := by
     intro j
     unfold Addr.add
     split
     ·subst j; exact ha
     ·rfl
    refine Or.inr ⟨a.block, a.off, congrArg some ha, fun j hj => ?_⟩
    rw [hlen] at hj
    obtain ⟨_, c0, c1, c2, c3, c4, c5, c6, c7, c8⟩ := hfj j (by omega)
    rw [hadd] at c0 c1 c2 c3 c4 c5 c6 c7 c8
    rw [hget j hj]
    exact ⟨c0, by rw [Nat.add_assoc]; exact c1, by rw [Nat.add_assoc]; exact c2, by rw [Nat.add_assoc]; exact c3, by rw [Nat.add_assoc]; exact c4, by rw [Nat.add_assoc]; exact c5, by rw [Nat.add_assoc]; exact c6, by rw [Nat.add_assoc]; exact c7, by rw [Nat.add_assoc]; exact c8⟩
  ·intro x hx
   obtain ⟨y, hy, rfl⟩ := List.mem_map.1 hx
   exact (hfj y (by have := List.mem_range.1 hy; omega)).1
  ·intro hh
   have hb : Tryz.prog.bytesOf 42 = 72 := by kernel_rfl
   simp only [Prod.mk.injEq] at e2
   obtain ⟨rfl, _⟩ := e2
   simp only [DataW.weights, Tryz.underlying23, hb, List.all_cons, Bool.and_eq_true, List.length_map, List.length_range, reachBytes] at hh
   have h8 := of_decide_eq_true hh.1
   rw [hlen]
   omega
set_option maxRecDepth 100000 in
theorem cPlan : Tryz.prog.cellsOf 25 = 2 := by kernel_rfl
set_option maxRecDepth 100000 in
theorem open_plan {H : Type} {enc : TypeId × Value → H} {w : World} {base : Nat} {held : Bool} {r : Reach} {b0 : Nat} {v : Value} {d : DataW H} {p : List MemPlace}
  (hv : Value.okWide Tryz.prog w r b0 25 v) (h : DataW.Trod enc Tryz.prog w base (fun _ => true) held 25 v d p) :
  ∃ (js : List Jn) (ms : List Mb) (ao mo : Option Addr) (ac mc : Nat), v = .agg #[.slice ao js.length ac, .slice mo ms.length mc] ∧ JRow w ao js ∧ JWs js ∧ (ao = none → ac = 0 ∧ js.length = 0) ∧ MRow w mo ms ∧ MWs ms ∧ (mo = none → mc = 0 ∧ ms.length = 0) ∧
   ((d.weights Tryz.prog 25).all (· ≤ reachBytes) = true → js.length ≤ 4398046511104 ∧ ms.length ≤ 1954687338268) := by
 obtain ⟨v0, v1, y0, y1, k, rfl, rfl, rfl, h0, h1⟩ := open_agg2 Tryz.underlying25 (by kernel_rfl) cPlan hv h
 obtain ⟨js, ao, ac, rfl, j1, j2, j3, j4⟩ := joints_trod (d := y0.1) (p := y0.2) h0
 obtain ⟨ms, mo, mc, rfl, m1, m2, m3, m4⟩ := members_trod (d := y1.1) (p := y1.2) h1
 refine ⟨js, ms, ao, mo, ac, mc, rfl, j1, j2, j3, m1, m2, m3, fun hh => ?_⟩
 simp [DataW.weights, DataW.weightsEach, Tryz.underlying25] at hh
 exact ⟨j4 (List.all_eq_true.2 fun x hx => by simpa using hh.1 x hx), m4 (List.all_eq_true.2 fun x hx => by simpa using hh.2 x hx)⟩
end Go.Proofs.YtkjgilffljlanaaGreatDoor
