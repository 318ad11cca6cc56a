/- A sketch as an argument: opened into rows of whole numbers and a row of floats. -/
import Derived.Test.YtfipmopmpacdaaaGreatDoorU2
import Derived.Test.YtfipmopmpacdaaaGreatDoorZb
import Derived.WalkKit
import Derived.ProofKit
import Derived.OpenShut
import Derived.SizedLaws
import Derived.ChangeSlices
import Derived.Deep.Slices
import Derived.Lib.SmallJoins
import Derived.WideShapes
import Derived.Test.YtfipmopmpacdaaaGreatDoorTA
namespace Go.Proofs.YtfipmopmpacdaaaGreatDoor
open Go.ChangeShapes Go.WideShapes Go.ChangeAt Go.RowKit Go.Joins
set_option maxRecDepth 100000 in
theorem vend_cell {H : Type} {enc : TypeId × Value → H} {w : World} {base : Nat} {spare : Nat → Bool} {held : Bool} {fuel : Nat} {v : Value} {y : DataW H × List MemPlace} (h : DataW.trod enc Tryz.prog w base spare held fuel 36 [v] = some y) :
  ∃ n, v = .float .f64 n ∧ y = (.lit (.float .f64 n), []) ∧ (Lit.float .f64 n).wf = true := by
 have hu := Tryz.underlying36
 generalize Tryz.prog = P at h hu
 generalize 36 = t at h hu
 cases fuel with
 | zero => simp [DataW.trod] at h
 | succ m =>
  unfold DataW.trod at h
  rw [hu] at h
  split at h <;> simp_all
theorem vspot {w : World} {a : Addr} {v : Value} (h : w.cell? a = some v) : a = ⟨a.block, a.off, none⟩ := by
 obtain ⟨b, o, s⟩ := a
 cases s with
 | none => rfl
 | some k =>
  unfold World.cell? at h
  split at h
  ·simp at h
  ·cases h
theorem vw64_of {n : Nat} (h : (Lit.float .f64 n).wf = true) : n < 18446744073709551616 := by
 simpa [Lit.wf] using h
def vfcell : Value → Nat
 | .float .f64 n => n
 | _ => 0
open Go.ChangeShapes Go.WideShapes Go.ChangeAt Go.RowKit Go.Joins Go.Deep
theorem five_of {α : Type} {cs : Array α} (h : cs.size = 5) : ∃ c0 c1 c2 c3 c4, cs = #[c0, c1, c2, c3, c4] := by
 obtain ⟨l⟩ := cs
 match l, h with
 | [c0, c1, c2, c3, c4], _ => exact ⟨c0, c1, c2, c3, c4, rfl⟩
theorem trod_five {H : Type} {P : Program} {enc : TypeId × Value → H} {w : World} {base : Nat} {spare : Nat → Bool} {held : Bool} {t : TypeId} {f0 f1 f2 f3 f4 : Field} {fuel : Nat} {cs : List Value} {x : DataW H × List MemPlace} (ht : P.underlying t = some (.struct #[f0, f1, f2, f3, f4])) (h : DataW.trod enc P w base spare held fuel t cs = some x) :
  ∃ y0 y1 y2 y3 y4 n, x = (.agg [y0.1, y1.1, y2.1, y3.1, y4.1], y0.2 ++ (y1.2 ++ (y2.2 ++ (y3.2 ++ y4.2)))) ∧ DataW.trod enc P w base spare held n f0.type ((cs.drop f0.offset).take (P.cellsOf f0.type)) = some y0 ∧
   DataW.trod enc P w base spare held n f1.type ((cs.drop f1.offset).take (P.cellsOf f1.type)) = some y1 ∧ DataW.trod enc P w base spare held n f2.type ((cs.drop f2.offset).take (P.cellsOf f2.type)) = some y2 ∧
   DataW.trod enc P w base spare held n f3.type ((cs.drop f3.offset).take (P.cellsOf f3.type)) = some y3 ∧ DataW.trod enc P w base spare held n f4.type ((cs.drop f4.offset).take (P.cellsOf f4.type)) = some y4 := by
 obtain ⟨xs, n, _, rfl, _, hlen, hf⟩ := DataW.trod_struct ht h
 match xs, hlen with
 | [y0, y1, y2, y3, y4], _ => exact ⟨y0, y1, y2, y3, y4, n, by simp, by simpa using hf 0 f0 rfl, by simpa using hf 1 f1 rfl, by simpa using hf 2 f2 rfl, by simpa using hf 3 f3 rfl, by simpa using hf 4 f4 rfl⟩
theorem open_five {H : Type} {P : Program} {enc : TypeId × Value → H} {w : World} {base : Nat} {spare : Nat → Bool} {held : Bool} {r : Reach} {b0 : Nat} {t : TypeId} {f0 f1 f2 f3 f4 : Field} {v : Value} {d : DataW H} {p : List MemPlace} (hs : P.underlying t = some (.struct #[f0, f1, f2, f3, f4])) (hone : oneCellFields P #[f0, f1, f2, f3, f4] = true) (hC : P.cellsOf t = 5)
  (hv : Value.okWide P w r b0 t v) (h : DataW.Trod enc P w base spare held t v d p) :
  ∃ (v0 v1 v2 v3 v4 : Value) (y0 y1 y2 y3 y4 : DataW H × List MemPlace) (n : Nat), v = .agg #[v0, v1, v2, v3, v4] ∧ d = .agg [y0.1, y1.1, y2.1, y3.1, y4.1] ∧ p = y0.2 ++ (y1.2 ++ (y2.2 ++ (y3.2 ++ y4.2))) ∧
   DataW.trod enc P w base spare held n f0.type [v0] = some y0 ∧ DataW.trod enc P w base spare held n f1.type [v1] = some y1 ∧ DataW.trod enc P w base spare held n f2.type [v2] = some y2 ∧ DataW.trod enc P w base spare held n f3.type [v3] = some y3 ∧ DataW.trod enc P w base spare held n f4.type [v4] = some y4 := by
 obtain ⟨cs, rfl, hsz⟩ := okWide_struct hs hv
 obtain ⟨c0, c1, c2, c3, c4, rfl⟩ := five_of (hsz.trans hC)
 obtain ⟨fuel, hf⟩ := h
 obtain ⟨y0, y1, y2, y3, y4, n, hx, h0, h1, h2, h3, h4⟩ := trod_five hs hf
 obtain ⟨o0, k0⟩ := hone_of hone 0 f0 rfl
 obtain ⟨o1, k1⟩ := hone_of hone 1 f1 rfl
 obtain ⟨o2, k2⟩ := hone_of hone 2 f2 rfl
 obtain ⟨o3, k3⟩ := hone_of hone 3 f3 rfl
 obtain ⟨o4, k4⟩ := hone_of hone 4 f4 rfl
 simp only [Prod.mk.injEq] at hx
 exact ⟨c0, c1, c2, c3, c4, y0, y1, y2, y3, y4, n, rfl, hx.1, hx.2, by simpa [Value.cells, o0, k0] using h0, by simpa [Value.cells, o1, k1] using h1, by simpa [Value.cells, o2, k2] using h2, by simpa [Value.cells, o3, k3] using h3, by simpa [Value.cells, o4, k4] using h4⟩
set_option maxRecDepth 100000 in
theorem send_cell {H : Type} {enc : TypeId × Value → H} {w : World} {base : Nat} {spare : Nat → Bool} {held : Bool} {fuel : Nat} {v : Value} {y : DataW H × List MemPlace} (h : DataW.trod enc Tryz.prog w base spare held fuel 3 [v] = some y) :
  ∃ n, v = .int .i64 n ∧ (Lit.int .i64 n).wf = true := by
 have hu := Tryz.underlying3
 generalize Tryz.prog = P at h hu
 generalize 3 = t at h hu
 cases fuel with
 | zero => simp [DataW.trod] at h
 | succ m =>
  unfold DataW.trod at h
  rw [hu] at h
  split at h <;> simp_all
theorem si64_of {n : Int} (h : (Lit.int .i64 n).wf = true) : -9223372036854775808 ≤ n ∧ n ≤ 9223372036854775807 := by
 simpa [Lit.wf, IntKind.min, IntKind.max, IntKind.signed, IntKind.bits] using h
def sicell : Value → Int
 | .int .i64 n => n
 | _ => 0
set_option maxRecDepth 100000 in
theorem ints_trod {H : Type} {enc : TypeId × Value → H} {w : World} {base fuel : Nat} {held : Bool} {v : Value} {d : DataW H} {p : List MemPlace}
  (hf : DataW.trod enc Tryz.prog w base (fun _ => true) held fuel 22 [v] = some (d, p)) :
  ∃ (l : List Int) (ao : Option Addr) (cap : Nat), v = .slice ao l.length cap ∧ IsRow w ao l ∧ I64s l ∧ l.length ≤ cap ∧ ((d.weights Tryz.prog 22).all (· ≤ reachBytes) = true → cap ≤ 17592186044416) := by
 rcases Go.Deep.open_slice1 Tryz.underlying22 (by kernel_rfl) hf with ⟨e1, e2⟩ | ⟨a, len0, cap0, m, n, V, D, Pl, e1, _, hl, _, hm, e2, hx⟩
 ·simp only [List.cons.injEq, and_true] at e1
  subst e1
  exact ⟨[], none, 0, rfl, Or.inl rfl, fun x hx => by simp at hx, Nat.le_refl _, fun _ => by omega⟩
 ·simp only [List.cons.injEq, and_true] at e1
  subst e1
  simp only [if_true] at hm
  subst hm
  obtain ⟨f, hfV⟩ : ∃ f : Nat → Int, ∀ i, i < m → V i = .int .i64 (f i) ∧ (-9223372036854775808 ≤ f i ∧ f i ≤ 9223372036854775807) := by
   refine ⟨fun i => sicell (V i), fun i hi => ?_⟩
   obtain ⟨x, hx1, hx3⟩ := send_cell (hx i hi).2
   show V i = .int .i64 (sicell (V i)) ∧ (-9223372036854775808 ≤ sicell (V i) ∧ sicell (V i) ≤ 9223372036854775807)
   rw [hx1]
   exact ⟨rfl, si64_of hx3⟩
  have hlen : ((List.range len0).map f).length = len0 := by simp
  have hget : ∀ j, j < len0 → ((List.range len0).map f).getD j 0 = f j := fun j hj => by simp [List.getD_eq_getElem?_getD, hj]
  refine ⟨(List.range len0).map f, some a, m, by rw [hlen], ?_, ?_, by rw [hlen]; exact hl, ?_⟩
  ·rcases Nat.eq_zero_or_pos len0 with h0 | h0
   ·exact Or.inl (hlen.trans h0)
   ·have ha : a = ⟨a.block, a.off, none⟩ := by
     have h := vspot (hx 0 (by omega)).1
     simpa [Addr.add] using h
    refine Or.inr ⟨a.block, a.off, congrArg some ha, fun j hj => ?_⟩
    rw [hlen] at hj
    have hadd : a.add j = ⟨a.block, a.off + j, none⟩ := by
     unfold Addr.add
     split
     ·subst j; exact ha
     ·rfl
    have hcj := (hx j (by omega)).1
    rw [hadd] at hcj
    rw [hcj, (hfV j (by omega)).1, hget j hj]
  ·intro x hx
   obtain ⟨y, hy, rfl⟩ := List.mem_map.1 hx
   exact (hfV y (by have := List.mem_range.1 hy; omega)).2
  ·intro hh
   have hb : Tryz.prog.bytesOf 3 = 8 := by kernel_rfl
   obtain ⟨rfl, _⟩ := Prod.mk.inj e2
   simp only [DataW.weights, Tryz.underlying22, hb, List.all_cons, Bool.and_eq_true, List.length_map, List.length_range, reachBytes] at hh
   have h8 := of_decide_eq_true hh.1
   omega
set_option maxRecDepth 100000 in
theorem floats_trod {H : Type} {enc : TypeId × Value → H} {w : World} {base fuel : Nat} {held : Bool} {v : Value} {d : DataW H} {p : List MemPlace}
  (hf : DataW.trod enc Tryz.prog w base (fun _ => true) held fuel 23 [v] = some (d, p)) :
  ∃ (l : List Nat) (ao : Option Addr) (cap : Nat), v = .slice ao l.length cap ∧ FsRow w ao l ∧ F64s l ∧ l.length ≤ cap ∧ ((d.weights Tryz.prog 23).all (· ≤ reachBytes) = true → cap ≤ 17592186044416) := by
 rcases Go.Deep.open_slice1 Tryz.underlying23 (by kernel_rfl) hf with ⟨e1, e2⟩ | ⟨a, len0, cap0, m, n, V, D, Pl, e1, _, hl, _, hm, e2, hx⟩
 ·simp only [List.cons.injEq, and_true] at e1
  subst e1
  exact ⟨[], none, 0, rfl, Or.inl rfl, fun x hx => by simp at hx, Nat.le_refl _, fun _ => by omega⟩
 ·simp only [List.cons.injEq, and_true] at e1
  subst e1
  simp only [if_true] at hm
  subst hm
  obtain ⟨f, hfV⟩ : ∃ f : Nat → Nat, ∀ i, i < m → V i = .float .f64 (f i) ∧ f i < 18446744073709551616 := by
   refine ⟨fun i => vfcell (V i), fun i hi => ?_⟩
   obtain ⟨x, hx1, _, hx3⟩ := vend_cell (hx i hi).2
   show V i = .float .f64 (vfcell (V i)) ∧ vfcell (V i) < 18446744073709551616
   rw [hx1]
   exact ⟨rfl, vw64_of hx3⟩
  have hlen : ((List.range len0).map f).length = len0 := by simp
  have hget : ∀ j, j < len0 → ((List.range len0).map f).getD j 0 = f j := fun j hj => by simp [List.getD_eq_getElem?_getD, hj]
  refine ⟨(List.range len0).map f, some a, m, by rw [hlen], ?_, ?_, by rw [hlen]; exact hl, ?_⟩
  ·rcases Nat.eq_zero_or_pos len0 with h0 | h0
   ·exact Or.inl (hlen.trans h0)
   ·have ha : a = ⟨a.block, a.off, none⟩ := by
     have h := vspot (hx 0 (by omega)).1
     simpa [Addr.add] using h
    refine Or.inr ⟨a.block, a.off, congrArg some ha, fun j hj => ?_⟩
    rw [hlen] at hj
    have hadd : a.add j = ⟨a.block, a.off + j, none⟩ := by
     unfold Addr.add
     split
     ·subst j; exact ha
     ·rfl
    have hcj := (hx j (by omega)).1
    rw [hadd] at hcj
    rw [hcj, (hfV j (by omega)).1, hget j hj]
  ·intro x hx
   obtain ⟨y, hy, rfl⟩ := List.mem_map.1 hx
   exact (hfV y (by have := List.mem_range.1 hy; omega)).2
  ·intro hh
   have hb : Tryz.prog.bytesOf 36 = 8 := by kernel_rfl
   obtain ⟨rfl, _⟩ := Prod.mk.inj e2
   simp only [DataW.weights, Tryz.underlying23, hb, List.all_cons, Bool.and_eq_true, List.length_map, List.length_range, reachBytes] at hh
   have h8 := of_decide_eq_true hh.1
   omega
set_option maxRecDepth 100000 in
theorem cSketch : Tryz.prog.cellsOf 25 = 5 := by kernel_rfl
structure SkOp (w : World) (v : Value) (A F M : List Int) (R : List Nat) (n : Int) (aa fa ma na : Option Addr) (ac fc mc nc : Nat) : Prop where
 e : v = .agg #[.int .i64 n, .slice aa A.length ac, .slice fa F.length fc, .slice ma M.length mc, .slice na R.length nc]
 a : IsRow w aa A
 f : IsRow w fa F
 m : IsRow w ma M
 r : FsRow w na R
 wa : I64s A
 wf : I64s F
 wm : I64s M
 wr : F64s R
set_option maxRecDepth 100000 in
theorem open_sketch {H : Type} {enc : TypeId × Value → H} {w : World} {base : Nat} {held : Bool} {r : Reach} {b0 : Nat} {v : Value} {d : DataW H} {p : List MemPlace}
  (hv : Value.okWide Tryz.prog w r b0 25 v) (h : DataW.Trod enc Tryz.prog w base (fun _ => true) held 25 v d p) :
  ∃ (A F M : List Int) (R : List Nat) (n : Int) (aa fa ma na : Option Addr) (ac fc mc nc : Nat), SkOp w v A F M R n aa fa ma na ac fc mc nc ∧
   ((d.weights Tryz.prog 25).all (· ≤ reachBytes) = true → A.length ≤ 17592186044416 ∧ F.length ≤ 17592186044416 ∧ M.length ≤ 17592186044416 ∧ R.length ≤ 17592186044416) := by
 obtain ⟨v0, v1, v2, v3, v4, y0, y1, y2, y3, y4, k, rfl, rfl, rfl, h0, h1, h2, h3, h4⟩ := open_five Tryz.underlying25 (by kernel_rfl) cSketch hv h
 obtain ⟨n, rfl, _⟩ := send_cell h0
 obtain ⟨A, aa, ac, rfl, a1, a2, a3, a4⟩ := ints_trod (d := y1.1) (p := y1.2) h1
 obtain ⟨F, fa, fc, rfl, f1, f2, f3, f4⟩ := ints_trod (d := y2.1) (p := y2.2) h2
 obtain ⟨M, ma, mc, rfl, m1, m2, m3, m4⟩ := ints_trod (d := y3.1) (p := y3.2) h3
 obtain ⟨R, na, nc, rfl, r1, r2, r3, r4⟩ := floats_trod (d := y4.1) (p := y4.2) h4
 refine ⟨A, F, M, R, n, aa, fa, ma, na, ac, fc, mc, nc, ⟨rfl, a1, f1, m1, r1, a2, f2, m2, r2⟩, fun hh => ?_⟩
 simp [DataW.weights, DataW.weightsEach, Tryz.underlying25] at hh
 obtain ⟨_, q1, q2, q3, q4⟩ := hh
 have g1 := a4 (List.all_eq_true.2 fun x hx => by simpa using q1 x hx)
 have g2 := f4 (List.all_eq_true.2 fun x hx => by simpa using q2 x hx)
 have g3 := m4 (List.all_eq_true.2 fun x hx => by simpa using q3 x hx)
 have g4 := r4 (List.all_eq_true.2 fun x hx => by simpa using q4 x hx)
 omega
end Go.Proofs.YtfipmopmpacdaaaGreatDoor
