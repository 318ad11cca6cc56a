/- What the law's true2 answers. (Written by mkbar45.py.) -/
import Derived.Test.YtfipmopmpacdaaaGreatDoorK2
import Derived.Test.YtfipmopmpacdaaaGreatDoorY6
import Derived.Test.YtfipmopmpacdaaaGreatDoorBF
import Derived.Test.YtfipmopmpacdaaaGreatDoorZR
import Derived.Test.YtfipmopmpacdaaaGreatDoorBA
namespace Go.Proofs.YtfipmopmpacdaaaGreatDoor
open Go.RowKit
structure D3 (w : World) (b : Nat) (x y z : Value) : Prop where
 c0 : w.cell? ⟨b, 0, none⟩ = some x
 c1 : w.cell? ⟨b, 1, none⟩ = some y
 c2 : w.cell? ⟨b, 2, none⟩ = some z
 f0 : w.frozen? ⟨b, 0, none⟩ = false
 f1 : w.frozen? ⟨b, 1, none⟩ = false
 f2 : w.frozen? ⟨b, 2, none⟩ = false
 no : ∀ k, 3 ≤ k → w.cell? ⟨b, k, none⟩ = none
 lt : b < w.heap.size
theorem D3.new (w : World) (x y z : Value) (t : TypeId) : D3 (w.alloc (.cells #[x, y, z] t)) w.heap.size x y z := by
 refine ⟨by go_simp, by go_simp, by go_simp, by go_simp, by go_simp, by go_simp, fun k hk => ?_, by simp⟩
 have : ¬ k < 3 := by omega
 simp [go_sem, this]
theorem D3.below {w w' : World} {b : Nat} {x y z : Value} (h : D3 w b x y z) (hb : Below w.heap.size w w') : D3 w' b x y z :=
 ⟨(hb.cell (p := ⟨b, 0, none⟩) h.lt).trans h.c0, (hb.cell (p := ⟨b, 1, none⟩) h.lt).trans h.c1, (hb.cell (p := ⟨b, 2, none⟩) h.lt).trans h.c2, (hb.frozen (p := ⟨b, 0, none⟩) h.lt).trans h.f0, (hb.frozen (p := ⟨b, 1, none⟩) h.lt).trans h.f1, (hb.frozen (p := ⟨b, 2, none⟩) h.lt).trans h.f2, fun k hk => (hb.cell (p := ⟨b, k, none⟩) h.lt).trans (h.no k hk), Nat.lt_of_lt_of_le h.lt hb.size⟩
abbrev set3 (w : World) (g : Nat) (a b c : Value) : World := ((w.setCell ⟨g, 0, none⟩ a).setCell ⟨g, 1, none⟩ b).setCell ⟨g, 2, none⟩ c
theorem D3.fill {w : World} {g : Nat} {x y z : Value} (h : D3 w g x y z) (a b c : Value) : D3 (set3 w g a b c) g a b c := by
 obtain ⟨c0, c1, c2, f0, f1, f2, no, lt⟩ := h
 refine ⟨by go_simp, by go_simp, by go_simp, by go_simp, by go_simp, by go_simp, fun k hk => ?_, by simpa [World.setCell] using lt⟩
 have := no k hk
 simp [go_sem, this]
theorem D3.far1 {w : World} {b g : Nat} {x y z : Value} (h : D3 w b x y z) (hn : b ≠ g) {i : Nat} (a : Value) : D3 (w.setCell ⟨g, i, none⟩ a) b x y z := by
 obtain ⟨c0, c1, c2, f0, f1, f2, no, lt⟩ := h
 refine ⟨by simp [go_sem, c0], by simp [go_sem, c1], by simp [go_sem, c2], by simp [go_sem, f0], by simp [go_sem, f1], by simp [go_sem, f2], fun k hk => ?_, by simpa [World.setCell] using lt⟩
 have := no k hk
 simp [go_sem, this]
theorem D3.far {w : World} {b g : Nat} {x y z : Value} (h : D3 w b x y z) (hn : b ≠ g) (p q r : Value) : D3 (set3 w g p q r) b x y z := ((h.far1 hn (i := 0) p).far1 hn (i := 1) q).far1 hn (i := 2) r
theorem below_set3 {B : Nat} {w w' : World} (h : Below B w w') {g : Nat} (hg : B ≤ g) (a b c : Value) : Below B w (set3 w' g a b c) :=
 ((h.setCell (p := ⟨g, 0, none⟩) hg _).setCell (p := ⟨g, 1, none⟩) hg _).setCell (p := ⟨g, 2, none⟩) hg _
theorem NS.set3 {w : World} {ao : Option Addr} {cap : Nat} {xs : List Nat} (h : NS w ao cap xs) {g : Nat} {x : Bool} {y0 : Option Addr} {y1 y2 : Nat} {z : Int} (hB : D3 w g (.bool x) (.slice y0 y1 y2) (.int .i64 z)) (a b c : Value) : NS (set3 w g a b c) ao cap xs := by
 refine ⟨?_, h.2⟩
 rcases h.1 with e | ⟨q, off, rfl, hc⟩
 ·exact Or.inl e
 ·by_cases l0 : xs.length = 0
  ·exact Or.inl l0
  ·have hq : q ≠ g := fun k => by
    subst k
    have cc := hc 0 (by omega)
    rw [Nat.add_zero] at cc
    rcases (show off = 0 ∨ off = 1 ∨ off = 2 ∨ 3 ≤ off by omega) with rfl | rfl | rfl | h2
    ·rw [hB.c0] at cc; cases cc
    ·rw [hB.c1] at cc; cases cc
    ·rw [hB.c2] at cc; cases cc
    ·rw [hB.no off h2] at cc; cases cc
   refine Or.inr ⟨q, off, rfl, fun j hj => ?_⟩
   unfold Go.Proofs.YtfipmopmpacdaaaGreatDoor.set3
   rw [World.cell?_setCell_other _ _ _ _ (fun e => by have := congrArg Addr.block e; simp at this; omega), World.cell?_setCell_other _ _ _ _ (fun e => by have := congrArg Addr.block e; simp at this; omega), World.cell?_setCell_other _ _ _ _ (fun e => by have := congrArg Addr.block e; simp at this; omega)]
   exact hc j hj
def DyV (d : Dy) (a : World) (x : Value) : Prop := ∃ ao ac, x = .agg #[.bool d.neg, .slice ao d.mag.length ac, .int .i64 d.exp] ∧ NS a ao ac d.mag
theorem DyV.below {d : Dy} {a a' : World} {x : Value} (h : DyV d a x) (hb : Below a.heap.size a a') : DyV d a' x := by
 obtain ⟨ao, ac, e, u⟩ := h
 exact ⟨ao, ac, e, u.below hb⟩
def DyB (d : Dy) (a : World) (b : Nat) : Prop := ∃ ao ac, D3 a b (.bool d.neg) (.slice ao d.mag.length ac) (.int .i64 d.exp) ∧ NS a ao ac d.mag
theorem DyB.below {d : Dy} {a a' : World} {b : Nat} (h : DyB d a b) (hb : Below a.heap.size a a') : DyB d a' b := by
 obtain ⟨ao, ac, e, u⟩ := h
 exact ⟨ao, ac, e.below hb, u.below hb⟩
theorem DyB.lt {d : Dy} {a : World} {b : Nat} (h : DyB d a b) : b < a.heap.size := by
 obtain ⟨ao, ac, e, u⟩ := h
 exact e.lt
def dN0 : Dy := ⟨false, [], 0⟩
theorem DyB.new (w : World) (t : TypeId) : DyB dN0 (w.alloc (.cells #[.bool false, .slice none 0 0, .int .i64 0] t)) w.heap.size := ⟨none, 0, D3.new _ _ _ _ _, NS.nil _⟩
theorem DyB.fill {d e : Dy} {a : World} {g : Nat} {ao : Option Addr} {ac : Nat} (h : DyB d a g) (hv : NS a ao ac e.mag) : DyB e (set3 a g (.bool e.neg) (.slice ao e.mag.length ac) (.int .i64 e.exp)) g := by
 obtain ⟨bo, bc, h1, h2⟩ := h
 exact ⟨ao, ac, h1.fill _ _ _, hv.set3 h1 _ _ _⟩
theorem DyB.far {d e : Dy} {a : World} {b g : Nat} (h : DyB d a b) (hg : DyB e a g) (hn : b ≠ g) (p q r : Value) : DyB d (set3 a g p q r) b := by
 obtain ⟨ao, ac, h1, h2⟩ := h
 obtain ⟨bo, bc, g1, g2⟩ := hg
 exact ⟨ao, ac, h1.far hn _ _ _, h2.set3 g1 _ _ _⟩
theorem DyV.far {d e : Dy} {a : World} {x : Value} {g : Nat} (h : DyV d a x) (hg : DyB e a g) (p q r : Value) : DyV d (set3 a g p q r) x := by
 obtain ⟨ao, ac, h1, h2⟩ := h
 obtain ⟨bo, bc, g1, g2⟩ := hg
 exact ⟨ao, ac, h1, h2.set3 g1 _ _ _⟩
def DRow (l : List Dy) (a : World) (b : Nat) : Prop := ∀ k, k < l.length → ∃ ao ac, a.cell? ⟨b, k * 3, none⟩ = some (.bool (l.getD k dN0).neg) ∧ a.cell? ⟨b, k * 3 + 1, none⟩ = some (.slice ao (l.getD k dN0).mag.length ac) ∧ a.cell? ⟨b, k * 3 + 2, none⟩ = some (.int .i64 (l.getD k dN0).exp) ∧ NS a ao ac (l.getD k dN0).mag ∧ b < a.heap.size
theorem DRow.below {l : List Dy} {a a' : World} {b : Nat} (h : DRow l a b) (hb : Below a.heap.size a a') : DRow l a' b := fun k hk => by
 obtain ⟨ao, ac, h0, h1, h2, h3, h4⟩ := h k hk
 exact ⟨ao, ac, (hb.cell (p := ⟨b, k * 3, none⟩) h4).trans h0, (hb.cell (p := ⟨b, k * 3 + 1, none⟩) h4).trans h1, (hb.cell (p := ⟨b, k * 3 + 2, none⟩) h4).trans h2, h3.below hb, Nat.lt_of_lt_of_le h4 hb.size⟩
def GvY (w : World) (d : Dy) (e : Ending) (w' : World) : Prop := ∃ ao ac, e = .returned (.agg #[.bool d.neg, .slice ao d.mag.length ac, .int .i64 d.exp]) ∧ NS w' ao ac d.mag ∧ Below w.heap.size w w'
theorem GaveM.gv {w : World} {d : Dy} {e : Ending} {w' : World} (h : GaveM w d e w') : GvY w d e w' := by
 obtain ⟨ao, ac, h1, h2, _, h3⟩ := h
 exact ⟨ao, ac, h1, h2, h3⟩
def mulY (x y : Dy) : Dy := ⟨x.neg != y.neg, lo (vl x.mag * vl y.mag), x.exp + y.exp⟩
def oneY : Dy := ⟨false, lo 1, 0⟩
def prodD (l : List Dy) : Dy := l.foldl mulY oneY
theorem prodD_snoc (l : List Dy) {k : Nat} (hk : k < l.length) : prodD (l.take (k + 1)) = mulY (prodD (l.take k)) (l.getD k dN0) := by
 have e : l.take (k + 1) = l.take k ++ [l.getD k dN0] := by
  rw [show l.getD k dN0 = l[k] by simp [List.getD, hk]]
  exact (List.take_append_getElem hk).symm
 unfold prodD
 rw [e, List.foldl_append]
 rfl
structure SzD (d : Dy) (n : Nat) (e : Int) : Prop where
 lm : Lm d.mag
 len : d.mag.length ≤ n
 lo : -e ≤ d.exp
 hi : d.exp ≤ e
theorem SzD.mono {d : Dy} {n m : Nat} {e f : Int} (h : SzD d n e) (hn : n ≤ m) (he : e ≤ f) : SzD d m f := ⟨h.lm, Nat.le_trans h.len hn, Int.le_trans (Int.neg_le_neg he) h.lo, Int.le_trans h.hi he⟩
theorem lo_mul_le {x y : List Nat} (hx : Lm x) (hy : Lm y) : (lo (vl x * vl y)).length ≤ x.length + y.length := by
 rw [lo_length]
 refine nl_le ?_
 rw [Nat.mul_add, Nat.pow_add]
 exact Nat.mul_lt_mul'' (vl_lt hx) (vl_lt hy)
theorem SzD.mul {x y : Dy} {n m : Nat} {e f : Int} (h : SzD x n e) (g : SzD y m f) : SzD (mulY x y) (n + m) (e + f) := by
 obtain ⟨h1, h2, h3, h4⟩ := h
 obtain ⟨g1, g2, g3, g4⟩ := g
 refine ⟨lo_lm _, Nat.le_trans (lo_mul_le h1 g1) (by omega), ?_, ?_⟩ <;> simp only [mulY] <;> omega
theorem one_sz : SzD oneY 1 0 := ⟨lo_lm _, by unfold oneY; rw [lo_length]; exact nl_le (by decide), by decide, by decide⟩
theorem prod_sz {l : List Dy} {n : Nat} {e : Int} (h : ∀ d ∈ l, SzD d n e) : SzD (prodD l) (1 + l.length * n) (l.length * e) := by
 have key : ∀ (l : List Dy) (x : Dy) (m : Nat) (f : Int), SzD x m f → (∀ d ∈ l, SzD d n e) → SzD (l.foldl mulY x) (m + l.length * n) (f + l.length * e) := by
  intro l
  induction l with
  | nil => intro x m f hx _; simpa using hx
  | cons d t ih =>
   intro x m f hx hl
   have := ih (mulY x d) _ _ (hx.mul (hl d (by simp))) (fun y hy => hl y (by simp [hy]))
   simp only [List.foldl_cons]
   refine this.mono ?_ ?_
   ·simp only [List.length_cons, Nat.succ_mul]; omega
   ·simp only [List.length_cons]; rw [show ((t.length + 1 : Nat) : Int) = (t.length : Int) + 1 by omega, Int.add_mul]; omega
 have := key l oneY 1 0 one_sz h
 exact this.mono (Nat.le_refl _) (by omega)
structure NuY (d : Dy) (k V : Nat) : Prop where
 neg : d.neg = false
 lo : -(k : Int) ≤ d.exp
 v : vl d.mag * 2 ^ (d.exp + k).toNat = V
theorem NuY.mul {x y : Dy} {k m A B : Nat} (h : NuY x k A) (g : NuY y m B) : NuY (mulY x y) (k + m) (A * B) := by
 obtain ⟨h1, h2, h3⟩ := h
 obtain ⟨g1, g2, g3⟩ := g
 refine ⟨by simp [mulY, h1, g1], by simp only [mulY]; omega, ?_⟩
 simp only [mulY, vl_lo]
 rw [← h3, ← g3, show (x.exp + y.exp + ((k + m : Nat) : Int)).toNat = (x.exp + k).toNat + (y.exp + m).toNat by omega, Nat.pow_add]
 ac_rfl
theorem NuY.one : NuY oneY 0 1 := ⟨rfl, by decide, by simp [oneY, vl_lo]⟩
theorem NuY.whole (n : Nat) : NuY ⟨decide ((n : Int) < 0), Go.Proofs.YtfipmopmpacdaaaGreatDoor.lo (n : Int).natAbs, 0⟩ 0 n := ⟨by simp, by simp, by simp [vl_lo]⟩
theorem NuY.up {d : Dy} {k V : Nat} (h : NuY d k V) (m : Nat) : NuY d (k + m) (V * 2 ^ m) := by
 obtain ⟨h1, h2, h3⟩ := h
 refine ⟨h1, by omega, ?_⟩
 rw [← h3, show (d.exp + ((k + m : Nat) : Int)).toNat = (d.exp + k).toNat + m by omega, Nat.pow_add]
 ac_rfl
def fY (x : Nat) : Dy := ⟨sgn x, lo (spF x), spE x⟩
set_option maxRecDepth 100000 in
set_option maxHeartbeats 2000000 in
theorem flY_any (x : Nat) (hx : x < 18446744073709551616) (hf : finB x = true) (w : World) : Calls Tryz.prog 20 #[.float .f64 x] w (GvY w (fY x)) := by
 unfold fY GvY
 simp only
 have cS := fun W => rsplit_fin x hx hf W
 have bF : spF x < 18446744073709551616 := by
  by_cases h0 : rung x = 0
  ·unfold spF; rw [if_pos h0]; omega
  ·have := (sp_bd hf h0).2.1; omega
 generalize sgn x = s at *
 generalize spF x = F at *
 generalize spE x = E at *
 have hN := fun W => natOf_any F bF W
 have OB := D3.new w (.bool false) (.slice none 0 0) (.int .i64 0) 49
 have hb0 : Below w.heap.size w (w.alloc (.cells #[.bool false, .slice none 0 0, .int .i64 0] 49)) := (Below.refl _ _).alloc (Nat.le_refl _) _
 go_enter Tryz.func20, Tryz.ntmps20
 go_upto_region 1 with fail
 generalize w.alloc (.cells #[.bool false, .slice none 0 0, .int .i64 0] 49) = W0 at *
 go_upto_region 2 with (go_at_call 39; refine (cS _).mono ?_; rintro e w1 ⟨rfl, b1⟩)
 have b2 := (Below.refl w1.heap.size w1).alloc (Nat.le_refl _) (.cells #[.bool s, .int .u64 F, .int .i64 E] 96)
 have hb2 := hb0.trans ((b1.trans (b2.mono b1.size)).mono hb0.size)
 have OB2 := (OB.below b1).below b2
 have PB := D3.new w1 (.bool s) (.int .u64 F) (.int .i64 E) 96
 generalize w1.alloc (.cells #[.bool s, .int .u64 F, .int .i64 E] 96) = W2 at *
 generalize w1.heap.size = g at *
 clear OB hb0 b1 b2 cS
 obtain ⟨x0, x1, x2, _, _, _, _, xlt⟩ := id PB
 obtain ⟨FL, hFL⟩ : ∃ f : Nat → Lz, f = (fun j => match j with | 0 => .is (.pointer (some ⟨g, 0, none⟩)) | 1 => .is (.bool s) | 2 => .is (.pointer (some ⟨g, 1, none⟩)) | 3 => .is (.int .u64 F) | 4 => .gn (fun a x => ∃ ao ac, x = .slice ao (lo F).length ac ∧ NS a ao ac (lo F)) (fun a a' x h hb => h.elim fun ao h => h.elim fun ac h => ⟨ao, ac, h.1, h.2.below hb⟩) | 5 => .is (.pointer (some ⟨g, 2, none⟩)) | 6 => .is (.int .i64 E) | 7 => .gn (fun a x => ∃ ao ac, x = .agg #[.bool s, .slice ao (lo F).length ac, .int .i64 E] ∧ NS a ao ac (lo F)) (fun a a' x h hb => h.elim fun ao h => h.elim fun ac h => ⟨ao, ac, h.1, h.2.below hb⟩) | 8 => .tr | _ => .tr) := ⟨_, rfl⟩
 have F0 := congrFun hFL 0
 have F1 := congrFun hFL 1
 have F2 := congrFun hFL 2
 have F3 := congrFun hFL 3
 have F4 := congrFun hFL 4
 have F5 := congrFun hFL 5
 have F6 := congrFun hFL 6
 have F7 := congrFun hFL 7
 have F8 := congrFun hFL 8
 simp only at F0 F1 F2 F3 F4 F5 F6 F7 F8
 clear hFL
 refine region_rgU (by kernel_rfl) (fun v => ⟨#[.float .f64 x, undef, .pointer (some ⟨w.heap.size, 0, none⟩), .pointer (some ⟨g, 0, none⟩), .bool true, .tuple #[.agg #[.bool s, .int .u64 ↑F, .int .i64 E], .bool true], .float .f64 x, .tuple #[.agg #[.bool s, .int .u64 ↑F, .int .i64 E], .bool true], .agg #[.bool s, .int .u64 ↑F, .int .i64 E], .bool true, v 0, v 1, v 2, v 3, v 4, v 5, v 6, v 7], []⟩) 8 (fun j => decide (j ≠ 8)) FL (fun a => ∃ ro rc, D3 a w.heap.size (.bool s) (.slice ro (lo F).length rc) (.int .i64 E) ∧ NS a ro rc (lo F) ∧ Below w.heap.size w a) (fun j => match j with  | _ => undef) rfl ?_ ?_
 ·intro L v w' i hL hS hi
  obtain ⟨hr1, hr2, hr3⟩ := mem_ready hi
  have hr1 : i < 9 := hr1
  try dsimp only
  have hcs : i = 0 ∨ i = 1 ∨ i = 2 ∨ i = 3 ∨ i = 4 ∨ i = 5 ∨ i = 6 ∨ i = 7 ∨ i = 8 := by omega
  clear hr1 hr2 hr3
  rcases hcs with rfl | rfl | rfl | rfl | rfl | rfl | rfl | rfl | rfl
  ·have hns := hS.open hL hi rfl
   have hB := hS.a hns
   refine wpOpT_of (fun K hK => ?_)
   unfold wpOp
   go_simp
   refine Or.inl ?_
   exact hK _ _ ⟨putT v 0 (.pointer (some ⟨g, 0, none⟩)), (by simp [putT]), hS.step hL hi rfl (by decide) (Below.refl _ _) (Lz.toIs F0)⟩
  ·have hns := hS.open hL hi rfl
   have hB := hS.a hns
   have e0 := Lz.ofIs (hS.f hns 0 rfl (ready_dep hi 0 (by kernel_rfl))) F0
   have rx0 : w'.cell? ⟨g, 0, none⟩ = some _ := (hB.cell (p := ⟨g, 0, none⟩) xlt).trans x0
   refine wpOpT_of (fun K hK => ?_)
   unfold wpOp
   simp only [e0]
   go_simp
   refine Or.inl ?_
   exact hK _ _ ⟨putT v 1 (.bool s), (by simp [putT, e0]), hS.step hL hi rfl (by decide) (Below.refl _ _) (Lz.toIs F1)⟩
  ·have hns := hS.open hL hi rfl
   have hB := hS.a hns
   refine wpOpT_of (fun K hK => ?_)
   unfold wpOp
   go_simp
   refine Or.inl ?_
   exact hK _ _ ⟨putT v 2 (.pointer (some ⟨g, 1, none⟩)), (by simp [putT]), hS.step hL hi rfl (by decide) (Below.refl _ _) (Lz.toIs F2)⟩
  ·have hns := hS.open hL hi rfl
   have hB := hS.a hns
   have e2 := Lz.ofIs (hS.f hns 2 rfl (ready_dep hi 2 (by kernel_rfl))) F2
   have rx1 : w'.cell? ⟨g, 1, none⟩ = some _ := (hB.cell (p := ⟨g, 1, none⟩) xlt).trans x1
   refine wpOpT_of (fun K hK => ?_)
   unfold wpOp
   simp only [e2]
   go_simp
   refine Or.inl ?_
   exact hK _ _ ⟨putT v 3 (.int .u64 F), (by simp [putT, e2]), hS.step hL hi rfl (by decide) (Below.refl _ _) (Lz.toIs F3)⟩
  ·have hns := hS.open hL hi rfl
   have hB := hS.a hns
   have e3 := Lz.ofIs (hS.f hns 3 rfl (ready_dep hi 3 (by kernel_rfl))) F3
   refine wpOpT_of (fun K hK => ?_)
   unfold wpOp
   simp only [e3]
   go_simp
   refine Or.inl ?_
   go_at_call 37
   refine (hN _).mono ?_
   rintro e w1 ⟨ro, rc, rfl, kr, _, bc⟩
   exact hK _ _ ⟨putT v 4 (.slice ro (lo F).length rc), (by simp [putT, e3]), hS.step hL hi rfl (by decide) (bc) (Lz.toGn F4 (⟨_, _, rfl, kr⟩))⟩
  ·have hns := hS.open hL hi rfl
   have hB := hS.a hns
   refine wpOpT_of (fun K hK => ?_)
   unfold wpOp
   go_simp
   refine Or.inl ?_
   exact hK _ _ ⟨putT v 5 (.pointer (some ⟨g, 2, none⟩)), (by simp [putT]), hS.step hL hi rfl (by decide) (Below.refl _ _) (Lz.toIs F5)⟩
  ·have hns := hS.open hL hi rfl
   have hB := hS.a hns
   have e5 := Lz.ofIs (hS.f hns 5 rfl (ready_dep hi 5 (by kernel_rfl))) F5
   have rx2 : w'.cell? ⟨g, 2, none⟩ = some _ := (hB.cell (p := ⟨g, 2, none⟩) xlt).trans x2
   refine wpOpT_of (fun K hK => ?_)
   unfold wpOp
   simp only [e5]
   go_simp
   refine Or.inl ?_
   exact hK _ _ ⟨putT v 6 (.int .i64 E), (by simp [putT, e5]), hS.step hL hi rfl (by decide) (Below.refl _ _) (Lz.toIs F6)⟩
  ·have hns := hS.open hL hi rfl
   have hB := hS.a hns
   have e1 := Lz.ofIs (hS.f hns 1 rfl (ready_dep hi 1 (by kernel_rfl))) F1
   obtain ⟨ao_4, ac_4, e4, u4⟩ := Lz.ofGn (hS.f hns 4 rfl (ready_dep hi 4 (by kernel_rfl))) F4
   have e6 := Lz.ofIs (hS.f hns 6 rfl (ready_dep hi 6 (by kernel_rfl))) F6
   refine wpOpT_of (fun K hK => ?_)
   unfold wpOp
   simp only [e1, e4, e6]
   go_simp
   refine Or.inl ?_
   exact hK _ _ ⟨putT v 7 (.agg #[.bool s, .slice ao_4 (lo F).length ac_4, .int .i64 E]), (by simp [putT, e1, e4, e6]), hS.step hL hi rfl (by decide) (Below.refl _ _) (Lz.toGn F7 (⟨_, _, rfl, u4⟩))⟩
  ·have hns := fun q => offT_not (by rw [hL]; exact (mem_ready hi).1) (mem_ready hi).2.1 q
   have hB := hS.a hns
   obtain ⟨ao_7, ac_7, e7, u7⟩ := Lz.ofGn (hS.f hns 7 rfl (ready_dep hi 7 (by kernel_rfl))) F7
   have OB9 := OB2.below hB
   obtain ⟨p0, p1, p2, s0, s1, s2, _, _⟩ := id OB9
   have hb9 := hb2.trans (hB.mono hb2.size)
   refine wpOpT_of (fun K hK => ?_)
   unfold wpOp
   simp only [e7]
   go_simp
   refine Or.inl ?_
   exact hK _ _ ⟨putT v 8 undef, (by simp [putT, e7]), hS.last hL hi (by kernel_rfl) (⟨_, _, OB9.fill _ _ _, u7.set3 OB9 _ _ _, below_set3 hb9 (Nat.le_refl _) _ _ _⟩)⟩
 ·intro L v w' hL hS hr
  have on := all_done hL hr (by kernel_rfl)
  obtain ⟨ro, rc, G, G1, hb8⟩ := hS.z (on 8 (by decide))
  try dsimp only
  clear hS on hr
  obtain ⟨z0, z1, z2, _, _, _, _, _⟩ := id G
  go_wp2
  exact bodyPost_ret (v := .agg #[.bool s, .slice ro (lo F).length rc, .int .i64 E]) (by simp [results, Tryz.results20, go_sem, z0, z1, z2]) rfl ⟨ro, rc, rfl, G1, hb8⟩
set_option maxHeartbeats 2000000 in
theorem exactY_any (x : Nat) (hx : x < 18446744073709551616) (hf : finB x = true) (w : World) : Calls Tryz.prog 8 #[.float .f64 x] w (GvY w (fY x)) := by
 have cF := fun W => flY_any x hx hf W
 generalize fY x = D at *
 have OB := D3.new w (.bool false) (.slice none 0 0) (.int .i64 0) 49
 have hb0 : Below w.heap.size w (w.alloc (.cells #[.bool false, .slice none 0 0, .int .i64 0] 49)) := (Below.refl _ _).alloc (Nat.le_refl _) _
 go_enter Tryz.func8, Tryz.ntmps8
 go_upto_region 1 with fail
 generalize w.alloc (.cells #[.bool false, .slice none 0 0, .int .i64 0] 49) = W0 at *
 go_wp2_with (go_at_call 20; refine (cF _).mono ?_; rintro e w1 ⟨ao, ac, rfl, h1, b1⟩; have O1 := OB.below b1; obtain ⟨y0, y1, y2, i0, i1, i2, _, _⟩ := id O1)
 exact bodyPost_ret (v := .agg #[.bool D.neg, .slice ao D.mag.length ac, .int .i64 D.exp]) (by simp [results, Tryz.results8, go_sem, y0, y1, y2]) rfl ⟨ao, ac, rfl, h1.set3 O1 _ _ _, below_set3 (hb0.trans (b1.mono hb0.size)) (Nat.le_refl _) _ _ _⟩
set_option maxRecDepth 100000 in
set_option maxHeartbeats 4000000 in
theorem timesY_any (l : List Dy) (b cap : Nat) (w : World) (hr : DRow l w b) (hl : l.length ≤ 8) (hs : ∀ d ∈ l, SzD d 1000 20000) : Calls Tryz.prog 7 #[.slice (some ⟨b, 0, none⟩) l.length cap] w (GvY w (prodD l)) := by
 have cW := fun W => (whole_any 1 (by decide) (by decide) W)
 have eO : (⟨decide ((1 : Int) < 0), lo (1 : Int).natAbs, 0⟩ : Dy) = oneY := rfl
 rw [eO] at cW
 have HS : Hid (∀ k, k < l.length → prodD (l.take (k + 1)) = mulY (prodD (l.take k)) (l.getD k dN0)) := fun k hk => prodD_snoc l hk
 have HZ : Hid (∀ k, k ≤ l.length → SzD (prodD (l.take k)) 9000 160000) := fun k hk => (prod_sz (l := l.take k) (n := 1000) (e := 20000) (fun d hd => hs d (List.mem_of_mem_take hd))).mono (by rw [List.length_take]; omega) (by rw [List.length_take]; omega)
 have HD : Hid (∀ k, k < l.length → SzD (l.getD k dN0) 1000 20000) := fun k hk => hs _ (by rw [show l.getD k dN0 = l[k] by simp [List.getD, hk]]; exact List.getElem_mem hk)
 have HP : Hid (prodD (l.take 0) = oneY) := rfl
 have HE : Hid (prodD (l.take l.length) = prodD l) := (show prodD (l.take l.length) = prodD l by rw [List.take_length])
 obtain ⟨P, hP⟩ : ∃ P : Nat → Dy, (fun k => prodD (l.take k)) = P := ⟨_, rfl⟩
 have eP : ∀ k, prodD (l.take k) = P k := fun k => congrFun hP k
 simp only [eP] at HS HZ HP HE
 generalize prodD l = PE at *
 obtain ⟨N, hN⟩ : ∃ N, l.length = N := ⟨_, rfl⟩
 have HN : Hid (l.length = N) := hN
 rw [hN] at HS HZ HD HE hl ⊢
 clear hN hP eP hs
 have OB := D3.new w (.bool false) (.slice none 0 0) (.int .i64 0) 49
 have hb0 : Below w.heap.size w (w.alloc (.cells #[.bool false, .slice none 0 0, .int .i64 0] 49)) := (Below.refl _ _).alloc (Nat.le_refl _) _
 go_enter Tryz.func7, Tryz.ntmps7
 go_upto_region 1 with fail
 generalize w.alloc (.cells #[.bool false, .slice none 0 0, .int .i64 0] 49) = W0 at *
 go_upto_region 2 with (go_at_call 18; refine (cW _).mono ?_; rintro e w1 ⟨ao, ac, rfl, h1, _, b1⟩)
 have st := (Below.refl w1.heap.size w1).alloc (Nat.le_refl _) (.cells #[.bool oneY.neg, .slice ao oneY.mag.length ac, .int .i64 oneY.exp] 49)
 have QB : DyB oneY (w1.alloc (.cells #[.bool oneY.neg, .slice ao oneY.mag.length ac, .int .i64 oneY.exp] 49)) w1.heap.size := ⟨ao, ac, D3.new _ _ _ _ _, h1.below st⟩
 have hgg : w.heap.size < w1.heap.size := (OB.below b1).lt
 have OB1 := (OB.below b1).below st
 have hb1 := hb0.trans ((b1.trans (st.mono b1.size)).mono hb0.size)
 generalize w1.alloc (.cells #[.bool oneY.neg, .slice ao oneY.mag.length ac, .int .i64 oneY.exp] 49) = W1 at *
 generalize w1.heap.size = g at *
 clear OB hb0 b1 h1 st cW
 rw [← HP.out] at QB
 clear HP
 go_upto_region 3 with fail
 go_loopg [4] N (fun gh v wk => ∃ k : Nat, k ≤ N ∧ gh = N - k ∧ v = .int .i64 k ∧ DyB (P k) wk g ∧ D3 wk w.heap.size (.bool false) (.slice none 0 0) (.int .i64 0) ∧ Below w.heap.size w wk)
 case atStart => exact ⟨0, by omega, rfl, rfl, QB, OB1, hb1⟩
 case round =>
  obtain ⟨k, hk, hgk, rfl, DP, OK, hbk⟩ := hrel
  have HG : Hid (gk = N - k) := hgk
  clear hgk QB OB1 hb1
  by_cases hlt : k < N
  ·have i1 : (k : Int) < (N : Int) := by omega
   obtain ⟨d, hd⟩ : ∃ d, l.getD k dN0 = d := ⟨_, rfl⟩
   have z1 := HZ.out k (by omega)
   have z2 := HD.out k hlt
   rw [hd] at z2
   have cT : ∀ W ao ac bo bc, NS W ao ac (P k).mag → NS W bo bc d.mag → Calls Tryz.prog 19 #[.agg #[.bool (P k).neg, .slice ao (P k).mag.length ac, .int .i64 (P k).exp], .agg #[.bool d.neg, .slice bo d.mag.length bc, .int .i64 d.exp]] W (GvY W (mulY (P k) d)) := fun W ao ac bo bc h1 h2 => (times_any (P k) d ao bo ac bc W h1 h2 z1.lm z2.lm (by have := z1.len; omega) (by have := z2.len; omega) (by have := z1.lo; have := z1.hi; omega) (by have := z2.lo; have := z2.hi; omega)).mono fun e w' h => GaveM.gv h
   have hRk : ∀ W, Below wr.heap.size wr W → ∃ ao ac, W.cell? ⟨b, k * 3, none⟩ = some (.bool d.neg) ∧ W.cell? ⟨b, k * 3 + 1, none⟩ = some (.slice ao d.mag.length ac) ∧ W.cell? ⟨b, k * 3 + 2, none⟩ = some (.int .i64 d.exp) ∧ NS W ao ac d.mag := fun W hW => by
    obtain ⟨ao, ac, c0, c1, c2, c3, _⟩ := (hr.below hbk).below hW k (by rw [HN.out]; exact hlt)
    rw [hd] at c0 c1 c2 c3
    exact ⟨ao, ac, c0, c1, c2, c3⟩
   clear z1 z2 HZ HD hr
   go_upto_region 5 with fail
   obtain ⟨FL, hFL⟩ : ∃ f : Nat → Lz, f = (fun j => match j with | 0 => .gn (DyV (P k)) (fun _ _ _ h hb => h.below hb) | 1 => .is (.slice (some ⟨b, 0, none⟩) N cap) | 2 => .is (.int .i64 k) | 3 => .is (.pointer (some ⟨b, k * 3, none⟩)) | 4 => .gn (DyV d) (fun _ _ _ h hb => h.below hb) | 5 => .gn (DyV (mulY (P k) d)) (fun _ _ _ h hb => h.below hb) | 6 => .tr | _ => .tr) := ⟨_, rfl⟩
   have F0 := congrFun hFL 0
   have F1 := congrFun hFL 1
   have F2 := congrFun hFL 2
   have F3 := congrFun hFL 3
   have F4 := congrFun hFL 4
   have F5 := congrFun hFL 5
   have F6 := congrFun hFL 6
   simp only at F0 F1 F2 F3 F4 F5 F6
   clear hFL
   refine region_rgU (by kernel_rfl) (fun v => ⟨#[.slice (some ⟨b, 0, none⟩) N cap, undef, .pointer (some ⟨w.heap.size, 0, none⟩), .pointer (some ⟨g, 0, none⟩), .int .i64 ↑k, .agg #[.bool oneY.neg, .slice ao oneY.mag.length ac, .int .i64 oneY.exp], .int .i64 ↑k, .slice (some ⟨b, 0, none⟩) N cap, .int .i64 ↑N, .bool true, u10, u11, v 0, v 1, v 2, v 3, v 4, v 5, undef], []⟩) 6 (fun j => decide (j ≠ 6)) FL (fun a => DyB (mulY (P k) d) a g ∧ D3 a w.heap.size (.bool false) (.slice none 0 0) (.int .i64 0) ∧ Below w.heap.size w a) (fun j => match j with | 0 => u12 | 1 => u13 | 2 => u14 | 3 => u15 | 4 => u16 | 5 => u17 | _ => undef) rfl ?_ ?_
   ·intro L v w' i hL hS hi
    obtain ⟨hr1, hr2, hr3⟩ := mem_ready hi
    have hr1 : i < 7 := hr1
    try dsimp only
    have hcs : i = 0 ∨ i = 1 ∨ i = 2 ∨ i = 3 ∨ i = 4 ∨ i = 5 ∨ i = 6 := by omega
    clear hr1 hr2 hr3
    rcases hcs with rfl | rfl | rfl | rfl | rfl | rfl | rfl
    ·have hns := hS.open hL hi rfl
     have hB := hS.a hns
     obtain ⟨pa, pc, PB, PN⟩ := DP.below hB
     obtain ⟨p0, p1, p2, _, _, _, _, _⟩ := id PB
     refine wpOpT_of (fun K hK => ?_)
     unfold wpOp
     go_simp
     refine Or.inl ?_
     exact hK _ _ ⟨putT v 0 (.agg #[.bool (P k).neg, .slice pa (P k).mag.length pc, .int .i64 (P k).exp]), (by simp [putT]), hS.step hL hi rfl (by decide) (Below.refl _ _) (Lz.toGn F0 (⟨_, _, rfl, PN⟩))⟩
    ·have hns := hS.open hL hi rfl
     have hB := hS.a hns
     refine wpOpT_of (fun K hK => ?_)
     unfold wpOp
     go_simp
     refine Or.inl ?_
     exact hK _ _ ⟨putT v 1 (.slice (some ⟨b, 0, none⟩) N cap), (by simp [putT]), hS.step hL hi rfl (by decide) (Below.refl _ _) (Lz.toIs F1)⟩
    ·have hns := hS.open hL hi rfl
     have hB := hS.a hns
     refine wpOpT_of (fun K hK => ?_)
     unfold wpOp
     go_simp
     refine Or.inl ?_
     exact hK _ _ ⟨putT v 2 (.int .i64 k), (by simp [putT]), hS.step hL hi rfl (by decide) (Below.refl _ _) (Lz.toIs F2)⟩
    ·have hns := hS.open hL hi rfl
     have hB := hS.a hns
     have e1 := Lz.ofIs (hS.f hns 1 rfl (ready_dep hi 1 (by kernel_rfl))) F1
     have e2 := Lz.ofIs (hS.f hns 2 rfl (ready_dep hi 2 (by kernel_rfl))) F2
     refine wpOpT_of (fun K hK => ?_)
     unfold wpOp
     simp only [e1, e2]
     go_simp
     refine Or.inl ?_
     exact hK _ _ ⟨putT v 3 (.pointer (some ⟨b, k * 3, none⟩)), (by simp [putT, e1, e2]), hS.step hL hi rfl (by decide) (Below.refl _ _) (Lz.toIs F3)⟩
    ·have hns := hS.open hL hi rfl
     have hB := hS.a hns
     have e3 := Lz.ofIs (hS.f hns 3 rfl (ready_dep hi 3 (by kernel_rfl))) F3
     obtain ⟨ra, rc, r0, r1, r2, rn⟩ := hRk _ hB
     refine wpOpT_of (fun K hK => ?_)
     unfold wpOp
     simp only [e3]
     go_simp
     refine Or.inl ?_
     exact hK _ _ ⟨putT v 4 (.agg #[.bool d.neg, .slice ra d.mag.length rc, .int .i64 d.exp]), (by simp [putT, e3]), hS.step hL hi rfl (by decide) (Below.refl _ _) (Lz.toGn F4 (⟨_, _, rfl, rn⟩))⟩
    ·have hns := hS.open hL hi rfl
     have hB := hS.a hns
     obtain ⟨ao_0, ac_0, e0, u0⟩ := Lz.ofGn (hS.f hns 0 rfl (ready_dep hi 0 (by kernel_rfl))) F0
     obtain ⟨ao_4, ac_4, e4, u4⟩ := Lz.ofGn (hS.f hns 4 rfl (ready_dep hi 4 (by kernel_rfl))) F4
     refine wpOpT_of (fun K hK => ?_)
     unfold wpOp
     simp only [e0, e4]
     go_simp
     refine Or.inl ?_
     go_at_call 19
     refine (cT _ _ _ _ _ u0 u4).mono ?_
     rintro e w1 ⟨ro, rc, rfl, kr, bc⟩
     exact hK _ _ ⟨putT v 5 (.agg #[.bool (mulY (P k) d).neg, .slice ro (mulY (P k) d).mag.length rc, .int .i64 (mulY (P k) d).exp]), (by simp [putT, e0, e4]), hS.step hL hi rfl (by decide) (bc) (Lz.toGn F5 (⟨_, _, rfl, kr⟩))⟩
    ·have hns := fun q => offT_not (by rw [hL]; exact (mem_ready hi).1) (mem_ready hi).2.1 q
     have hB := hS.a hns
     obtain ⟨ao_5, ac_5, e5, u5⟩ := Lz.ofGn (hS.f hns 5 rfl (ready_dep hi 5 (by kernel_rfl))) F5
     have DQ := DP.below hB
     obtain ⟨pa, pc, PB, PN⟩ := id DQ
     obtain ⟨p0, p1, p2, s0, s1, s2, _, _⟩ := id PB
     refine wpOpT_of (fun K hK => ?_)
     unfold wpOp
     simp only [e5]
     go_simp
     refine Or.inl ?_
     exact hK _ _ ⟨putT v 6 undef, (by simp [putT, e5]), hS.last hL hi (by kernel_rfl) (⟨DQ.fill u5, (OK.below hB).far (Nat.ne_of_lt hgg) _ _ _, below_set3 (hbk.trans (hB.mono hbk.size)) (Nat.le_of_lt hgg) _ _ _⟩)⟩
   ·intro L v w' hL hS hr
    have on := all_done hL hr (by kernel_rfl)
    obtain ⟨G1, G2, hb8⟩ := hS.z (on 6 (by decide))
    try dsimp only
    generalize v 0 = y0 at *
    generalize v 1 = y1 at *
    generalize v 2 = y2 at *
    generalize v 3 = y3 at *
    generalize v 4 = y4 at *
    generalize v 5 = y5 at *
    clear hS on hr hL L v F0 F1 F2 F3 F4 F5 F6 FL OK DP hbk cT
    generalize w' = V at *
    go_wp2
    go_roundg (N - (k + 1))
    case measure => rw [HG.out]; omega
    case rel => exact ⟨k + 1, by omega, rfl, by go_num, by rw [HS.out k hlt]; subst hd; exact G1, G2, hb8⟩
  ·have i1 : ¬ (k : Int) < (N : Int) := by omega
   obtain rfl : k = N := by omega
   rw [HE.out] at DP
   obtain ⟨pa, pc, PB, PN⟩ := DP
   obtain ⟨p0, p1, p2, _, _, _, _, _⟩ := id PB
   obtain ⟨o0, o1, o2, f0, f1, f2, _, _⟩ := id OK
   go_wp2
   exact bodyPost_ret (v := .agg #[.bool PE.neg, .slice pa PE.mag.length pc, .int .i64 PE.exp]) (by simp [results, Tryz.results7, go_sem, o0, o1, o2]) rfl ⟨pa, pc, rfl, PN.set3 OK _ _ _, below_set3 hbk (Nat.le_refl _) _ _ _⟩
theorem drow_two {w : World} (t : TypeId) {x y : Dy} {ao bo : Option Addr} {ac bc : Nat} (hx : NS w ao ac x.mag) (hy : NS w bo bc y.mag) :
  DRow [x, y] (w.alloc (.cells #[.bool x.neg, .slice ao x.mag.length ac, .int .i64 x.exp, .bool y.neg, .slice bo y.mag.length bc, .int .i64 y.exp] t)) w.heap.size := by
 have st := fun o => (Below.refl w.heap.size w).alloc (Nat.le_refl _) o
 intro k hk
 rcases (show k = 0 ∨ k = 1 by simp at hk; omega) with rfl | rfl
 ·exact ⟨ao, ac, by simp [go_sem, List.getD], by simp [go_sem, List.getD], by simp [go_sem, List.getD], hx.below (st _), by simp⟩
 ·exact ⟨bo, bc, by simp [go_sem, List.getD], by simp [go_sem, List.getD], by simp [go_sem, List.getD], hy.below (st _), by simp⟩
theorem drow_three {w : World} (t : TypeId) {x y z : Dy} {ao bo co : Option Addr} {ac bc cc : Nat} (hx : NS w ao ac x.mag) (hy : NS w bo bc y.mag) (hz : NS w co cc z.mag) :
  DRow [x, y, z] (w.alloc (.cells #[.bool x.neg, .slice ao x.mag.length ac, .int .i64 x.exp, .bool y.neg, .slice bo y.mag.length bc, .int .i64 y.exp, .bool z.neg, .slice co z.mag.length cc, .int .i64 z.exp] t)) w.heap.size := by
 have st := fun o => (Below.refl w.heap.size w).alloc (Nat.le_refl _) o
 intro k hk
 rcases (show k = 0 ∨ k = 1 ∨ k = 2 by simp at hk; omega) with rfl | rfl | rfl
 ·exact ⟨ao, ac, by simp [go_sem, List.getD], by simp [go_sem, List.getD], by simp [go_sem, List.getD], hx.below (st _), by simp⟩
 ·exact ⟨bo, bc, by simp [go_sem, List.getD], by simp [go_sem, List.getD], by simp [go_sem, List.getD], hy.below (st _), by simp⟩
 ·exact ⟨co, cc, by simp [go_sem, List.getD], by simp [go_sem, List.getD], by simp [go_sem, List.getD], hz.below (st _), by simp⟩
theorem drow_five {w : World} (t : TypeId) {x y z u v : Dy} {ao bo co eo fo : Option Addr} {ac bc cc ec fc : Nat} (hx : NS w ao ac x.mag) (hy : NS w bo bc y.mag) (hz : NS w co cc z.mag) (hu : NS w eo ec u.mag) (hv : NS w fo fc v.mag) :
  DRow [x, y, z, u, v] (w.alloc (.cells #[.bool x.neg, .slice ao x.mag.length ac, .int .i64 x.exp, .bool y.neg, .slice bo y.mag.length bc, .int .i64 y.exp, .bool z.neg, .slice co z.mag.length cc, .int .i64 z.exp, .bool u.neg, .slice eo u.mag.length ec, .int .i64 u.exp, .bool v.neg, .slice fo v.mag.length fc, .int .i64 v.exp] t)) w.heap.size := by
 have st := fun o => (Below.refl w.heap.size w).alloc (Nat.le_refl _) o
 intro k hk
 rcases (show k = 0 ∨ k = 1 ∨ k = 2 ∨ k = 3 ∨ k = 4 by simp at hk; omega) with rfl | rfl | rfl | rfl | rfl
 ·exact ⟨ao, ac, by simp [go_sem, List.getD], by simp [go_sem, List.getD], by simp [go_sem, List.getD], hx.below (st _), by simp⟩
 ·exact ⟨bo, bc, by simp [go_sem, List.getD], by simp [go_sem, List.getD], by simp [go_sem, List.getD], hy.below (st _), by simp⟩
 ·exact ⟨co, cc, by simp [go_sem, List.getD], by simp [go_sem, List.getD], by simp [go_sem, List.getD], hz.below (st _), by simp⟩
 ·exact ⟨eo, ec, by simp [go_sem, List.getD], by simp [go_sem, List.getD], by simp [go_sem, List.getD], hu.below (st _), by simp⟩
 ·exact ⟨fo, fc, by simp [go_sem, List.getD], by simp [go_sem, List.getD], by simp [go_sem, List.getD], hv.below (st _), by simp⟩
def GvY2 (w : World) (d e : Dy) (en : Ending) (w' : World) : Prop := ∃ ao ac bo bc, en = .returned (.tuple #[.agg #[.bool d.neg, .slice ao d.mag.length ac, .int .i64 d.exp], .agg #[.bool e.neg, .slice bo e.mag.length bc, .int .i64 e.exp]]) ∧ NS w' ao ac d.mag ∧ NS w' bo bc e.mag ∧ Below w.heap.size w w'
def DyP (B : Nat) (a : World) (x : Value) : Prop := ∃ g, x = .pointer (some ⟨g, 0, none⟩) ∧ DyB dN0 a g ∧ B ≤ g
theorem DyP.below {B : Nat} {a a' : World} {x : Value} (h : DyP B a x) (hb : Below a.heap.size a a') : DyP B a' x := by
 obtain ⟨g, e, u, t⟩ := h
 exact ⟨g, e, u.below hb, t⟩
structure Tr2 (a : World) (B lb ob : Nat) (m : Mb) (LY O : Dy) : Prop where
 m : MBox a B m
 r6 : DyB dN0 a (B + 1)
 r7 : DyB dN0 a (B + 1 + 1)
 l : DyB LY a lb
 o : DyB O a ob
 nl : B + 1 + 1 < lb
 no : lb < ob
theorem Tr2.below {a a' : World} {B lb ob : Nat} {m : Mb} {LY O : Dy} (h : Tr2 a B lb ob m LY O) (hb : Below a.heap.size a a') : Tr2 a' B lb ob m LY O :=
 ⟨h.m.below hb, h.r6.below hb, h.r7.below hb, h.l.below hb, h.o.below hb, h.nl, h.no⟩
theorem MBox.set3 {a : World} {B g : Nat} {m : Mb} (h : MBox a B m) (hn : B ≠ g) (p q r : Value) : MBox (set3 a g p q r) B m := by
 obtain ⟨⟨c0, c1, c2, c3, c4, c5, c6, c7, c8⟩, f0, f1, f2, f3, f4, f5, f6, f7, f8, lt⟩ := h
 refine ⟨⟨?_, ?_, ?_, ?_, ?_, ?_, ?_, ?_, ?_⟩, ?_, ?_, ?_, ?_, ?_, ?_, ?_, ?_, ?_, by simpa [World.setCell] using lt⟩ <;> simp_all [go_sem]
theorem Tr2.put {a : World} {B lb ob : Nat} {m : Mb} {LY O U : Dy} {ao : Option Addr} {ac : Nat} (h : Tr2 a B lb ob m LY O) (hv : NS a ao ac U.mag) : Tr2 (set3 a ob (.bool U.neg) (.slice ao U.mag.length ac) (.int .i64 U.exp)) B lb ob m LY U :=
 ⟨h.m.set3 (by have := h.nl; have := h.no; omega) _ _ _, h.r6.far h.o (by have := h.nl; have := h.no; omega) _ _ _, h.r7.far h.o (by have := h.nl; have := h.no; omega) _ _ _, h.l.far h.o (Nat.ne_of_lt h.no) _ _ _, h.o.fill hv, h.nl, h.no⟩
set_option maxRecDepth 100000 in
set_option maxHeartbeats 16000000 in
theorem true2_walk (m : Mb) (l : Int) (k : Nat) (E I A LY N9 : Dy) (w : World)
  (cE : ∀ W, Calls Tryz.prog 8 #[.float .f64 m.e] W (GvY W E))
  (cI : ∀ W, Calls Tryz.prog 8 #[.float .f64 m.i] W (GvY W I))
  (cA : ∀ W, Calls Tryz.prog 8 #[.float .f64 m.ar] W (GvY W A))
  (cL : ∀ W, Calls Tryz.prog 18 #[.int .i64 l] W (GvY W LY))
  (c9 : ∀ W, Calls Tryz.prog 18 #[.int .i64 9] W (GvY W N9))
  (tEI : ∀ b W, DRow [E, I] W b → Calls Tryz.prog 7 #[.slice (some ⟨b, 0, none⟩) 2 2] W (GvY W (prodD [E, I])))
  (tEA : ∀ b W, DRow [E, A] W b → Calls Tryz.prog 7 #[.slice (some ⟨b, 0, none⟩) 2 2] W (GvY W (prodD [E, A])))
  (t2 : ∀ x, (x = prodD [E, I] ∨ x = prodD [E, A]) → ∀ b W, DRow [x, x] W b → Calls Tryz.prog 7 #[.slice (some ⟨b, 0, none⟩) 2 2] W (GvY W (prodD [x, x])))
  (t3 : ∀ b W, DRow [LY, LY, LY] W b → Calls Tryz.prog 7 #[.slice (some ⟨b, 0, none⟩) 3 3] W (GvY W (prodD [LY, LY, LY])))
  (t5 : ∀ b W, DRow [LY, LY, LY, LY, LY] W b → Calls Tryz.prog 7 #[.slice (some ⟨b, 0, none⟩) 5 5] W (GvY W (prodD [LY, LY, LY, LY, LY])))
  (t9 : ∀ b W, DRow [N9, prodD [E, I], prodD [E, I]] W b → Calls Tryz.prog 7 #[.slice (some ⟨b, 0, none⟩) 3 3] W (GvY W (prodD [N9, prodD [E, I], prodD [E, I]]))) :
  Calls Tryz.prog 6 #[mV m, .int .i64 l, .int .u8 k] w (GvY2 w
   (if k = 1 then prodD [prodD [E, A], prodD [E, A]] else if k = 3 then prodD [prodD [E, I], prodD [E, I]] else prodD [N9, prodD [E, I], prodD [E, I]])
   (if k = 1 then prodD [LY, LY, LY] else if k = 3 then LY else prodD [LY, LY, LY, LY, LY])) := by
 have t2i := t2 _ (Or.inl rfl)
 have t2a := t2 _ (Or.inr rfl)
 clear t2
 generalize prodD [prodD [E, I], prodD [E, I]] = OI2 at *
 generalize prodD [prodD [E, A], prodD [E, A]] = OA2 at *
 generalize prodD [N9, prodD [E, I], prodD [E, I]] = O9 at *
 generalize prodD [E, I] = OI at *
 generalize prodD [E, A] = OA at *
 generalize prodD [LY, LY, LY] = L3 at *
 generalize prodD [LY, LY, LY, LY, LY] = L5 at *
 have X0 := MBox.new w m 38
 have R6 := DyB.new (w.alloc (mO m 38)) 49
 have R7 := DyB.new ((w.alloc (mO m 38)).alloc (.cells #[.bool false, .slice none 0 0, .int .i64 0] 49)) 49
 have s1 : (w.alloc (mO m 38)).heap.size = w.heap.size + 1 := by simp
 have s2 : ((w.alloc (mO m 38)).alloc (.cells #[.bool false, .slice none 0 0, .int .i64 0] 49)).heap.size = w.heap.size + 1 + 1 := by simp
 have hb0 : Below w.heap.size w (((w.alloc (mO m 38)).alloc (.cells #[.bool false, .slice none 0 0, .int .i64 0] 49)).alloc (.cells #[.bool false, .slice none 0 0, .int .i64 0] 49)) := (((Below.refl w.heap.size w).alloc (Nat.le_refl _) _).alloc (by rw [s1]; omega) _).alloc (by rw [s2]; omega) _
 replace X0 := (X0.alloc (.cells #[.bool false, .slice none 0 0, .int .i64 0] 49)).alloc (.cells #[.bool false, .slice none 0 0, .int .i64 0] 49)
 replace R6 := R6.below ((Below.refl _ _).alloc (Nat.le_refl _) (.cells #[.bool false, .slice none 0 0, .int .i64 0] 49))
 rw [s1] at R6
 rw [s2] at R7
 clear s1 s2
 unfold mO at *
 obtain ⟨ms, mk, ma, mb, ha, hb, me, mar, mi⟩ := m
 unfold mV
 simp only at *
 go_enter Tryz.func6, Tryz.ntmps6
 go_upto_region 1 with fail
 generalize ((w.alloc (.cells #[.string ms, .int .u8 mk, .int .i64 ma, .int .i64 mb, .bool ha, .bool hb, .float .f64 me, .float .f64 mar, .float .f64 mi] 38)).alloc (.cells #[.bool false, .slice none 0 0, .int .i64 0] 49)).alloc (.cells #[.bool false, .slice none 0 0, .int .i64 0] 49) = W0 at *
 go_upto_region 2 with (go_at_call 18; refine (cL _).mono ?_; rintro e w1 ⟨ao, ac, rfl, h1, b1⟩)
 have st := (Below.refl w1.heap.size w1).alloc (Nat.le_refl _) (.cells #[.bool LY.neg, .slice ao LY.mag.length ac, .int .i64 LY.exp] 49)
 have LB : DyB LY (w1.alloc (.cells #[.bool LY.neg, .slice ao LY.mag.length ac, .int .i64 LY.exp] 49)) w1.heap.size := ⟨ao, ac, D3.new _ _ _ _ _, h1.below st⟩
 have nl : w.heap.size + 1 + 1 < w1.heap.size := (R7.below b1).lt
 replace X0 := (X0.below b1).below st
 replace R6 := (R6.below b1).below st
 replace R7 := (R7.below b1).below st
 replace hb0 := hb0.trans ((b1.trans (st.mono b1.size)).mono hb0.size)
 generalize w1.alloc (.cells #[.bool LY.neg, .slice ao LY.mag.length ac, .int .i64 LY.exp] 49) = W1 at *
 have hlb := LB.lt
 generalize w1.heap.size = lb at *
 clear h1 b1 st cL
 obtain ⟨x0, x1, x2, x3, x4, x5, x6, x7, x8⟩ := X0.at0
 simp only [Nat.zero_add] at x0 x1 x2 x3 x4 x5 x6 x7 x8
 obtain ⟨FL, hFL⟩ : ∃ fz : Nat → Lz, fz = (fun j => match j with | 0 => .is (.pointer (some ⟨w.heap.size, 6, none⟩)) | 1 => .is (.float .f64 me) | 2 => .gn (DyV (E)) (fun _ _ _ h hb => h.below hb) | 3 => .is (.pointer (some ⟨w.heap.size, 8, none⟩)) | 4 => .is (.float .f64 mi) | 5 => .gn (DyV (I)) (fun _ _ _ h hb => h.below hb) | 6 => .gn (fun a x => ∃ b, x = .slice (some ⟨b, 0, none⟩) 2 2 ∧ DRow [E, I] a b) (fun a a' x h hb => h.elim fun b h => ⟨b, h.1, h.2.below hb⟩) | 7 => .gn (DyV (OI)) (fun _ _ _ h hb => h.below hb) | 8 => .gn (DyP W1.heap.size) (fun _ _ _ h hb => h.below hb) | 9 => .tr | _ => .tr) := ⟨_, rfl⟩
 have F0 := congrFun hFL 0
 have F1 := congrFun hFL 1
 have F2 := congrFun hFL 2
 have F3 := congrFun hFL 3
 have F4 := congrFun hFL 4
 have F5 := congrFun hFL 5
 have F6 := congrFun hFL 6
 have F7 := congrFun hFL 7
 have F8 := congrFun hFL 8
 have F9 := congrFun hFL 9
 simp only at F0 F1 F2 F3 F4 F5 F6 F7 F8 F9
 clear hFL
 refine region_rgY (by kernel_rfl) (fun vv => ⟨#[.agg #[.string ms, .int .u8 ↑mk, .int .i64 ma, .int .i64 mb, .bool ha, .bool hb, .float .f64 me, .float .f64 mar, .float .f64 mi], .int .i64 l, .int .u8 ↑k, .pointer (some ⟨w.heap.size, 0, none⟩), undef, undef, .pointer (some ⟨w.heap.size + 1, 0, none⟩), .pointer (some ⟨w.heap.size + 1 + 1, 0, none⟩), .pointer (some ⟨lb, 0, none⟩), vv 8, .int .i64 l, .agg #[.bool LY.neg, .slice ao LY.mag.length ac, .int .i64 LY.exp], vv 0, vv 1, vv 2, vv 3, vv 4, vv 5, vv 6, vv 7, undef, undef, undef, undef, undef, undef, undef, undef, undef, undef, undef, undef, undef, undef, undef, undef, undef, undef, undef, undef, undef, undef, undef, undef, undef, undef, undef, undef, undef, undef, undef, undef, undef, undef, undef, undef, undef, undef, undef], []⟩) 9 FL (fun wz vz => ∃ g, vz 8 = .pointer (some ⟨g, 0, none⟩) ∧ DyB OI wz g ∧ Below W1.heap.size W1 wz ∧ W1.heap.size ≤ g) (fun j => match j with  | _ => undef) rfl ?_ ?_
 ·intro Lq vv wq i hL hS hD hi
  obtain ⟨hr1, hr2, hr3⟩ := mem_ready hi
  have hr1 : i < 10 := hr1
  try dsimp only
  have hcs : i = 0 ∨ i = 1 ∨ i = 2 ∨ i = 3 ∨ i = 4 ∨ i = 5 ∨ i = 6 ∨ i = 7 ∨ i = 8 ∨ i = 9 := by omega
  clear hr1 hr2 hr3
  have hns := hS.open hL hi
  have hB := hS.a hns
  rcases hcs with rfl | rfl | rfl | rfl | rfl | rfl | rfl | rfl | rfl | rfl
  ·refine wpOpT_of (fun K hK => ?_)
   unfold wpOp
   go_simp
   refine Or.inl ?_
   exact hK _ _ ⟨putT vv 0 (.pointer (some ⟨w.heap.size, 6, none⟩)), (by simp [putT]), hS.step hL hi (by decide) (Below.refl _ _) (Lz.toIs F0)⟩
  ·have e0 := Lz.ofIs (hS.f hns 0 (ready_dep hi 0 (by kernel_rfl))) F0
   have r6 := (hB.cell (p := ⟨w.heap.size, 6, none⟩) X0.lt).trans x6
   refine wpOpT_of (fun K hK => ?_)
   unfold wpOp
   simp only [e0]
   go_simp
   refine Or.inl ?_
   exact hK _ _ ⟨putT vv 1 (.float .f64 me), (by simp [putT, e0]), hS.step hL hi (by decide) (Below.refl _ _) (Lz.toIs F1)⟩
  ·have e1 := Lz.ofIs (hS.f hns 1 (ready_dep hi 1 (by kernel_rfl))) F1
   refine wpOpT_of (fun K hK => ?_)
   unfold wpOp
   simp only [e1]
   go_simp
   refine Or.inl ?_
   go_at_call 8
   refine (cE _).mono ?_
   rintro e w1 ⟨ro, rc, rfl, kr, bc⟩
   exact hK _ _ ⟨putT vv 2 (.agg #[.bool (E).neg, .slice ro (E).mag.length rc, .int .i64 (E).exp]), (by simp [putT, e1]), hS.step hL hi (by decide) (bc) (Lz.toGn F2 (⟨_, _, rfl, kr⟩))⟩
  ·refine wpOpT_of (fun K hK => ?_)
   unfold wpOp
   go_simp
   refine Or.inl ?_
   exact hK _ _ ⟨putT vv 3 (.pointer (some ⟨w.heap.size, 8, none⟩)), (by simp [putT]), hS.step hL hi (by decide) (Below.refl _ _) (Lz.toIs F3)⟩
  ·have e3 := Lz.ofIs (hS.f hns 3 (ready_dep hi 3 (by kernel_rfl))) F3
   have r8 := (hB.cell (p := ⟨w.heap.size, 8, none⟩) X0.lt).trans x8
   refine wpOpT_of (fun K hK => ?_)
   unfold wpOp
   simp only [e3]
   go_simp
   refine Or.inl ?_
   exact hK _ _ ⟨putT vv 4 (.float .f64 mi), (by simp [putT, e3]), hS.step hL hi (by decide) (Below.refl _ _) (Lz.toIs F4)⟩
  ·have e4 := Lz.ofIs (hS.f hns 4 (ready_dep hi 4 (by kernel_rfl))) F4
   refine wpOpT_of (fun K hK => ?_)
   unfold wpOp
   simp only [e4]
   go_simp
   refine Or.inl ?_
   go_at_call 8
   refine (cI _).mono ?_
   rintro e w1 ⟨ro, rc, rfl, kr, bc⟩
   exact hK _ _ ⟨putT vv 5 (.agg #[.bool (I).neg, .slice ro (I).mag.length rc, .int .i64 (I).exp]), (by simp [putT, e4]), hS.step hL hi (by decide) (bc) (Lz.toGn F5 (⟨_, _, rfl, kr⟩))⟩
  ·obtain ⟨ao_2, ac_2, e2, u2⟩ := Lz.ofGn (hS.f hns 2 (ready_dep hi 2 (by kernel_rfl))) F2
   obtain ⟨ao_5, ac_5, e5, u5⟩ := Lz.ofGn (hS.f hns 5 (ready_dep hi 5 (by kernel_rfl))) F5
   refine wpOpT_of (fun K hK => ?_)
   unfold wpOp
   simp only [e2, e5]
   go_simp
   refine Or.inl ?_
   exact hK _ _ ⟨putT vv 6 (.slice (some ⟨wq.heap.size, 0, none⟩) 2 2), (by simp [putT, e2, e5]), hS.step hL hi (by decide) ((Below.refl _ _).alloc (Nat.le_refl _) _) (Lz.toGn F6 (⟨_, rfl, drow_two _ u2 u5⟩))⟩
  ·obtain ⟨b_6, e6, u6⟩ := Lz.ofGn (hS.f hns 6 (ready_dep hi 6 (by kernel_rfl))) F6
   refine wpOpT_of (fun K hK => ?_)
   unfold wpOp
   simp only [e6]
   go_simp
   refine Or.inl ?_
   go_at_call 7
   refine (tEI _ _ u6).mono ?_
   rintro e w1 ⟨ro, rc, rfl, kr, bc⟩
   exact hK _ _ ⟨putT vv 7 (.agg #[.bool (OI).neg, .slice ro (OI).mag.length rc, .int .i64 (OI).exp]), (by simp [putT, e6]), hS.step hL hi (by decide) (bc) (Lz.toGn F7 (⟨_, _, rfl, kr⟩))⟩
  ·refine wpOpT_of (fun K hK => ?_)
   unfold wpOp
   go_simp
   refine Or.inl ?_
   exact hK _ _ ⟨putT vv 8 (.pointer (some ⟨wq.heap.size, 0, none⟩)), (by simp [putT]), hS.step hL hi (by decide) ((Below.refl _ _).alloc (Nat.le_refl _) _) (Lz.toGn F8 (⟨_, rfl, DyB.new wq _, hB.size⟩))⟩
  ·obtain ⟨ao_7, ac_7, e7, u7⟩ := Lz.ofGn (hS.f hns 7 (ready_dep hi 7 (by kernel_rfl))) F7
   obtain ⟨g8, e8, u8, t8⟩ := Lz.ofGn (hS.f hns 8 (ready_dep hi 8 (by kernel_rfl))) F8
   obtain ⟨qa, qc, QB, QN⟩ := id u8
   obtain ⟨p0, p1, p2, s0, s1, s2, _, _⟩ := id QB
   refine wpOpT_of (fun K hK => ?_)
   unfold wpOp
   simp only [e7, e8]
   go_simp
   refine Or.inl ?_
   exact hK _ _ ⟨putT vv 9 undef, (by simp [putT, e7, e8]), hS.last hL hi (allY hD hi (by kernel_rfl)) (⟨g8, by simp [putT, e8], u8.fill u7, below_set3 hB t8 _ _ _, t8⟩)⟩
 ·intro Lq vv wq hL hS hr
  have on := all_done hL hr (by kernel_rfl)
  obtain ⟨ob, hq, OB, bq, gl⟩ := hS.z (on 9 (by decide))
  try dsimp only
  rw [hq]
  generalize vv 0 = y0 at *
  generalize vv 1 = y1 at *
  generalize vv 2 = y2 at *
  generalize vv 3 = y3 at *
  generalize vv 4 = y4 at *
  generalize vv 5 = y5 at *
  generalize vv 6 = y6 at *
  generalize vv 7 = y7 at *
  clear hS on hr FL hL Lq hq vv F0 F1 F2 F3 F4 F5 F6 F7 F8 F9
  have T : Tr2 wq w.heap.size lb ob ⟨ms, mk, ma, mb, ha, hb, me, mar, mi⟩ LY OI := ⟨X0.below bq, R6.below bq, R7.below bq, LB.below bq, OB, nl, Nat.lt_of_lt_of_le hlb gl⟩
  have hb2 := hb0.trans (bq.mono hb0.size)
  clear OB bq gl hb0 X0 R6 R7 LB hlb x0 x1 x2 x3 x4 x5 x6 x7 x8 nl
  generalize wq = W2 at *
  clear W1
  have lX := T.m.lt
  obtain ⟨x0, x1, x2, x3, x4, x5, x6, x7, x8⟩ := T.m.at0
  simp only [Nat.zero_add] at x0 x1 x2 x3 x4 x5 x6 x7 x8
  by_cases k1 : k = 1
  ·subst k1
   simp only [if_true]
   go_upto_region 5 with fail
   obtain ⟨FL, hFL⟩ : ∃ fz : Nat → Lz, fz = (fun j => match j with | 0 => .is (.pointer (some ⟨w.heap.size, 6, none⟩)) | 1 => .is (.float .f64 me) | 2 => .gn (DyV (E)) (fun _ _ _ h hb => h.below hb) | 3 => .is (.pointer (some ⟨w.heap.size, 7, none⟩)) | 4 => .is (.float .f64 mar) | 5 => .gn (DyV (A)) (fun _ _ _ h hb => h.below hb) | 6 => .gn (fun a x => ∃ b, x = .slice (some ⟨b, 0, none⟩) 2 2 ∧ DRow [E, A] a b) (fun a a' x h hb => h.elim fun b h => ⟨b, h.1, h.2.below hb⟩) | 7 => .gn (DyV (OA)) (fun _ _ _ h hb => h.below hb) | 8 => .tr | _ => .tr) := ⟨_, rfl⟩
   have F0 := congrFun hFL 0
   have F1 := congrFun hFL 1
   have F2 := congrFun hFL 2
   have F3 := congrFun hFL 3
   have F4 := congrFun hFL 4
   have F5 := congrFun hFL 5
   have F6 := congrFun hFL 6
   have F7 := congrFun hFL 7
   have F8 := congrFun hFL 8
   simp only at F0 F1 F2 F3 F4 F5 F6 F7 F8
   clear hFL
   refine region_rgY (by kernel_rfl) (fun vv => ⟨#[.agg #[.string ms, .int .u8 ↑mk, .int .i64 ma, .int .i64 mb, .bool ha, .bool hb, .float .f64 me, .float .f64 mar, .float .f64 mi], .int .i64 l, .int .u8 ↑1, .pointer (some ⟨w.heap.size, 0, none⟩), undef, undef, .pointer (some ⟨w.heap.size + 1, 0, none⟩), .pointer (some ⟨w.heap.size + 1 + 1, 0, none⟩), .pointer (some ⟨lb, 0, none⟩), .pointer (some ⟨ob, 0, none⟩), .int .i64 l, .agg #[.bool LY.neg, .slice ao LY.mag.length ac, .int .i64 LY.exp], y0, y1, y2, y3, y4, y5, y6, y7, .int .u8 ↑1, .bool true, .bool true, vv 0, vv 1, vv 2, vv 3, vv 4, vv 5, vv 6, vv 7, undef, undef, undef, undef, undef, undef, undef, undef, undef, undef, undef, undef, undef, undef, undef, undef, undef, undef, undef, undef, undef, undef, undef, undef, undef, undef, undef, undef], []⟩) 8 FL (fun wz _ => Tr2 wz w.heap.size lb ob ⟨ms, mk, ma, mb, ha, hb, me, mar, mi⟩ LY OA ∧ Below w.heap.size w wz) (fun j => match j with  | _ => undef) rfl ?_ ?_
   ·intro Lq vv wq i hL hS hD hi
    obtain ⟨hr1, hr2, hr3⟩ := mem_ready hi
    have hr1 : i < 9 := hr1
    try dsimp only
    have hcs : i = 0 ∨ i = 1 ∨ i = 2 ∨ i = 3 ∨ i = 4 ∨ i = 5 ∨ i = 6 ∨ i = 7 ∨ i = 8 := by omega
    clear hr1 hr2 hr3
    have hns := hS.open hL hi
    have hB := hS.a hns
    rcases hcs with rfl | rfl | rfl | rfl | rfl | rfl | rfl | rfl | rfl
    ·refine wpOpT_of (fun K hK => ?_)
     unfold wpOp
     go_simp
     refine Or.inl ?_
     exact hK _ _ ⟨putT vv 0 (.pointer (some ⟨w.heap.size, 6, none⟩)), (by simp [putT]), hS.step hL hi (by decide) (Below.refl _ _) (Lz.toIs F0)⟩
    ·have e0 := Lz.ofIs (hS.f hns 0 (ready_dep hi 0 (by kernel_rfl))) F0
     have r6 := (hB.cell (p := ⟨w.heap.size, 6, none⟩) lX).trans x6
     refine wpOpT_of (fun K hK => ?_)
     unfold wpOp
     simp only [e0]
     go_simp
     refine Or.inl ?_
     exact hK _ _ ⟨putT vv 1 (.float .f64 me), (by simp [putT, e0]), hS.step hL hi (by decide) (Below.refl _ _) (Lz.toIs F1)⟩
    ·have e1 := Lz.ofIs (hS.f hns 1 (ready_dep hi 1 (by kernel_rfl))) F1
     refine wpOpT_of (fun K hK => ?_)
     unfold wpOp
     simp only [e1]
     go_simp
     refine Or.inl ?_
     go_at_call 8
     refine (cE _).mono ?_
     rintro e w1 ⟨ro, rc, rfl, kr, bc⟩
     exact hK _ _ ⟨putT vv 2 (.agg #[.bool (E).neg, .slice ro (E).mag.length rc, .int .i64 (E).exp]), (by simp [putT, e1]), hS.step hL hi (by decide) (bc) (Lz.toGn F2 (⟨_, _, rfl, kr⟩))⟩
    ·refine wpOpT_of (fun K hK => ?_)
     unfold wpOp
     go_simp
     refine Or.inl ?_
     exact hK _ _ ⟨putT vv 3 (.pointer (some ⟨w.heap.size, 7, none⟩)), (by simp [putT]), hS.step hL hi (by decide) (Below.refl _ _) (Lz.toIs F3)⟩
    ·have e3 := Lz.ofIs (hS.f hns 3 (ready_dep hi 3 (by kernel_rfl))) F3
     have r7 := (hB.cell (p := ⟨w.heap.size, 7, none⟩) lX).trans x7
     refine wpOpT_of (fun K hK => ?_)
     unfold wpOp
     simp only [e3]
     go_simp
     refine Or.inl ?_
     exact hK _ _ ⟨putT vv 4 (.float .f64 mar), (by simp [putT, e3]), hS.step hL hi (by decide) (Below.refl _ _) (Lz.toIs F4)⟩
    ·have e4 := Lz.ofIs (hS.f hns 4 (ready_dep hi 4 (by kernel_rfl))) F4
     refine wpOpT_of (fun K hK => ?_)
     unfold wpOp
     simp only [e4]
     go_simp
     refine Or.inl ?_
     go_at_call 8
     refine (cA _).mono ?_
     rintro e w1 ⟨ro, rc, rfl, kr, bc⟩
     exact hK _ _ ⟨putT vv 5 (.agg #[.bool (A).neg, .slice ro (A).mag.length rc, .int .i64 (A).exp]), (by simp [putT, e4]), hS.step hL hi (by decide) (bc) (Lz.toGn F5 (⟨_, _, rfl, kr⟩))⟩
    ·obtain ⟨ao_2, ac_2, e2, u2⟩ := Lz.ofGn (hS.f hns 2 (ready_dep hi 2 (by kernel_rfl))) F2
     obtain ⟨ao_5, ac_5, e5, u5⟩ := Lz.ofGn (hS.f hns 5 (ready_dep hi 5 (by kernel_rfl))) F5
     refine wpOpT_of (fun K hK => ?_)
     unfold wpOp
     simp only [e2, e5]
     go_simp
     refine Or.inl ?_
     exact hK _ _ ⟨putT vv 6 (.slice (some ⟨wq.heap.size, 0, none⟩) 2 2), (by simp [putT, e2, e5]), hS.step hL hi (by decide) ((Below.refl _ _).alloc (Nat.le_refl _) _) (Lz.toGn F6 (⟨_, rfl, drow_two _ u2 u5⟩))⟩
    ·obtain ⟨b_6, e6, u6⟩ := Lz.ofGn (hS.f hns 6 (ready_dep hi 6 (by kernel_rfl))) F6
     refine wpOpT_of (fun K hK => ?_)
     unfold wpOp
     simp only [e6]
     go_simp
     refine Or.inl ?_
     go_at_call 7
     refine (tEA _ _ u6).mono ?_
     rintro e w1 ⟨ro, rc, rfl, kr, bc⟩
     exact hK _ _ ⟨putT vv 7 (.agg #[.bool (OA).neg, .slice ro (OA).mag.length rc, .int .i64 (OA).exp]), (by simp [putT, e6]), hS.step hL hi (by decide) (bc) (Lz.toGn F7 (⟨_, _, rfl, kr⟩))⟩
    ·obtain ⟨ao_7, ac_7, e7, u7⟩ := Lz.ofGn (hS.f hns 7 (ready_dep hi 7 (by kernel_rfl))) F7
     have TB := T.below hB
     obtain ⟨qa, qc, QB, QN⟩ := id TB.o
     obtain ⟨p0, p1, p2, s0, s1, s2, _, _⟩ := id QB
     refine wpOpT_of (fun K hK => ?_)
     unfold wpOp
     simp only [e7]
     go_simp
     refine Or.inl ?_
     exact hK _ _ ⟨putT vv 8 undef, (by simp [putT, e7]), hS.last hL hi (allY hD hi (by kernel_rfl)) (⟨TB.put u7, below_set3 (hb2.trans (hB.mono hb2.size)) (by have := T.nl; have := T.no; omega) _ _ _⟩)⟩
   ·intro Lq vv wq hL hS hr
    have on := all_done hL hr (by kernel_rfl)
    obtain ⟨T5, hb5⟩ := hS.z (on 8 (by decide))
    try dsimp only
    generalize vv 0 = yy0 at *
    generalize vv 1 = yy1 at *
    generalize vv 2 = yy2 at *
    generalize vv 3 = yy3 at *
    generalize vv 4 = yy4 at *
    generalize vv 5 = yy5 at *
    generalize vv 6 = yy6 at *
    generalize vv 7 = yy7 at *
    clear hS on hr FL hL Lq vv T hb2 x0 x1 x2 x3 x4 x5 x6 x7 x8 lX F0 F1 F2 F3 F4 F5 F6 F7 F8
    generalize wq = W5 at *
    go_upto_region 6 with fail
    obtain ⟨FL, hFL⟩ : ∃ f : Nat → Lz, f = (fun j => match j with | 0 => .gn (DyV (OA)) (fun _ _ _ h hb => h.below hb) | 1 => .gn (DyV (OA)) (fun _ _ _ h hb => h.below hb) | 2 => .gn (fun a x => ∃ b, x = .slice (some ⟨b, 0, none⟩) 2 2 ∧ DRow [OA, OA] a b) (fun a a' x h hb => h.elim fun b h => ⟨b, h.1, h.2.below hb⟩) | 3 => .gn (DyV (OA2)) (fun _ _ _ h hb => h.below hb) | 4 => .gn (DyV (LY)) (fun _ _ _ h hb => h.below hb) | 5 => .gn (DyV (LY)) (fun _ _ _ h hb => h.below hb) | 6 => .gn (DyV (LY)) (fun _ _ _ h hb => h.below hb) | 7 => .gn (fun a x => ∃ b, x = .slice (some ⟨b, 0, none⟩) 3 3 ∧ DRow [LY, LY, LY] a b) (fun a a' x h hb => h.elim fun b h => ⟨b, h.1, h.2.below hb⟩) | 8 => .gn (DyV (L3)) (fun _ _ _ h hb => h.below hb) | 9 => .tr | 10 => .tr | _ => .tr) := ⟨_, rfl⟩
    have F0 := congrFun hFL 0
    have F1 := congrFun hFL 1
    have F2 := congrFun hFL 2
    have F3 := congrFun hFL 3
    have F4 := congrFun hFL 4
    have F5 := congrFun hFL 5
    have F6 := congrFun hFL 6
    have F7 := congrFun hFL 7
    have F8 := congrFun hFL 8
    have F9 := congrFun hFL 9
    have F10 := congrFun hFL 10
    simp only at F0 F1 F2 F3 F4 F5 F6 F7 F8 F9 F10
    clear hFL
    refine region_rgZ (by kernel_rfl) (fun v => ⟨#[.agg #[.string ms, .int .u8 ↑mk, .int .i64 ma, .int .i64 mb, .bool ha, .bool hb, .float .f64 me, .float .f64 mar, .float .f64 mi], .int .i64 l, .int .u8 1, .pointer (some ⟨w.heap.size, 0, none⟩), undef, undef, .pointer (some ⟨w.heap.size + 1, 0, none⟩), .pointer (some ⟨w.heap.size + 1 + 1, 0, none⟩), .pointer (some ⟨lb, 0, none⟩), .pointer (some ⟨ob, 0, none⟩), .int .i64 l, .agg #[.bool LY.neg, .slice ao LY.mag.length ac, .int .i64 LY.exp], y0, y1, y2, y3, y4, y5, y6, y7, .int .u8 1, .bool true, .bool true, yy0, yy1, yy2, yy3, yy4, yy5, yy6, yy7, v 0, v 1, v 2, v 3, v 4, v 5, v 6, v 7, v 8, undef, undef, undef, undef, undef, undef, undef, undef, undef, undef, undef, undef, undef, undef, undef, undef, undef, undef, undef], []⟩) 9 10 (fun j => decide (j ≠ 9 ∧ j ≠ 10)) FL (fun a v => (∃ ao ac, v 8 = .agg #[.bool (L3).neg, .slice ao (L3).mag.length ac, .int .i64 (L3).exp] ∧ NS a ao ac (L3).mag) ∧ DyB OA2 a (w.heap.size + 1) ∧ DyB dN0 a (w.heap.size + 1 + 1) ∧ Below w.heap.size w a) (fun a v => DyB OA2 a (w.heap.size + 1) ∧ DyB L3 a (w.heap.size + 1 + 1) ∧ Below w.heap.size w a) (fun j => match j with  | _ => undef) rfl ?_ ?_
    ·intro L v w' i hL hS hi
     obtain ⟨hr1, hr2, hr3⟩ := mem_ready hi
     have hr1 : i < 11 := hr1
     try dsimp only
     have hcs : i = 0 ∨ i = 1 ∨ i = 2 ∨ i = 3 ∨ i = 4 ∨ i = 5 ∨ i = 6 ∨ i = 7 ∨ i = 8 ∨ i = 9 ∨ i = 10 := by omega
     clear hr1 hr2 hr3
     rcases hcs with rfl | rfl | rfl | rfl | rfl | rfl | rfl | rfl | rfl | rfl | rfl
     ·have hns := hS.open hL hi rfl
      have hB := hS.a hns
      obtain ⟨pa, pc, PB, PN⟩ := T5.o.below hB
      obtain ⟨p0, p1, p2, _, _, _, _, _⟩ := id PB
      refine wpOpT_of (fun K hK => ?_)
      unfold wpOp
      go_simp
      refine Or.inl ?_
      exact hK _ _ ⟨putT v 0 (.agg #[.bool (OA).neg, .slice pa (OA).mag.length pc, .int .i64 (OA).exp]), (by simp [putT]), hS.step hL hi rfl (by decide) (by decide) (Below.refl _ _) (Lz.toGn F0 (⟨_, _, rfl, PN⟩))⟩
     ·have hns := hS.open hL hi rfl
      have hB := hS.a hns
      obtain ⟨pa, pc, PB, PN⟩ := T5.o.below hB
      obtain ⟨p0, p1, p2, _, _, _, _, _⟩ := id PB
      refine wpOpT_of (fun K hK => ?_)
      unfold wpOp
      go_simp
      refine Or.inl ?_
      exact hK _ _ ⟨putT v 1 (.agg #[.bool (OA).neg, .slice pa (OA).mag.length pc, .int .i64 (OA).exp]), (by simp [putT]), hS.step hL hi rfl (by decide) (by decide) (Below.refl _ _) (Lz.toGn F1 (⟨_, _, rfl, PN⟩))⟩
     ·have hns := hS.open hL hi rfl
      have hB := hS.a hns
      obtain ⟨ao_0, ac_0, e0, u0⟩ := Lz.ofGn (hS.f hns 0 rfl (ready_dep hi 0 (by kernel_rfl))) F0
      obtain ⟨ao_1, ac_1, e1, u1⟩ := Lz.ofGn (hS.f hns 1 rfl (ready_dep hi 1 (by kernel_rfl))) F1
      refine wpOpT_of (fun K hK => ?_)
      unfold wpOp
      simp only [e0, e1]
      go_simp
      refine Or.inl ?_
      exact hK _ _ ⟨putT v 2 (.slice (some ⟨w'.heap.size, 0, none⟩) 2 2), (by simp [putT, e0, e1]), hS.step hL hi rfl (by decide) (by decide) ((Below.refl _ _).alloc (Nat.le_refl _) _) (Lz.toGn F2 (⟨_, rfl, drow_two _ u0 u1⟩))⟩
     ·have hns := hS.open hL hi rfl
      have hB := hS.a hns
      obtain ⟨b_2, e2, u2⟩ := Lz.ofGn (hS.f hns 2 rfl (ready_dep hi 2 (by kernel_rfl))) F2
      refine wpOpT_of (fun K hK => ?_)
      unfold wpOp
      simp only [e2]
      go_simp
      refine Or.inl ?_
      go_at_call 7
      refine (t2a _ _ u2).mono ?_
      rintro e w1 ⟨ro, rc, rfl, kr, bc⟩
      exact hK _ _ ⟨putT v 3 (.agg #[.bool (OA2).neg, .slice ro (OA2).mag.length rc, .int .i64 (OA2).exp]), (by simp [putT, e2]), hS.step hL hi rfl (by decide) (by decide) (bc) (Lz.toGn F3 (⟨_, _, rfl, kr⟩))⟩
     ·have hns := hS.open hL hi rfl
      have hB := hS.a hns
      obtain ⟨pa, pc, PB, PN⟩ := T5.l.below hB
      obtain ⟨p0, p1, p2, _, _, _, _, _⟩ := id PB
      refine wpOpT_of (fun K hK => ?_)
      unfold wpOp
      go_simp
      refine Or.inl ?_
      exact hK _ _ ⟨putT v 4 (.agg #[.bool (LY).neg, .slice pa (LY).mag.length pc, .int .i64 (LY).exp]), (by simp [putT]), hS.step hL hi rfl (by decide) (by decide) (Below.refl _ _) (Lz.toGn F4 (⟨_, _, rfl, PN⟩))⟩
     ·have hns := hS.open hL hi rfl
      have hB := hS.a hns
      obtain ⟨pa, pc, PB, PN⟩ := T5.l.below hB
      obtain ⟨p0, p1, p2, _, _, _, _, _⟩ := id PB
      refine wpOpT_of (fun K hK => ?_)
      unfold wpOp
      go_simp
      refine Or.inl ?_
      exact hK _ _ ⟨putT v 5 (.agg #[.bool (LY).neg, .slice pa (LY).mag.length pc, .int .i64 (LY).exp]), (by simp [putT]), hS.step hL hi rfl (by decide) (by decide) (Below.refl _ _) (Lz.toGn F5 (⟨_, _, rfl, PN⟩))⟩
     ·have hns := hS.open hL hi rfl
      have hB := hS.a hns
      obtain ⟨pa, pc, PB, PN⟩ := T5.l.below hB
      obtain ⟨p0, p1, p2, _, _, _, _, _⟩ := id PB
      refine wpOpT_of (fun K hK => ?_)
      unfold wpOp
      go_simp
      refine Or.inl ?_
      exact hK _ _ ⟨putT v 6 (.agg #[.bool (LY).neg, .slice pa (LY).mag.length pc, .int .i64 (LY).exp]), (by simp [putT]), hS.step hL hi rfl (by decide) (by decide) (Below.refl _ _) (Lz.toGn F6 (⟨_, _, rfl, PN⟩))⟩
     ·have hns := hS.open hL hi rfl
      have hB := hS.a hns
      obtain ⟨ao_4, ac_4, e4, u4⟩ := Lz.ofGn (hS.f hns 4 rfl (ready_dep hi 4 (by kernel_rfl))) F4
      obtain ⟨ao_5, ac_5, e5, u5⟩ := Lz.ofGn (hS.f hns 5 rfl (ready_dep hi 5 (by kernel_rfl))) F5
      obtain ⟨ao_6, ac_6, e6, u6⟩ := Lz.ofGn (hS.f hns 6 rfl (ready_dep hi 6 (by kernel_rfl))) F6
      refine wpOpT_of (fun K hK => ?_)
      unfold wpOp
      simp only [e4, e5, e6]
      go_simp
      refine Or.inl ?_
      exact hK _ _ ⟨putT v 7 (.slice (some ⟨w'.heap.size, 0, none⟩) 3 3), (by simp [putT, e4, e5, e6]), hS.step hL hi rfl (by decide) (by decide) ((Below.refl _ _).alloc (Nat.le_refl _) _) (Lz.toGn F7 (⟨_, rfl, drow_three _ u4 u5 u6⟩))⟩
     ·have hns := hS.open hL hi rfl
      have hB := hS.a hns
      obtain ⟨b_7, e7, u7⟩ := Lz.ofGn (hS.f hns 7 rfl (ready_dep hi 7 (by kernel_rfl))) F7
      refine wpOpT_of (fun K hK => ?_)
      unfold wpOp
      simp only [e7]
      go_simp
      refine Or.inl ?_
      go_at_call 7
      refine (t3 _ _ u7).mono ?_
      rintro e w1 ⟨ro, rc, rfl, kr, bc⟩
      exact hK _ _ ⟨putT v 8 (.agg #[.bool (L3).neg, .slice ro (L3).mag.length rc, .int .i64 (L3).exp]), (by simp [putT, e7]), hS.step hL hi rfl (by decide) (by decide) (bc) (Lz.toGn F8 (⟨_, _, rfl, kr⟩))⟩
     ·have hns := fun q => offT_not (by rw [hL]; exact (mem_ready hi).1) (mem_ready hi).2.1 q
      have hB := hS.a hns
      obtain ⟨ao_3, ac_3, e3, u3⟩ := Lz.ofGn (hS.f hns 3 rfl (ready_dep hi 3 (by kernel_rfl))) F3
      obtain ⟨ao_8, ac_8, e8, u8⟩ := Lz.ofGn (hS.f hns 8 rfl (ready_dep hi 8 (by kernel_rfl))) F8
      have TB := T5.below hB
      obtain ⟨qa, qc, QB, QN⟩ := id TB.r6
      obtain ⟨p0, p1, p2, s0, s1, s2, _, _⟩ := id QB
      refine wpOpT_of (fun K hK => ?_)
      unfold wpOp
      simp only [e3, e8]
      go_simp
      refine Or.inl ?_
      exact hK _ _ ⟨putT v 9 undef, (by simp [putT, e3, e8]), hS.last1 hL hi (by decide) (by kernel_rfl) (⟨⟨_, _, by simp [putT, e8], u8.set3 QB _ _ _⟩, TB.r6.fill u3, TB.r7.far TB.r6 (by omega) _ _ _, below_set3 (hb5.trans (hB.mono hb5.size)) (by omega) _ _ _⟩)⟩
     ·obtain ⟨⟨zo, zc, ez, uz⟩, q1, q2, q3⟩ := hS.z1 (ready_dep hi 9 (by kernel_rfl)) (fun q => offT_not (by rw [hL]; exact (mem_ready hi).1) (mem_ready hi).2.1 q)
      obtain ⟨qa, qc, QB, QN⟩ := id q2
      obtain ⟨p0, p1, p2, s0, s1, s2, _, _⟩ := id QB
      refine wpOpT_of (fun K hK => ?_)
      unfold wpOp
      simp only [ez]
      go_simp
      refine Or.inl ?_
      exact hK _ _ ⟨putT v 10 undef, (by simp [putT, ez]), hS.last2 hL hi (by kernel_rfl) (⟨q1.far q2 (by omega) _ _ _, q2.fill uz, below_set3 q3 (by omega) _ _ _⟩)⟩
    ·intro L v w' hL hS hr
     have on := all_done hL hr (by kernel_rfl)
     obtain ⟨G6, G7, hz⟩ := hS.z2 (on 10 (by decide))
     try dsimp only
     generalize v 0 = yz0 at *
     generalize v 1 = yz1 at *
     generalize v 2 = yz2 at *
     generalize v 3 = yz3 at *
     generalize v 4 = yz4 at *
     generalize v 5 = yz5 at *
     generalize v 6 = yz6 at *
     generalize v 7 = yz7 at *
     generalize v 8 = yz8 at *
     clear hS on hr hL v F0 F1 F2 F3 F4 F5 F6 F7 F8 F9 F10 FL L
     obtain ⟨ga, gc, GB, GN⟩ := G6
     obtain ⟨ja, jc, JB, JN⟩ := G7
     obtain ⟨z0, z1, z2, _, _, _, _, _⟩ := id GB
     obtain ⟨h0, h1, h2, _, _, _, _, _⟩ := id JB
     go_wp2
     exact bodyPost_ret (v := .tuple #[.agg #[.bool (OA2).neg, .slice ga (OA2).mag.length gc, .int .i64 (OA2).exp], .agg #[.bool (L3).neg, .slice ja (L3).mag.length jc, .int .i64 (L3).exp]]) (by simp [results, Tryz.results6, go_sem, z0, z1, z2, h0, h1, h2]) rfl ⟨ga, gc, ja, jc, rfl, GN, JN, hz⟩
  ·have j1 : ((k : Int) == 1) = false := by simpa using (by omega : ¬ (k : Int) = 1)
   by_cases k3 : k = 3
   ·subst k3
    simp only [show ¬ (3 : Nat) = 1 by decide, if_false, if_true]
    go_upto_region 8 with fail
    obtain ⟨la, lac, LB3, LN⟩ := id T.l
    have nl := T.nl
    obtain ⟨FL, hFL⟩ : ∃ f : Nat → Lz, f = (fun j => match j with | 0 => .gn (DyV (OI)) (fun _ _ _ h hb => h.below hb) | 1 => .gn (DyV (OI)) (fun _ _ _ h hb => h.below hb) | 2 => .gn (fun a x => ∃ b, x = .slice (some ⟨b, 0, none⟩) 2 2 ∧ DRow [OI, OI] a b) (fun a a' x h hb => h.elim fun b h => ⟨b, h.1, h.2.below hb⟩) | 3 => .gn (DyV (OI2)) (fun _ _ _ h hb => h.below hb) | 4 => .is (.agg #[.bool LY.neg, .slice la LY.mag.length lac, .int .i64 LY.exp]) | 5 => .tr | 6 => .tr | _ => .tr) := ⟨_, rfl⟩
    have F0 := congrFun hFL 0
    have F1 := congrFun hFL 1
    have F2 := congrFun hFL 2
    have F3 := congrFun hFL 3
    have F4 := congrFun hFL 4
    have F5 := congrFun hFL 5
    have F6 := congrFun hFL 6
    simp only at F0 F1 F2 F3 F4 F5 F6
    clear hFL
    refine region_rgZ (by kernel_rfl) (fun v => ⟨#[.agg #[.string ms, .int .u8 ↑mk, .int .i64 ma, .int .i64 mb, .bool ha, .bool hb, .float .f64 me, .float .f64 mar, .float .f64 mi], .int .i64 l, .int .u8 ↑3, .pointer (some ⟨w.heap.size, 0, none⟩), undef, undef, .pointer (some ⟨w.heap.size + 1, 0, none⟩), .pointer (some ⟨w.heap.size + 1 + 1, 0, none⟩), .pointer (some ⟨lb, 0, none⟩), .pointer (some ⟨ob, 0, none⟩), .int .i64 l, .agg #[.bool LY.neg, .slice ao LY.mag.length ac, .int .i64 LY.exp], y0, y1, y2, y3, y4, y5, y6, y7, .int .u8 ↑3, .bool false, .bool false, undef, undef, undef, undef, undef, undef, undef, undef, undef, undef, undef, undef, undef, undef, undef, undef, undef, .bool true, .bool true, v 0, v 1, v 2, v 3, v 4, undef, undef, undef, undef, undef, undef, undef, undef, undef, undef, undef, undef], []⟩) 5 6 (fun j => decide (j ≠ 4 ∧ j ≠ 5 ∧ j ≠ 6)) FL (fun a _ => (D3 a lb (.bool LY.neg) (.slice la LY.mag.length lac) (.int .i64 LY.exp) ∧ NS a la lac LY.mag) ∧ DyB OI2 a (w.heap.size + 1) ∧ DyB dN0 a (w.heap.size + 1 + 1) ∧ Below w.heap.size w a) (fun a v => DyB OI2 a (w.heap.size + 1) ∧ DyB LY a (w.heap.size + 1 + 1) ∧ Below w.heap.size w a) (fun j => match j with  | _ => undef) rfl ?_ ?_
    ·intro L v w' i hL hS hi
     obtain ⟨hr1, hr2, hr3⟩ := mem_ready hi
     have hr1 : i < 7 := hr1
     try dsimp only
     have hcs : i = 0 ∨ i = 1 ∨ i = 2 ∨ i = 3 ∨ i = 4 ∨ i = 5 ∨ i = 6 := by omega
     clear hr1 hr2 hr3
     rcases hcs with rfl | rfl | rfl | rfl | rfl | rfl | rfl
     ·have hns := hS.open hL hi rfl
      have hB := hS.a hns
      obtain ⟨pa, pc, PB, PN⟩ := T.o.below hB
      obtain ⟨p0, p1, p2, _, _, _, _, _⟩ := id PB
      refine wpOpT_of (fun K hK => ?_)
      unfold wpOp
      go_simp
      refine Or.inl ?_
      exact hK _ _ ⟨putT v 0 (.agg #[.bool (OI).neg, .slice pa (OI).mag.length pc, .int .i64 (OI).exp]), (by simp [putT]), hS.step hL hi rfl (by decide) (by decide) (Below.refl _ _) (Lz.toGn F0 (⟨_, _, rfl, PN⟩))⟩
     ·have hns := hS.open hL hi rfl
      have hB := hS.a hns
      obtain ⟨pa, pc, PB, PN⟩ := T.o.below hB
      obtain ⟨p0, p1, p2, _, _, _, _, _⟩ := id PB
      refine wpOpT_of (fun K hK => ?_)
      unfold wpOp
      go_simp
      refine Or.inl ?_
      exact hK _ _ ⟨putT v 1 (.agg #[.bool (OI).neg, .slice pa (OI).mag.length pc, .int .i64 (OI).exp]), (by simp [putT]), hS.step hL hi rfl (by decide) (by decide) (Below.refl _ _) (Lz.toGn F1 (⟨_, _, rfl, PN⟩))⟩
     ·have hns := hS.open hL hi rfl
      have hB := hS.a hns
      obtain ⟨ao_0, ac_0, e0, u0⟩ := Lz.ofGn (hS.f hns 0 rfl (ready_dep hi 0 (by kernel_rfl))) F0
      obtain ⟨ao_1, ac_1, e1, u1⟩ := Lz.ofGn (hS.f hns 1 rfl (ready_dep hi 1 (by kernel_rfl))) F1
      refine wpOpT_of (fun K hK => ?_)
      unfold wpOp
      simp only [e0, e1]
      go_simp
      refine Or.inl ?_
      exact hK _ _ ⟨putT v 2 (.slice (some ⟨w'.heap.size, 0, none⟩) 2 2), (by simp [putT, e0, e1]), hS.step hL hi rfl (by decide) (by decide) ((Below.refl _ _).alloc (Nat.le_refl _) _) (Lz.toGn F2 (⟨_, rfl, drow_two _ u0 u1⟩))⟩
     ·have hns := hS.open hL hi rfl
      have hB := hS.a hns
      obtain ⟨b_2, e2, u2⟩ := Lz.ofGn (hS.f hns 2 rfl (ready_dep hi 2 (by kernel_rfl))) F2
      refine wpOpT_of (fun K hK => ?_)
      unfold wpOp
      simp only [e2]
      go_simp
      refine Or.inl ?_
      go_at_call 7
      refine (t2i _ _ u2).mono ?_
      rintro e w1 ⟨ro, rc, rfl, kr, bc⟩
      exact hK _ _ ⟨putT v 3 (.agg #[.bool (OI2).neg, .slice ro (OI2).mag.length rc, .int .i64 (OI2).exp]), (by simp [putT, e2]), hS.step hL hi rfl (by decide) (by decide) (bc) (Lz.toGn F3 (⟨_, _, rfl, kr⟩))⟩
     ·have cB : D3 w' lb (.bool LY.neg) (.slice la LY.mag.length lac) (.int .i64 LY.exp) := (Classical.em (On L 5)).elim (fun q => (hS.z1 q (fun q2 => offT_not (by rw [hL]; exact (mem_ready hi).1) (mem_ready hi).2.1 (hS.dc 6 4 q2 (by kernel_rfl)))).1.1) (fun q => LB3.below (hS.a q))
      obtain ⟨y0, y1, y2, _, _, _, _, _⟩ := id cB
      refine wpOpT_of (fun K hK => ?_)
      unfold wpOp
      go_simp
      refine Or.inl ?_
      exact hK _ _ ⟨putT v 4 (.agg #[.bool LY.neg, .slice la LY.mag.length lac, .int .i64 LY.exp]), (by simp [putT]), hS.late hL hi rfl (by decide) (by decide) (by kernel_rfl) (fun q => q) (Lz.toFree F4)⟩
     ·have hns := fun q => offT_not (by rw [hL]; exact (mem_ready hi).1) (mem_ready hi).2.1 q
      have hB := hS.a hns
      obtain ⟨ao_3, ac_3, e3, u3⟩ := Lz.ofGn (hS.f hns 3 rfl (ready_dep hi 3 (by kernel_rfl))) F3
      have TB := T.below hB
      obtain ⟨qa, qc, QB, QN⟩ := id TB.r6
      obtain ⟨p0, p1, p2, s0, s1, s2, _, _⟩ := id QB
      refine wpOpT_of (fun K hK => ?_)
      unfold wpOp
      simp only [e3]
      go_simp
      refine Or.inl ?_
      exact hK _ _ ⟨putT v 5 undef, (by simp [putT, e3]), hS.last1 hL hi (by decide) (by kernel_rfl) (⟨⟨(LB3.below hB).far (by omega) _ _ _, (LN.below hB).set3 QB _ _ _⟩, TB.r6.fill u3, TB.r7.far TB.r6 (by omega) _ _ _, below_set3 (hb2.trans (hB.mono hb2.size)) (by omega) _ _ _⟩)⟩
     ·obtain ⟨⟨q0, uz⟩, q1, q2, q3⟩ := hS.z1 (ready_dep hi 5 (by kernel_rfl)) (fun q2 => offT_not (by rw [hL]; exact (mem_ready hi).1) (mem_ready hi).2.1 q2)
      obtain ⟨qa, qc, QB, QN⟩ := id q2
      obtain ⟨p0, p1, p2, s0, s1, s2, _, _⟩ := id QB
      have e4 := Lz.ofFree (hS.k 4 rfl (by decide) (by decide) (ready_dep hi 4 (by kernel_rfl))) F4
      refine wpOpT_of (fun K hK => ?_)
      unfold wpOp
      simp only [e4]
      go_simp
      refine Or.inl ?_
      exact hK _ _ ⟨putT v 6 undef, (by simp [putT, e4]), hS.last2 hL hi (by kernel_rfl) (⟨q1.far q2 (by omega) _ _ _, q2.fill uz, below_set3 q3 (by omega) _ _ _⟩)⟩
    ·intro L v w' hL hS hr
     have on := all_done hL hr (by kernel_rfl)
     obtain ⟨G6, G7, hz⟩ := hS.z2 (on 6 (by decide))
     try dsimp only
     generalize v 0 = yz0 at *
     generalize v 1 = yz1 at *
     generalize v 2 = yz2 at *
     generalize v 3 = yz3 at *
     generalize v 4 = yz4 at *
     clear hS on hr hL v F0 F1 F2 F3 F4 F5 F6 FL L
     obtain ⟨ga, gc, GB, GN⟩ := G6
     obtain ⟨ja, jc, JB, JN⟩ := G7
     obtain ⟨z0, z1, z2, _, _, _, _, _⟩ := id GB
     obtain ⟨h0, h1, h2, _, _, _, _, _⟩ := id JB
     go_wp2
     exact bodyPost_ret (v := .tuple #[.agg #[.bool (OI2).neg, .slice ga (OI2).mag.length gc, .int .i64 (OI2).exp], .agg #[.bool (LY).neg, .slice ja (LY).mag.length jc, .int .i64 (LY).exp]]) (by simp [results, Tryz.results6, go_sem, z0, z1, z2, h0, h1, h2]) rfl ⟨ga, gc, ja, jc, rfl, GN, JN, hz⟩
   ·have j3 : ((k : Int) == 3) = false := by simpa using (by omega : ¬ (k : Int) = 3)
    simp only [if_neg k1, if_neg k3]
    go_upto_region 9 with fail
    obtain ⟨FL, hFL⟩ : ∃ f : Nat → Lz, f = (fun j => match j with | 0 => .gn (DyV (N9)) (fun _ _ _ h hb => h.below hb) | 1 => .gn (DyV (OI)) (fun _ _ _ h hb => h.below hb) | 2 => .gn (DyV (OI)) (fun _ _ _ h hb => h.below hb) | 3 => .gn (fun a x => ∃ b, x = .slice (some ⟨b, 0, none⟩) 3 3 ∧ DRow [N9, OI, OI] a b) (fun a a' x h hb => h.elim fun b h => ⟨b, h.1, h.2.below hb⟩) | 4 => .gn (DyV (O9)) (fun _ _ _ h hb => h.below hb) | 5 => .gn (DyV (LY)) (fun _ _ _ h hb => h.below hb) | 6 => .gn (DyV (LY)) (fun _ _ _ h hb => h.below hb) | 7 => .gn (DyV (LY)) (fun _ _ _ h hb => h.below hb) | 8 => .gn (DyV (LY)) (fun _ _ _ h hb => h.below hb) | 9 => .gn (DyV (LY)) (fun _ _ _ h hb => h.below hb) | 10 => .gn (fun a x => ∃ b, x = .slice (some ⟨b, 0, none⟩) 5 5 ∧ DRow [LY, LY, LY, LY, LY] a b) (fun a a' x h hb => h.elim fun b h => ⟨b, h.1, h.2.below hb⟩) | 11 => .gn (DyV (L5)) (fun _ _ _ h hb => h.below hb) | 12 => .tr | 13 => .tr | _ => .tr) := ⟨_, rfl⟩
    have F0 := congrFun hFL 0
    have F1 := congrFun hFL 1
    have F2 := congrFun hFL 2
    have F3 := congrFun hFL 3
    have F4 := congrFun hFL 4
    have F5 := congrFun hFL 5
    have F6 := congrFun hFL 6
    have F7 := congrFun hFL 7
    have F8 := congrFun hFL 8
    have F9 := congrFun hFL 9
    have F10 := congrFun hFL 10
    have F11 := congrFun hFL 11
    have F12 := congrFun hFL 12
    have F13 := congrFun hFL 13
    simp only at F0 F1 F2 F3 F4 F5 F6 F7 F8 F9 F10 F11 F12 F13
    clear hFL
    refine region_rgZ (by kernel_rfl) (fun v => ⟨#[.agg #[.string ms, .int .u8 ↑mk, .int .i64 ma, .int .i64 mb, .bool ha, .bool hb, .float .f64 me, .float .f64 mar, .float .f64 mi], .int .i64 l, .int .u8 ↑k, .pointer (some ⟨w.heap.size, 0, none⟩), undef, undef, .pointer (some ⟨w.heap.size + 1, 0, none⟩), .pointer (some ⟨w.heap.size + 1 + 1, 0, none⟩), .pointer (some ⟨lb, 0, none⟩), .pointer (some ⟨ob, 0, none⟩), .int .i64 l, .agg #[.bool LY.neg, .slice ao LY.mag.length ac, .int .i64 LY.exp], y0, y1, y2, y3, y4, y5, y6, y7, .int .u8 ↑k, .bool false, .bool false, undef, undef, undef, undef, undef, undef, undef, undef, undef, undef, undef, undef, undef, undef, undef, undef, undef, .bool false, .bool false, undef, undef, undef, undef, undef, v 0, v 1, v 2, v 3, v 4, v 5, v 6, v 7, v 8, v 9, v 10, v 11], []⟩) 12 13 (fun j => decide (j ≠ 12 ∧ j ≠ 13)) FL (fun a v => (∃ ao ac, v 11 = .agg #[.bool (L5).neg, .slice ao (L5).mag.length ac, .int .i64 (L5).exp] ∧ NS a ao ac (L5).mag) ∧ DyB O9 a (w.heap.size + 1) ∧ DyB dN0 a (w.heap.size + 1 + 1) ∧ Below w.heap.size w a) (fun a v => DyB O9 a (w.heap.size + 1) ∧ DyB L5 a (w.heap.size + 1 + 1) ∧ Below w.heap.size w a) (fun j => match j with  | _ => undef) rfl ?_ ?_
    ·intro L v w' i hL hS hi
     obtain ⟨hr1, hr2, hr3⟩ := mem_ready hi
     have hr1 : i < 14 := hr1
     try dsimp only
     have hcs : i = 0 ∨ i = 1 ∨ i = 2 ∨ i = 3 ∨ i = 4 ∨ i = 5 ∨ i = 6 ∨ i = 7 ∨ i = 8 ∨ i = 9 ∨ i = 10 ∨ i = 11 ∨ i = 12 ∨ i = 13 := by omega
     clear hr1 hr2 hr3
     rcases hcs with rfl | rfl | rfl | rfl | rfl | rfl | rfl | rfl | rfl | rfl | rfl | rfl | rfl | rfl
     ·have hns := hS.open hL hi rfl
      have hB := hS.a hns
      refine wpOpT_of (fun K hK => ?_)
      unfold wpOp
      go_simp
      refine Or.inl ?_
      go_at_call 18
      refine (c9 _).mono ?_
      rintro e w1 ⟨ro, rc, rfl, kr, bc⟩
      exact hK _ _ ⟨putT v 0 (.agg #[.bool (N9).neg, .slice ro (N9).mag.length rc, .int .i64 (N9).exp]), (by simp [putT]), hS.step hL hi rfl (by decide) (by decide) (bc) (Lz.toGn F0 (⟨_, _, rfl, kr⟩))⟩
     ·have hns := hS.open hL hi rfl
      have hB := hS.a hns
      obtain ⟨pa, pc, PB, PN⟩ := T.o.below hB
      obtain ⟨p0, p1, p2, _, _, _, _, _⟩ := id PB
      refine wpOpT_of (fun K hK => ?_)
      unfold wpOp
      go_simp
      refine Or.inl ?_
      exact hK _ _ ⟨putT v 1 (.agg #[.bool (OI).neg, .slice pa (OI).mag.length pc, .int .i64 (OI).exp]), (by simp [putT]), hS.step hL hi rfl (by decide) (by decide) (Below.refl _ _) (Lz.toGn F1 (⟨_, _, rfl, PN⟩))⟩
     ·have hns := hS.open hL hi rfl
      have hB := hS.a hns
      obtain ⟨pa, pc, PB, PN⟩ := T.o.below hB
      obtain ⟨p0, p1, p2, _, _, _, _, _⟩ := id PB
      refine wpOpT_of (fun K hK => ?_)
      unfold wpOp
      go_simp
      refine Or.inl ?_
      exact hK _ _ ⟨putT v 2 (.agg #[.bool (OI).neg, .slice pa (OI).mag.length pc, .int .i64 (OI).exp]), (by simp [putT]), hS.step hL hi rfl (by decide) (by decide) (Below.refl _ _) (Lz.toGn F2 (⟨_, _, rfl, PN⟩))⟩
     ·have hns := hS.open hL hi rfl
      have hB := hS.a hns
      obtain ⟨ao_0, ac_0, e0, u0⟩ := Lz.ofGn (hS.f hns 0 rfl (ready_dep hi 0 (by kernel_rfl))) F0
      obtain ⟨ao_1, ac_1, e1, u1⟩ := Lz.ofGn (hS.f hns 1 rfl (ready_dep hi 1 (by kernel_rfl))) F1
      obtain ⟨ao_2, ac_2, e2, u2⟩ := Lz.ofGn (hS.f hns 2 rfl (ready_dep hi 2 (by kernel_rfl))) F2
      refine wpOpT_of (fun K hK => ?_)
      unfold wpOp
      simp only [e0, e1, e2]
      go_simp
      refine Or.inl ?_
      exact hK _ _ ⟨putT v 3 (.slice (some ⟨w'.heap.size, 0, none⟩) 3 3), (by simp [putT, e0, e1, e2]), hS.step hL hi rfl (by decide) (by decide) ((Below.refl _ _).alloc (Nat.le_refl _) _) (Lz.toGn F3 (⟨_, rfl, drow_three _ u0 u1 u2⟩))⟩
     ·have hns := hS.open hL hi rfl
      have hB := hS.a hns
      obtain ⟨b_3, e3, u3⟩ := Lz.ofGn (hS.f hns 3 rfl (ready_dep hi 3 (by kernel_rfl))) F3
      refine wpOpT_of (fun K hK => ?_)
      unfold wpOp
      simp only [e3]
      go_simp
      refine Or.inl ?_
      go_at_call 7
      refine (t9 _ _ u3).mono ?_
      rintro e w1 ⟨ro, rc, rfl, kr, bc⟩
      exact hK _ _ ⟨putT v 4 (.agg #[.bool (O9).neg, .slice ro (O9).mag.length rc, .int .i64 (O9).exp]), (by simp [putT, e3]), hS.step hL hi rfl (by decide) (by decide) (bc) (Lz.toGn F4 (⟨_, _, rfl, kr⟩))⟩
     ·have hns := hS.open hL hi rfl
      have hB := hS.a hns
      obtain ⟨pa, pc, PB, PN⟩ := T.l.below hB
      obtain ⟨p0, p1, p2, _, _, _, _, _⟩ := id PB
      refine wpOpT_of (fun K hK => ?_)
      unfold wpOp
      go_simp
      refine Or.inl ?_
      exact hK _ _ ⟨putT v 5 (.agg #[.bool (LY).neg, .slice pa (LY).mag.length pc, .int .i64 (LY).exp]), (by simp [putT]), hS.step hL hi rfl (by decide) (by decide) (Below.refl _ _) (Lz.toGn F5 (⟨_, _, rfl, PN⟩))⟩
     ·have hns := hS.open hL hi rfl
      have hB := hS.a hns
      obtain ⟨pa, pc, PB, PN⟩ := T.l.below hB
      obtain ⟨p0, p1, p2, _, _, _, _, _⟩ := id PB
      refine wpOpT_of (fun K hK => ?_)
      unfold wpOp
      go_simp
      refine Or.inl ?_
      exact hK _ _ ⟨putT v 6 (.agg #[.bool (LY).neg, .slice pa (LY).mag.length pc, .int .i64 (LY).exp]), (by simp [putT]), hS.step hL hi rfl (by decide) (by decide) (Below.refl _ _) (Lz.toGn F6 (⟨_, _, rfl, PN⟩))⟩
     ·have hns := hS.open hL hi rfl
      have hB := hS.a hns
      obtain ⟨pa, pc, PB, PN⟩ := T.l.below hB
      obtain ⟨p0, p1, p2, _, _, _, _, _⟩ := id PB
      refine wpOpT_of (fun K hK => ?_)
      unfold wpOp
      go_simp
      refine Or.inl ?_
      exact hK _ _ ⟨putT v 7 (.agg #[.bool (LY).neg, .slice pa (LY).mag.length pc, .int .i64 (LY).exp]), (by simp [putT]), hS.step hL hi rfl (by decide) (by decide) (Below.refl _ _) (Lz.toGn F7 (⟨_, _, rfl, PN⟩))⟩
     ·have hns := hS.open hL hi rfl
      have hB := hS.a hns
      obtain ⟨pa, pc, PB, PN⟩ := T.l.below hB
      obtain ⟨p0, p1, p2, _, _, _, _, _⟩ := id PB
      refine wpOpT_of (fun K hK => ?_)
      unfold wpOp
      go_simp
      refine Or.inl ?_
      exact hK _ _ ⟨putT v 8 (.agg #[.bool (LY).neg, .slice pa (LY).mag.length pc, .int .i64 (LY).exp]), (by simp [putT]), hS.step hL hi rfl (by decide) (by decide) (Below.refl _ _) (Lz.toGn F8 (⟨_, _, rfl, PN⟩))⟩
     ·have hns := hS.open hL hi rfl
      have hB := hS.a hns
      obtain ⟨pa, pc, PB, PN⟩ := T.l.below hB
      obtain ⟨p0, p1, p2, _, _, _, _, _⟩ := id PB
      refine wpOpT_of (fun K hK => ?_)
      unfold wpOp
      go_simp
      refine Or.inl ?_
      exact hK _ _ ⟨putT v 9 (.agg #[.bool (LY).neg, .slice pa (LY).mag.length pc, .int .i64 (LY).exp]), (by simp [putT]), hS.step hL hi rfl (by decide) (by decide) (Below.refl _ _) (Lz.toGn F9 (⟨_, _, rfl, PN⟩))⟩
     ·have hns := hS.open hL hi rfl
      have hB := hS.a hns
      obtain ⟨ao_5, ac_5, e5, u5⟩ := Lz.ofGn (hS.f hns 5 rfl (ready_dep hi 5 (by kernel_rfl))) F5
      obtain ⟨ao_6, ac_6, e6, u6⟩ := Lz.ofGn (hS.f hns 6 rfl (ready_dep hi 6 (by kernel_rfl))) F6
      obtain ⟨ao_7, ac_7, e7, u7⟩ := Lz.ofGn (hS.f hns 7 rfl (ready_dep hi 7 (by kernel_rfl))) F7
      obtain ⟨ao_8, ac_8, e8, u8⟩ := Lz.ofGn (hS.f hns 8 rfl (ready_dep hi 8 (by kernel_rfl))) F8
      obtain ⟨ao_9, ac_9, e9, u9⟩ := Lz.ofGn (hS.f hns 9 rfl (ready_dep hi 9 (by kernel_rfl))) F9
      refine wpOpT_of (fun K hK => ?_)
      unfold wpOp
      simp only [e5, e6, e7, e8, e9]
      go_simp
      refine Or.inl ?_
      exact hK _ _ ⟨putT v 10 (.slice (some ⟨w'.heap.size, 0, none⟩) 5 5), (by simp [putT, e5, e6, e7, e8, e9]), hS.step hL hi rfl (by decide) (by decide) ((Below.refl _ _).alloc (Nat.le_refl _) _) (Lz.toGn F10 (⟨_, rfl, drow_five _ u5 u6 u7 u8 u9⟩))⟩
     ·have hns := hS.open hL hi rfl
      have hB := hS.a hns
      obtain ⟨b_10, e10, u10⟩ := Lz.ofGn (hS.f hns 10 rfl (ready_dep hi 10 (by kernel_rfl))) F10
      refine wpOpT_of (fun K hK => ?_)
      unfold wpOp
      simp only [e10]
      go_simp
      refine Or.inl ?_
      go_at_call 7
      refine (t5 _ _ u10).mono ?_
      rintro e w1 ⟨ro, rc, rfl, kr, bc⟩
      exact hK _ _ ⟨putT v 11 (.agg #[.bool (L5).neg, .slice ro (L5).mag.length rc, .int .i64 (L5).exp]), (by simp [putT, e10]), hS.step hL hi rfl (by decide) (by decide) (bc) (Lz.toGn F11 (⟨_, _, rfl, kr⟩))⟩
     ·have hns := fun q => offT_not (by rw [hL]; exact (mem_ready hi).1) (mem_ready hi).2.1 q
      have hB := hS.a hns
      obtain ⟨ao_4, ac_4, e4, u4⟩ := Lz.ofGn (hS.f hns 4 rfl (ready_dep hi 4 (by kernel_rfl))) F4
      obtain ⟨ao_11, ac_11, e11, u11⟩ := Lz.ofGn (hS.f hns 11 rfl (ready_dep hi 11 (by kernel_rfl))) F11
      have TB := T.below hB
      obtain ⟨qa, qc, QB, QN⟩ := id TB.r6
      obtain ⟨p0, p1, p2, s0, s1, s2, _, _⟩ := id QB
      refine wpOpT_of (fun K hK => ?_)
      unfold wpOp
      simp only [e4, e11]
      go_simp
      refine Or.inl ?_
      exact hK _ _ ⟨putT v 12 undef, (by simp [putT, e4, e11]), hS.last1 hL hi (by decide) (by kernel_rfl) (⟨⟨_, _, by simp [putT, e11], u11.set3 QB _ _ _⟩, TB.r6.fill u4, TB.r7.far TB.r6 (by omega) _ _ _, below_set3 (hb2.trans (hB.mono hb2.size)) (by omega) _ _ _⟩)⟩
     ·obtain ⟨⟨zo, zc, ez, uz⟩, q1, q2, q3⟩ := hS.z1 (ready_dep hi 12 (by kernel_rfl)) (fun q => offT_not (by rw [hL]; exact (mem_ready hi).1) (mem_ready hi).2.1 q)
      obtain ⟨qa, qc, QB, QN⟩ := id q2
      obtain ⟨p0, p1, p2, s0, s1, s2, _, _⟩ := id QB
      refine wpOpT_of (fun K hK => ?_)
      unfold wpOp
      simp only [ez]
      go_simp
      refine Or.inl ?_
      exact hK _ _ ⟨putT v 13 undef, (by simp [putT, ez]), hS.last2 hL hi (by kernel_rfl) (⟨q1.far q2 (by omega) _ _ _, q2.fill uz, below_set3 q3 (by omega) _ _ _⟩)⟩
    ·intro L v w' hL hS hr
     have on := all_done hL hr (by kernel_rfl)
     obtain ⟨G6, G7, hz⟩ := hS.z2 (on 13 (by decide))
     try dsimp only
     generalize v 0 = yz0 at *
     generalize v 1 = yz1 at *
     generalize v 2 = yz2 at *
     generalize v 3 = yz3 at *
     generalize v 4 = yz4 at *
     generalize v 5 = yz5 at *
     generalize v 6 = yz6 at *
     generalize v 7 = yz7 at *
     generalize v 8 = yz8 at *
     generalize v 9 = yz9 at *
     generalize v 10 = yz10 at *
     generalize v 11 = yz11 at *
     clear hS on hr hL v F0 F1 F2 F3 F4 F5 F6 F7 F8 F9 F10 F11 F12 F13 FL L
     obtain ⟨ga, gc, GB, GN⟩ := G6
     obtain ⟨ja, jc, JB, JN⟩ := G7
     obtain ⟨z0, z1, z2, _, _, _, _, _⟩ := id GB
     obtain ⟨h0, h1, h2, _, _, _, _, _⟩ := id JB
     go_wp2
     exact bodyPost_ret (v := .tuple #[.agg #[.bool (O9).neg, .slice ga (O9).mag.length gc, .int .i64 (O9).exp], .agg #[.bool (L5).neg, .slice ja (L5).mag.length jc, .int .i64 (L5).exp]]) (by simp [results, Tryz.results6, go_sem, z0, z1, z2, h0, h1, h2]) rfl ⟨ga, gc, ja, jc, rfl, GN, JN, hz⟩
end Go.Proofs.YtfipmopmpacdaaaGreatDoor
