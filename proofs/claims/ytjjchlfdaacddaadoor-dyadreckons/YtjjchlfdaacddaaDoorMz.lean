/- DyadReckons: what two lent dyads and their results hold on to; the statement that lends both (its orders). -/
import Derived.Test.YtjjchlfdaacddaaDoorMe
import Derived.Test.YtjjchlfdaacddaaDoorMr
import Derived.Test.YtjjchlfdaacddaaDoorMo
import Derived.Test.YtjjchlfdaacddaaDoorMp
import Derived.Test.YtjjchlfdaacddaaDoorMn
import Derived.Test.YtjjchlfdaacddaaDoorMl
import Derived.Deep.RegionHeld3
namespace Go.Proofs.YtjjchlfdaacddaaDoor
open Go.RowKit

theorem Lent.far {w w1 : World} {g h : Nat} {xs : List Nat} (l : Lent w g xs) (hg : w.grownBy w1 (some h)) (hne : g ≠ h) : Lent w1 g xs := by
  have hl := l.lt
  refine ⟨l.1, ?_⟩
  rcases l.2 with ⟨e, _⟩ | ⟨g', cap, cur, e, h1, h2, h3⟩
  · cases e
  · cases e
    refine Or.inr ⟨g, _, cur, rfl, h1, ?_, h3⟩
    rw [hg.block g hl (fun e => hne (Option.some.inj e))]
    exact h2
/-- Both dyads as they came, and both lent. -/
structure Rk (w : World) (a b : Dy) (ao bo : Option Addr) (cap bcap P Q g h : Nat) (wx : World) : Prop where
  qa : Hd wx w.heap.size a ao cap
  qb : Hd wx (w.heap.size + 1) b bo bcap
  px : Hd wx P a (some ⟨g, 0, none⟩) (a.mag.length + 12)
  py : Hd wx Q b (some ⟨h, 0, none⟩) (b.mag.length + 12)
  lx : Lent wx g a.mag
  ly : Lent wx h b.mag
  bel : Below w.heap.size w wx
theorem Rk.below {w : World} {a b : Dy} {ao bo : Option Addr} {cap bcap P Q g h : Nat} {wx wy : World} (k : Rk w a b ao bo cap bcap P Q g h wx) (hb : Below wx.heap.size wx wy) : Rk w a b ao bo cap bcap P Q g h wy :=
  ⟨k.qa.below hb, k.qb.below hb, k.px.below hb, k.py.below hb, k.lx.below hb, k.ly.below hb, k.bel.trans (hb.mono k.bel.size)⟩
/-- Where the four blocks lie, and that all results lie behind M. -/
structure Rm (w : World) (P Q g h M : Nat) (wx : World) : Prop where
  g1 : w.heap.size + 1 < g
  h1 : w.heap.size + 1 < h
  gh : g ≠ h
  Pg : P ≠ g
  Ph : P ≠ h
  Qg : Q ≠ g
  Qh : Q ≠ h
  gM : g < M
  hM : h < M
  Mx : M ≤ wx.heap.size
/-- A result in its box. -/
structure Rs (M : Nat) (wx : World) (S : Nat) (r : Dy) (o : Option Addr) (c : Nat) : Prop where
  hd : Hd wx S r o c
  fr : Frs M o
  le : M ≤ S
theorem Rs.below {M : Nat} {wx wy : World} {S : Nat} {r : Dy} {o : Option Addr} {c : Nat} (k : Rs M wx S r o c) (hb : Below wx.heap.size wx wy) : Rs M wy S r o c := ⟨k.hd.below hb, k.fr, k.le⟩
theorem Rs.far {M : Nat} {wx wy : World} {S : Nat} {r : Dy} {o : Option Addr} {c g : Nat} (k : Rs M wx S r o c) (hg : wx.grownBy wy (some g)) (h : g < M) : Rs M wy S r o c :=
  ⟨k.hd.far hg (by have := k.le; omega) (fun a e => by have := k.fr a e; omega), k.fr, k.le⟩
theorem ndrew {w w1 : World} (h : Below w.heap.size w w1) : Below w.drew.heap.size w.drew w1 := ⟨h.os, h.tape, h.output, h.size, h.block⟩
/-- Both dyads as they came, and both lent rows: what stands ahead of the boxes. -/
structure Rb (w : World) (a b : Dy) (ao bo : Option Addr) (cap bcap g h : Nat) (wx : World) : Prop where
  qa : Hd wx w.heap.size a ao cap
  qb : Hd wx (w.heap.size + 1) b bo bcap
  lx : Lent wx g a.mag
  ly : Lent wx h b.mag
  bel : Below w.heap.size w wx
theorem Rb.below {w : World} {a b : Dy} {ao bo : Option Addr} {cap bcap g h : Nat} {wx wy : World} (k : Rb w a b ao bo cap bcap g h wx) (hb : Below wx.heap.size wx wy) : Rb w a b ao bo cap bcap g h wy :=
  ⟨k.qa.below hb, k.qb.below hb, k.lx.below hb, k.ly.below hb, k.bel.trans (hb.mono k.bel.size)⟩
theorem Rb.alloc {w : World} {a b : Dy} {ao bo : Option Addr} {cap bcap g h : Nat} {wx : World} (k : Rb w a b ao bo cap bcap g h wx) (o : Obj) : Rb w a b ao bo cap bcap g h (wx.alloc o) := k.below ((Below.refl _ _).alloc (Nat.le_refl _) _)
/-- Limbs that are older than a block, or none. -/
def Old (n : Nat) (ao : Option Addr) (d : Dy) : Prop := ∀ p, ao = some p → d.mag.length ≠ 0 → p.block < n
theorem Hd.far' {w w1 : World} {g p n : Nat} {d : Dy} {ao : Option Addr} {cap : Nat} (h : Hd w p d ao cap) (hg : w.grownBy w1 (some g)) (hp : p ≠ g) (ho : Old n ao d) (hn : n ≤ g) : Hd w1 p d ao cap := by
  refine ⟨hg.cell h.c0 (fun e => hp (by injection e)), hg.cell h.c1 (fun e => hp (by injection e)), hg.cell h.c2 (fun e => hp (by injection e)), ?_⟩
  by_cases h0 : d.mag.length = 0
  · exact Or.inl h0
  · exact h.row.far hg (fun a e => by have := ho a e h0; omega)
theorem Rb.far {w : World} {a b : Dy} {ao bo : Option Addr} {cap bcap g h P : Nat} {wx wy : World} (k : Rb w a b ao bo cap bcap g h wx) (hg : wx.grownBy wy (some P)) (oa : Old w.heap.size ao a) (ob : Old w.heap.size bo b) (h1 : w.heap.size + 1 < P) (h2 : P ≠ g) (h3 : P ≠ h) : Rb w a b ao bo cap bcap g h wy :=
  ⟨k.qa.far' hg (by omega) oa (by omega), k.qb.far' hg (by omega) ob (by omega), k.lx.far hg (Ne.symm h2), k.ly.far hg (Ne.symm h3), below_far k.bel hg (by omega)⟩
def bxs (wx : World) (P : Nat) (d : Dy) (g : Nat) : World := ((wx.setCell ⟨P, 0, none⟩ (.bool d.neg)).setCell ⟨P, 1, none⟩ (.slice (some ⟨g, 0, none⟩) d.mag.length (d.mag.length + 12))).setCell ⟨P, 2, none⟩ (.int .i64 d.exp)
theorem set_grown (w : World) (p : Addr) (v : Value) : w.grownBy (w.setCell p v) (some p.block) :=
  ⟨rfl, rfl, rfl, by simp, fun i _ hne => Below.heap_setCell w p v i (fun e => hne (by rw [e]))⟩
theorem bxs_grown (wx : World) (P : Nat) (d : Dy) (g : Nat) : wx.grownBy (bxs wx P d g) (some P) :=
  ((set_grown wx ⟨P, 0, none⟩ _).trans (set_grown _ ⟨P, 1, none⟩ _)).trans (set_grown _ ⟨P, 2, none⟩ _)
theorem bxs_hd {wx : World} {P g : Nat} {d : Dy} {x0 x1 x2 : Value} (c0 : wx.cell? ⟨P, 0, none⟩ = some x0) (c1 : wx.cell? ⟨P, 1, none⟩ = some x1) (c2 : wx.cell? ⟨P, 2, none⟩ = some x2) (hl : Lent wx g d.mag) (hne : P ≠ g) : Hd (bxs wx P d g) P d (some ⟨g, 0, none⟩) (d.mag.length + 12) := by
  refine ⟨?_, ?_, ?_, (hl.far (bxs_grown wx P d g) (Ne.symm hne)).lrow⟩
  · unfold bxs; go_simp
  · unfold bxs; go_simp
  · unfold bxs; go_simp
def bxo (d : Dy) (g : Nat) : Obj := .cells #[.bool d.neg, .slice (some ⟨g, 0, none⟩) d.mag.length (d.mag.length + 12), .int .i64 d.exp] 24
theorem Rb.whole {w : World} {a b : Dy} {ao bo : Option Addr} {cap bcap P Q g h : Nat} {wx : World} (k : Rb w a b ao bo cap bcap g h wx) (px : Hd wx P a (some ⟨g, 0, none⟩) (a.mag.length + 12)) (py : Hd wx Q b (some ⟨h, 0, none⟩) (b.mag.length + 12)) : Rk w a b ao bo cap bcap P Q g h wx :=
  ⟨k.qa, k.qb, px, py, k.lx, k.ly, k.bel⟩
section
variable {w : World} {a b : Dy} {ao bo : Option Addr} {cap bcap P Q g h : Nat} {wx : World}
theorem end_ab (k : Rb w a b ao bo cap bcap g h wx) : Rk w a b ao bo cap bcap wx.heap.size (wx.heap.size + 1) g h ((wx.alloc (.cells #[.bool a.neg, .slice (some ⟨g, 0, none⟩) a.mag.length (a.mag.length + 12), .int .i64 a.exp] 24)).alloc (.cells #[.bool b.neg, .slice (some ⟨h, 0, none⟩) b.mag.length (b.mag.length + 12), .int .i64 b.exp] 24)) := by
  have hb := Hd.new (w := wx.alloc (bxo a g)) (d := b) (cap := b.mag.length + 12) (k.alloc (bxo a g)).ly.lrow
  rw [show (wx.alloc (bxo a g)).heap.size = wx.heap.size + 1 by go_simp] at hb
  exact ((k.alloc _).alloc _).whole ((Hd.new k.lx.lrow).below ((Below.refl _ _).alloc (Nat.le_refl _) _)) hb
theorem end_ba (k : Rb w a b ao bo cap bcap g h wx) : Rk w a b ao bo cap bcap (wx.heap.size + 1) wx.heap.size g h ((wx.alloc (.cells #[.bool b.neg, .slice (some ⟨h, 0, none⟩) b.mag.length (b.mag.length + 12), .int .i64 b.exp] 24)).alloc (.cells #[.bool a.neg, .slice (some ⟨g, 0, none⟩) a.mag.length (a.mag.length + 12), .int .i64 a.exp] 24)) := by
  have hb := Hd.new (w := wx.alloc (bxo b h)) (d := a) (cap := a.mag.length + 12) (k.alloc (bxo b h)).lx.lrow
  rw [show (wx.alloc (bxo b h)).heap.size = wx.heap.size + 1 by go_simp] at hb
  exact ((k.alloc _).alloc _).whole hb ((Hd.new k.ly.lrow).below ((Below.refl _ _).alloc (Nat.le_refl _) _))
theorem end_sa (k : Rb w a b ao bo cap bcap g h wx) (oa : Old w.heap.size ao a) (ob : Old w.heap.size bo b) {x0 x1 x2 : Value} (c0 : wx.cell? ⟨P, 0, none⟩ = some x0) (c1 : wx.cell? ⟨P, 1, none⟩ = some x1) (c2 : wx.cell? ⟨P, 2, none⟩ = some x2)
    (h1 : w.heap.size + 1 < P) (h2 : P ≠ g) (h3 : P ≠ h) : Rk w a b ao bo cap bcap P wx.heap.size g h ((((wx.setCell ⟨P, 0, none⟩ (.bool a.neg)).setCell ⟨P, 1, none⟩ (.slice (some ⟨g, 0, none⟩) a.mag.length (a.mag.length + 12))).setCell ⟨P, 2, none⟩ (.int .i64 a.exp)).alloc (.cells #[.bool b.neg, .slice (some ⟨h, 0, none⟩) b.mag.length (b.mag.length + 12), .int .i64 b.exp] 24)) := by
  have hz : (bxs wx P a g).heap.size = wx.heap.size := by unfold bxs; simp
  have kk := k.far (bxs_grown wx P a g) oa ob h1 h2 h3
  have hb := Hd.new (w := bxs wx P a g) (d := b) (cap := b.mag.length + 12) kk.ly.lrow
  rw [hz] at hb
  exact (kk.alloc _).whole ((bxs_hd c0 c1 c2 k.lx h2).below ((Below.refl _ _).alloc (Nat.le_refl _) _)) hb
theorem end_sb (k : Rb w a b ao bo cap bcap g h wx) (oa : Old w.heap.size ao a) (ob : Old w.heap.size bo b) {x0 x1 x2 : Value} (c0 : wx.cell? ⟨Q, 0, none⟩ = some x0) (c1 : wx.cell? ⟨Q, 1, none⟩ = some x1) (c2 : wx.cell? ⟨Q, 2, none⟩ = some x2)
    (h1 : w.heap.size + 1 < Q) (h2 : Q ≠ g) (h3 : Q ≠ h) : Rk w a b ao bo cap bcap wx.heap.size Q g h ((((wx.setCell ⟨Q, 0, none⟩ (.bool b.neg)).setCell ⟨Q, 1, none⟩ (.slice (some ⟨h, 0, none⟩) b.mag.length (b.mag.length + 12))).setCell ⟨Q, 2, none⟩ (.int .i64 b.exp)).alloc (.cells #[.bool a.neg, .slice (some ⟨g, 0, none⟩) a.mag.length (a.mag.length + 12), .int .i64 a.exp] 24)) := by
  have hz : (bxs wx Q b h).heap.size = wx.heap.size := by unfold bxs; simp
  have kk := k.far (bxs_grown wx Q b h) oa ob h1 h2 h3
  have hb := Hd.new (w := bxs wx Q b h) (d := a) (cap := a.mag.length + 12) kk.lx.lrow
  rw [hz] at hb
  exact (kk.alloc _).whole hb ((bxs_hd c0 c1 c2 k.ly h3).below ((Below.refl _ _).alloc (Nat.le_refl _) _))
theorem end_ss (k : Rb w a b ao bo cap bcap g h wx) (oa : Old w.heap.size ao a) (ob : Old w.heap.size bo b) {x0 x1 x2 y0 y1 y2 : Value} (c0 : wx.cell? ⟨P, 0, none⟩ = some x0) (c1 : wx.cell? ⟨P, 1, none⟩ = some x1) (c2 : wx.cell? ⟨P, 2, none⟩ = some x2)
    (d0 : wx.cell? ⟨Q, 0, none⟩ = some y0) (d1 : wx.cell? ⟨Q, 1, none⟩ = some y1) (d2 : wx.cell? ⟨Q, 2, none⟩ = some y2)
    (h1 : w.heap.size + 1 < P) (h2 : P ≠ g) (h3 : P ≠ h) (k1 : w.heap.size + 1 < Q) (k2 : Q ≠ g) (k3 : Q ≠ h) (hPQ : P ≠ Q) : Rk w a b ao bo cap bcap P Q g h ((((((wx.setCell ⟨P, 0, none⟩ (.bool a.neg)).setCell ⟨P, 1, none⟩ (.slice (some ⟨g, 0, none⟩) a.mag.length (a.mag.length + 12))).setCell ⟨P, 2, none⟩ (.int .i64 a.exp)).setCell ⟨Q, 0, none⟩ (.bool b.neg)).setCell ⟨Q, 1, none⟩ (.slice (some ⟨h, 0, none⟩) b.mag.length (b.mag.length + 12))).setCell ⟨Q, 2, none⟩ (.int .i64 b.exp)) := by
  have g1 := bxs_grown wx P a g
  have kk := k.far g1 oa ob h1 h2 h3
  have g2 := bxs_grown (bxs wx P a g) Q b h
  have hq : ∀ (o : Nat) (v : Value), wx.cell? ⟨Q, o, none⟩ = some v → (bxs wx P a g).cell? ⟨Q, o, none⟩ = some v := fun o v e => g1.cell e (fun e2 => hPQ (Option.some.inj e2).symm)
  exact (kk.far g2 oa ob k1 k2 k3).whole ((bxs_hd c0 c1 c2 k.lx h2).far g2 hPQ (fun p e => by cases e; exact Ne.symm k2)) (bxs_hd (hq _ _ d0) (hq _ _ d1) (hq _ _ d2) kk.ly k3)
end
end Go.Proofs.YtjjchlfdaacddaaDoor
