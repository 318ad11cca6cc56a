/- What Add and Sub answer, right or not. -/
import Derived.Test.YtnclddfljghebaaDoorZp
import Derived.Test.YtnclddfljghebaaDoorDx
namespace Go.Proofs.YtnclddfljghebaaDoor
open Go.RowKit

theorem three_box (w : World) (x0 x1 x2 y0 y1 y2 z0 z1 z2 : Value) (s t u : TypeId) :
    let W := (((w.alloc (.cells #[x0, x1, x2] s)).alloc (.cells #[y0, y1, y2] t)).alloc (.cells #[z0, z1, z2] u)).drew
    W.cell? ⟨w.heap.size, 0, none⟩ = some x0 ∧ W.cell? ⟨w.heap.size, 1, none⟩ = some x1 ∧ W.cell? ⟨w.heap.size, 2, none⟩ = some x2 ∧ W.cell? ⟨w.heap.size + 1, 0, none⟩ = some y0 ∧ W.cell? ⟨w.heap.size + 1, 1, none⟩ = some y1 ∧ W.cell? ⟨w.heap.size + 1, 2, none⟩ = some y2 := by
  refine ⟨?_, ?_, ?_, ?_, ?_, ?_⟩ <;> go_simp

theorem box3m {w w1 : World} {x0 x1 x2 y0 y1 y2 z0 z1 z2 : Value} {s t u : TypeId} (hb : Below (((w.alloc (.cells #[x0, x1, x2] s)).alloc (.cells #[y0, y1, y2] t)).alloc (.cells #[z0, z1, z2] u)).heap.size (((w.alloc (.cells #[x0, x1, x2] s)).alloc (.cells #[y0, y1, y2] t)).alloc (.cells #[z0, z1, z2] u)) w1) :
    (w1.frozen? ⟨w.heap.size, 0, none⟩ = false ∧ w1.frozen? ⟨w.heap.size, 1, none⟩ = false ∧ w1.frozen? ⟨w.heap.size, 2, none⟩ = false) ∧ (w1.frozen? ⟨w.heap.size + 1, 0, none⟩ = false ∧ w1.frozen? ⟨w.heap.size + 1, 1, none⟩ = false ∧ w1.frozen? ⟨w.heap.size + 1, 2, none⟩ = false) := by
  obtain ⟨hc, hf⟩ := oldc hb
  have l0 : w.heap.size < (((w.alloc (.cells #[x0, x1, x2] s)).alloc (.cells #[y0, y1, y2] t)).alloc (.cells #[z0, z1, z2] u)).heap.size := by go_simp
  have l1 : w.heap.size + 1 < (((w.alloc (.cells #[x0, x1, x2] s)).alloc (.cells #[y0, y1, y2] t)).alloc (.cells #[z0, z1, z2] u)).heap.size := by go_simp
  refine ⟨⟨?_, ?_, ?_⟩, ?_, ?_, ?_⟩
  · rw [hf _ _ l0]; go_simp
  · rw [hf _ _ l0]; go_simp
  · rw [hf _ _ l0]; go_simp
  · rw [hf _ _ l1]; go_simp
  · rw [hf _ _ l1]; go_simp
  · rw [hf _ _ l1]; go_simp

abbrev box3W (w : World) (n1 n2 : Bool) (l1 l2 : Nat) (e1 e2 : Int) (ao bo : Option Addr) (cap bcap : Nat) : World :=
  ((w.alloc (.cells #[.bool n1, .slice ao l1 cap, .int .i64 e1] 47)).alloc (.cells #[.bool n2, .slice bo l2 bcap, .int .i64 e2] 47)).alloc (.cells #[.bool false, .slice none 0 0, .int .i64 0] 47)

theorem swap_box {w1 : World} {p : Nat} {x0 x1 x2 y0 y1 y2 z0 z1 z2 : Value} (a0 a1 a2 b0 b1 b2 : Value)
    (hx : w1.cell? ⟨p, 0, none⟩ = some x0 ∧ w1.cell? ⟨p, 1, none⟩ = some x1 ∧ w1.cell? ⟨p, 2, none⟩ = some x2 ∧ w1.cell? ⟨p + 1, 0, none⟩ = some y0 ∧ w1.cell? ⟨p + 1, 1, none⟩ = some y1 ∧ w1.cell? ⟨p + 1, 2, none⟩ = some y2)
    (hz : w1.cell? ⟨p + 1 + 1, 0, none⟩ = some z0 ∧ w1.cell? ⟨p + 1 + 1, 1, none⟩ = some z1 ∧ w1.cell? ⟨p + 1 + 1, 2, none⟩ = some z2)
    (hm : w1.frozen? ⟨p + 1 + 1, 0, none⟩ = false ∧ w1.frozen? ⟨p + 1 + 1, 1, none⟩ = false ∧ w1.frozen? ⟨p + 1 + 1, 2, none⟩ = false) (wS : World)
    (hS : wS = (((((w1.setCell ⟨p, 0, none⟩ a0).setCell ⟨p, 1, none⟩ a1).setCell ⟨p, 2, none⟩ a2).setCell ⟨p + 1, 0, none⟩ b0).setCell ⟨p + 1, 1, none⟩ b1).setCell ⟨p + 1, 2, none⟩ b2) :
    (wS.cell? ⟨p, 0, none⟩ = some a0 ∧ wS.cell? ⟨p, 1, none⟩ = some a1 ∧ wS.cell? ⟨p, 2, none⟩ = some a2 ∧ wS.cell? ⟨p + 1, 0, none⟩ = some b0 ∧ wS.cell? ⟨p + 1, 1, none⟩ = some b1 ∧ wS.cell? ⟨p + 1, 2, none⟩ = some b2) ∧
    (wS.cell? ⟨p + 1 + 1, 0, none⟩ = some z0 ∧ wS.cell? ⟨p + 1 + 1, 1, none⟩ = some z1 ∧ wS.cell? ⟨p + 1 + 1, 2, none⟩ = some z2) ∧
    (wS.frozen? ⟨p + 1 + 1, 0, none⟩ = false ∧ wS.frozen? ⟨p + 1 + 1, 1, none⟩ = false ∧ wS.frozen? ⟨p + 1 + 1, 2, none⟩ = false) := by
  obtain ⟨i0, i1, i2, i3, i4, i5⟩ := hx
  obtain ⟨i6, i7, i8⟩ := hz
  obtain ⟨i9, i10, i11⟩ := hm
  have ne1 : ¬ p = p + 1 + 1 := by omega
  have ne2 : ¬ p + 1 + 1 = p := by omega
  subst hS
  refine ⟨⟨?_, ?_, ?_, ?_, ?_, ?_⟩, ⟨?_, ?_, ?_⟩, ?_, ?_, ?_⟩ <;> go_simp

theorem sz_at {d : Dy} {low : Int} (h1 : -65536 ≤ low) (h2 : low ≤ d.exp) : sz d = atL d low * 2 ^ (low + 65536).toNat := by
  unfold sz atL
  rw [Nat.mul_assoc, ← Nat.pow_add, show (d.exp - low).toNat + (low + 65536).toNat = (d.exp + 65536).toNat by omega]
/-- What is known ahead of the loop: the two boxes hold x and y, and the sum or the difference is the answer. -/
structure Tail (w : World) (low W : Int) (r : Dy × Int) (st : Bool) (x y : Dy) (ax ay : Option Addr) (cx cy : Nat) (wx : World) : Prop where
  cells : wx.cell? ⟨w.heap.size, 0, none⟩ = some (.bool x.neg) ∧ wx.cell? ⟨w.heap.size, 1, none⟩ = some (.slice ax x.mag.length cx) ∧ wx.cell? ⟨w.heap.size, 2, none⟩ = some (.int .i64 x.exp) ∧ wx.cell? ⟨w.heap.size + 1, 0, none⟩ = some (.bool y.neg) ∧ wx.cell? ⟨w.heap.size + 1, 1, none⟩ = some (.slice ay y.mag.length cy) ∧ wx.cell? ⟨w.heap.size + 1, 2, none⟩ = some (.int .i64 y.exp)
  out : wx.cell? ⟨w.heap.size + 1 + 1, 0, none⟩ = some (.bool false) ∧ wx.cell? ⟨w.heap.size + 1 + 1, 1, none⟩ = some (.slice none 0 0) ∧ wx.cell? ⟨w.heap.size + 1 + 1, 2, none⟩ = some (.int .i64 0)
  marks : wx.frozen? ⟨w.heap.size + 1 + 1, 0, none⟩ = false ∧ wx.frozen? ⟨w.heap.size + 1 + 1, 1, none⟩ = false ∧ wx.frozen? ⟨w.heap.size + 1 + 1, 2, none⟩ = false
  rx : LRow w ax x.mag
  ry : LRow w ay y.mag
  lx : Lm x.mag
  ly : Lm y.mag
  x0 : vl x.mag ≠ 0
  y0 : vl y.mag ≠ 0
  ex : low ≤ x.exp ∧ x.exp ≤ 65536
  ey : low ≤ y.exp ∧ y.exp ≤ 65536
  widx : (bl (vl x.mag) : Int) + x.exp - low ≤ W
  widy : (bl (vl y.mag) : Int) + y.exp - low ≤ W
  old : Below w.heap.size w wx
  answer : (st = true → ∀ zs, vl zs = atL x low + atL y low → normD ⟨x.neg, zs, low⟩ = r) ∧ (st = false → atL y low ≤ atL x low ∧ ∀ zs, vl zs + atL y low = atL x low → normD ⟨x.neg, zs, low⟩ = r)
end Go.Proofs.YtnclddfljghebaaDoor

namespace Go.Proofs.YtnclddfljghebaaDoor
open Go.RowKit

end Go.Proofs.YtnclddfljghebaaDoor

namespace Go.Proofs.YtnclddfljghebaaDoor
open Go.RowKit

theorem trn_right {d : Dy} (h : rightB d = true) : rightB (trn d) = true := by
  rcases right_cases h with rfl | ⟨h1, h2⟩
  · rfl
  · exact right_of (d := trn d) h1 h2
theorem trn_qd {d : Dy} (h : rightB d = true) : qd (trn d) = -qd d := by
  rcases right_cases h with rfl | ⟨h1, h2⟩
  · unfold qd; rw [show sv (trn dy0) = 0 from rfl, show sv dy0 = 0 from rfl]; simp
  · have e : sv (trn d) = -sv d := by
      unfold sv trn
      have : decide (0 < d.mag.length) = true := decide_eq_true (by omega)
      simp only [this, Bool.and_true]
      cases d.neg <;> simp
    unfold qd
    rw [e, Int.neg_mul]
    rfl
theorem sub_add {a b : Dy} (rb : rightB b = true) : subD a b = addD a (trn b) := by
  unfold subD addD
  rw [rb, trn_right rb, trn_qd rb, Int.sub_eq_add_neg]

end Go.Proofs.YtnclddfljghebaaDoor

namespace Go.Proofs.YtnclddfljghebaaDoor
open Go.RowKit

end Go.Proofs.YtnclddfljghebaaDoor
