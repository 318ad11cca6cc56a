/- The laws' like. -/
import Derived.Test.YtpnmjmidlbilcaaDoorRtr
namespace Go.Proofs.YtpnmjmidlbilcaaDoor
open Go.RowKit

set_option maxHeartbeats 400000 in
/-- Where the first one is too long. -/
theorem like_one (v0 v1 v2 u0 u1 u2 : Value) (f : Int) (w : World) :
    Calls Tryd.prog 25 #[.agg #[v0, v1, v2], .int .i64 3, .agg #[u0, u1, u2], .int .i64 f] w fun e w' => e = .returned (.bool true) ∧ Below w.heap.size w w' := by
  have hs1 : (w.alloc (.cells #[v0, v1, v2] 25)).heap.size = w.heap.size + 1 := by simp
  have hb0 : Below w.heap.size w ((w.alloc (.cells #[v0, v1, v2] 25)).alloc (.cells #[u0, u1, u2] 25)) := ((Below.refl _ _).alloc (Nat.le_refl _) _).alloc (by rw [hs1]; omega) _
  go_enter Tryd.func25, Tryd.ntmps25
  go_wp2
  go_ret
  exact ⟨rfl, hb0⟩
set_option maxHeartbeats 400000 in
/-- Where the second one is too long. -/
theorem like_two (v0 v1 v2 u0 u1 u2 : Value) (w : World) :
    Calls Tryd.prog 25 #[.agg #[v0, v1, v2], .int .i64 0, .agg #[u0, u1, u2], .int .i64 3] w fun e w' => e = .returned (.bool true) ∧ Below w.heap.size w w' := by
  have hs1 : (w.alloc (.cells #[v0, v1, v2] 25)).heap.size = w.heap.size + 1 := by simp
  have hb0 : Below w.heap.size w ((w.alloc (.cells #[v0, v1, v2] 25)).alloc (.cells #[u0, u1, u2] 25)) := ((Below.refl _ _).alloc (Nat.le_refl _) _).alloc (by rw [hs1]; omega) _
  go_enter Tryd.func25, Tryd.ntmps25
  go_wp2
  go_ret
  exact ⟨rfl, hb0⟩
set_option maxHeartbeats 1000000 in
/-- Where both are the same right one. -/
theorem like_same (n : Bool) (N D : Nat) (ao1 bo1 ao2 bo2 : Option Addr) (ac1 bc1 ac2 bc2 : Nat) (w : World) (a1 : LS w ao1 ac1 (lo N)) (b1 : LS w bo1 bc1 (lo D)) (a2 : LS w ao2 ac2 (lo N)) (b2 : LS w bo2 bc2 (lo D)) (hT : TabW w) (R : RqB n N D) :
    Calls Tryd.prog 25 #[.agg #[.bool n, .slice ao1 (nl N) ac1, .slice bo1 (nl D) bc1], .int .i64 0, .agg #[.bool n, .slice ao2 (nl N) ac2, .slice bo2 (nl D) bc2], .int .i64 0] w fun e w' => e = .returned (.bool true) ∧ Below w.heap.size w w' := by
  have AB := (B3q.new w (.bool n) (.slice ao1 (nl N) ac1) (.slice bo1 (nl D) bc1) 25).alloc (.cells #[.bool n, .slice ao2 (nl N) ac2, .slice bo2 (nl D) bc2] 25)
  have BB := B3q.new (w.alloc (.cells #[.bool n, .slice ao1 (nl N) ac1, .slice bo1 (nl D) bc1] 25)) (.bool n) (.slice ao2 (nl N) ac2) (.slice bo2 (nl D) bc2) 25
  have hs1 : (w.alloc (.cells #[.bool n, .slice ao1 (nl N) ac1, .slice bo1 (nl D) bc1] 25)).heap.size = w.heap.size + 1 := by simp
  rw [hs1] at BB
  have hb0 : Below w.heap.size w ((w.alloc (.cells #[.bool n, .slice ao1 (nl N) ac1, .slice bo1 (nl D) bc1] 25)).alloc (.cells #[.bool n, .slice ao2 (nl N) ac2, .slice bo2 (nl D) bc2] 25)) := ((Below.refl _ _).alloc (Nat.le_refl _) _).alloc (by rw [hs1]; omega) _
  have c1 := sameR_any n n N D N D ao1 bo1 ao2 bo2 ac1 bc1 ac2 bc2 _ (a1.below hb0).1 (b1.below hb0).1 (a2.below hb0).1 (b2.below hb0).1 R.n R.d
  have es : smB n n N D N D = true := by unfold smB; simp
  rw [es] at c1
  have T1 := tabW_below hT hb0
  have A1 := a1.below hb0
  have B1 := b1.below hb0
  go_enter Tryd.func25, Tryd.ntmps25
  go_upto_region 1 with fail
  generalize (w.alloc (.cells #[.bool n, .slice ao1 (nl N) ac1, .slice bo1 (nl D) bc1] 25)).alloc (.cells #[.bool n, .slice ao2 (nl N) ac2, .slice bo2 (nl D) bc2] 25) = W0 at *
  have r1 := fun w' (h : Below W0.heap.size W0 w') => rrightq_any n N D ao1 bo1 ac1 bc1 w' (A1.1.below h) (B1.1.below h) (tabW_below T1 h) R
  obtain ⟨x0, x1, x2, _, _, _, _, _⟩ := id AB
  obtain ⟨y0, y1, y2, _, _, _, _, _⟩ := id BB
  go_wp2_with (first | (go_at_call 19; refine c1.mono ?_; rintro e w2 ⟨rfl, d2⟩; have AB2 := AB.below d2; obtain ⟨z0, z1, z2, _, _, _, _, _⟩ := id AB2) | (go_at_call 21; refine (r1 _ d2).mono ?_; rintro e w3 ⟨rfl, d3⟩))
  go_ret
  exact ⟨rfl, hb0.trans ((d2.trans (d3.mono d2.size)).mono hb0.size)⟩
end Go.Proofs.YtpnmjmidlbilcaaDoor
