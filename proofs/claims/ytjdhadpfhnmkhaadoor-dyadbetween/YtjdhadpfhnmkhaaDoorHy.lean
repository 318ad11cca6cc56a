/- How long a result is; DyadRing where one of its dyads is not made: true at once. -/
import Derived.Test.YtjdhadpfhnmkhaaDoorHb
import Derived.Test.YtjdhadpfhnmkhaaDoorZq
import Derived.Test.YtjdhadpfhnmkhaaDoorEm
namespace Go.Proofs.YtjdhadpfhnmkhaaDoor
open Go.RowKit

theorem nrm_len (m e : Int) : (nrm m e).1.mag.length ≤ 256 := by
  by_cases h : (nrm m e).2 = 0
  · exact (right_exp (nrm_ok h).1).2.2
  · rw [nrm_exp h]; simp [dy0]
theorem addD_len (d e : Dy) : (addD d e).1.mag.length ≤ 256 := by
  unfold addD
  split
  · exact nrm_len _ _
  · simp [dy0]
theorem mulD_len (d e : Dy) : (mulD d e).1.mag.length ≤ 256 := by
  unfold mulD
  split
  · exact nrm_len _ _
  · simp [dy0]
theorem addD_comm (x y : Dy) : addD x y = addD y x := by unfold addD; rw [Bool.and_comm, Int.add_comm]

set_option maxHeartbeats 2000000 in
set_option maxRecDepth 100000 in
theorem ring_early (a b c x y z : Dy) (ao bo co : Option Addr) (ac bc cc : Nat) (w : World) (ra : LRow w ao a.mag) (rb : LRow w bo b.mag) (rc : LRow w co c.mag) (hT : TabW w)
    (hmade : ∀ w', LRow w' ao a.mag → LRow w' bo b.mag → LRow w' co c.mag → TabW w' → Calls Tryd.prog 8 #[.agg #[.bool a.neg, .slice ao a.mag.length ac, .int .i64 a.exp], .agg #[.bool b.neg, .slice bo b.mag.length bc, .int .i64 b.exp], .agg #[.bool c.neg, .slice co c.mag.length cc, .int .i64 c.exp]] w' (Gave3 w' x y z false)) :
    Calls Tryd.prog 3 #[.agg #[.bool a.neg, .slice ao a.mag.length ac, .int .i64 a.exp], .agg #[.bool b.neg, .slice bo b.mag.length bc, .int .i64 b.exp], .agg #[.bool c.neg, .slice co c.mag.length cc, .int .i64 c.exp]] w fun e w' => e = .returned (.bool true) ∧ Below w.heap.size w w' := by
  go_enter Tryd.func3, Tryd.ntmps3
  go_upto_region 3 with (go_at_call 7; refine (awake_any _ (tabW_alloc (tabW_alloc (tabW_alloc hT _) _) _)).mono ?_; rintro e w1 ⟨rfl, hb1⟩)
  obtain ⟨⟨c0, c1, c2, d0, d1, d2⟩, ⟨z0, z1, z2⟩, _, ho1⟩ := box3 hb1
  clear hb1
  go_wp2_with (go_at_call 8; refine (hmade _ (ra.below ho1) (rb.below ho1) (rc.below ho1) (tabW_below hT ho1)).mono ?_; rintro e w2 ⟨xo, yo, zo, xc, yc, zc, rfl, hrx, hry, hrz, hb2⟩)
  go_ret
  have hB2 := ho1.trans (hb2.mono ho1.size)
  exact ⟨rfl, ((hB2.alloc hB2.size _).alloc (by have := hB2.size; go_simp; omega) _).alloc (by have := hB2.size; go_simp; omega) _⟩

end Go.Proofs.YtjdhadpfhnmkhaaDoor
