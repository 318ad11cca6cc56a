/- What Finite, Sign, Fits answer. -/
import Derived.Test.YtlhoidkfphellaaDoorZo
import Derived.Test.YtlhoidkfphellaaDoorFz
namespace Go.Proofs.YtlhoidkfphellaaDoor
open Go.RowKit

set_option maxHeartbeats 400000 in
theorem Sign_ok (neg : Bool) (xs : List Nat) (ex : Int) (ao : Option Addr) (cap : Nat) (w : World) (hr : LRow w ao xs) (hL : Lm xs) (hR : rightB ⟨neg, xs, ex⟩ = true) :
    Calls Tryd.prog 78 #[.agg #[.bool neg, .slice ao xs.length cap, .int .i64 ex]] w fun e w' => e = .returned (.tuple #[.int .i64 (sgD ⟨neg, xs, ex⟩), .int .i64 0]) ∧ Below w.heap.size w w' := by
  go_enter Tryd.func78, Tryd.ntmps78
  go_wp2_with (first | (go_at_call 39; refine (right_any ⟨neg, xs, ex⟩ ao cap _ (hr.alloc _) hL).mono ?_; rintro e w1 ⟨rfl, hb1⟩; obtain ⟨⟨c0, c1, c2⟩, ho1⟩ := one_box hb1) | (go_at_call 42; refine (sign_any ⟨neg, xs, ex⟩ ao cap _).mono ?_; rintro e w2 ⟨rfl, hb2⟩))
  go_ret2
  exact ⟨rfl, ho1.trans (hb2.mono ho1.size)⟩
set_option maxHeartbeats 400000 in
theorem Sign_arg (neg : Bool) (xs : List Nat) (ex : Int) (ao : Option Addr) (cap : Nat) (w : World) (hr : LRow w ao xs) (hL : Lm xs) (hR : rightB ⟨neg, xs, ex⟩ = false) :
    Calls Tryd.prog 78 #[.agg #[.bool neg, .slice ao xs.length cap, .int .i64 ex]] w fun e w' => e = .returned (.tuple #[.int .i64 0, .int .i64 2]) ∧ Below w.heap.size w w' := by
  go_enter Tryd.func78, Tryd.ntmps78
  go_wp2_with (first | (go_at_call 39; refine (right_any ⟨neg, xs, ex⟩ ao cap _ (hr.alloc _) hL).mono ?_; rintro e w1 ⟨rfl, hb1⟩; obtain ⟨⟨c0, c1, c2⟩, ho1⟩ := one_box hb1))
  go_ret2
  exact ⟨rfl, ho1⟩

/-- Is a right dyad a finite float? -/
def fitB (d : Dy) : Bool := rightB d && decide (d.mag.length ≤ 1) && okP (lmb d.mag 0) d.exp
end Go.Proofs.YtlhoidkfphellaaDoor
