/- What Finite, Sign, Fits answer. -/
import Derived.Test.YtbhkgjjogepgnaaDoorZo
import Derived.Test.YtbhkgjjogepgnaaDoorFz
namespace Go.Proofs.YtbhkgjjogepgnaaDoor
open Go.RowKit

set_option maxHeartbeats 400000 in
theorem fin_yes (a : Nat) (ha : a < 18446744073709551616) (hf : finB a = true) (w : World) :
    Calls Tryd.prog 35 #[.float .f64 a] w fun e w' => e = .returned (.bool true) ∧ w' = w := by
  have hm := fun w => run_float_arith (P := Tryd.prog) w .sub 22 .f64 _ _ _ (sub_self ha hf)
  have ho : (FloatKind.f64.format.order 0 0 == some .eq) = true := by kernel_rfl
  go_enter Tryd.func35, Tryd.ntmps35
  go_wp2
  go_ret
  exact ⟨end_bool ho, rfl⟩
set_option maxHeartbeats 400000 in
theorem fin_no (a : Nat) (ha : a < 18446744073709551616) (hf : finB a = false) (w : World) :
    Calls Tryd.prog 35 #[.float .f64 a] w fun e w' => e = .returned (.bool false) ∧ w' = w.drew := by
  have hm := run_nan (P := Tryd.prog) .sub (Or.inl rfl) 22 a a (sub_inf ha hf)
  obtain ⟨h1, h2⟩ := nanW_nan a a w
  have ho : (FloatKind.f64.format.order (nanW a a w) 0 == some .eq) = false := by rw [ord_nan h2 (by omega) (Or.inl h1)]; rfl
  go_enter Tryd.func35, Tryd.ntmps35
  go_wp2
  go_ret
  exact ⟨rfl, rfl⟩

set_option maxHeartbeats 400000 in
theorem Sign_ok (neg : Bool) (xs : List Nat) (ex : Int) (ao : Option Addr) (cap : Nat) (w : World) (hr : LRow w ao xs) (hL : Lm xs) (hR : rightB ⟨neg, xs, ex⟩ = true) :
    Calls Tryd.prog 80 #[.agg #[.bool neg, .slice ao xs.length cap, .int .i64 ex]] w fun e w' => e = .returned (.tuple #[.int .i64 (sgD ⟨neg, xs, ex⟩), .int .i64 0]) ∧ Below w.heap.size w w' := by
  go_enter Tryd.func80, Tryd.ntmps80
  go_wp2_with (first | (go_at_call 36; refine (right_any ⟨neg, xs, ex⟩ ao cap _ (hr.alloc _) hL).mono ?_; rintro e w1 ⟨rfl, hb1⟩; obtain ⟨⟨c0, c1, c2⟩, ho1⟩ := one_box hb1) | (go_at_call 95; refine (sign_any ⟨neg, xs, ex⟩ ao cap _).mono ?_; rintro e w2 ⟨rfl, hb2⟩))
  go_ret2
  exact ⟨rfl, ho1.trans (hb2.mono ho1.size)⟩
set_option maxHeartbeats 400000 in
theorem Sign_arg (neg : Bool) (xs : List Nat) (ex : Int) (ao : Option Addr) (cap : Nat) (w : World) (hr : LRow w ao xs) (hL : Lm xs) (hR : rightB ⟨neg, xs, ex⟩ = false) :
    Calls Tryd.prog 80 #[.agg #[.bool neg, .slice ao xs.length cap, .int .i64 ex]] w fun e w' => e = .returned (.tuple #[.int .i64 0, .int .i64 2]) ∧ Below w.heap.size w w' := by
  go_enter Tryd.func80, Tryd.ntmps80
  go_wp2_with (first | (go_at_call 36; refine (right_any ⟨neg, xs, ex⟩ ao cap _ (hr.alloc _) hL).mono ?_; rintro e w1 ⟨rfl, hb1⟩; obtain ⟨⟨c0, c1, c2⟩, ho1⟩ := one_box hb1))
  go_ret2
  exact ⟨rfl, ho1⟩

/-- Is a right dyad a finite float? -/
def fitB (d : Dy) : Bool := rightB d && decide (d.mag.length ≤ 1) && okP (lmb d.mag 0) d.exp
end Go.Proofs.YtbhkgjjogepgnaaDoor
