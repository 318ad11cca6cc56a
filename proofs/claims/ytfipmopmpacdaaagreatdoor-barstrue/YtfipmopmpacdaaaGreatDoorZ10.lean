/- RoundProducts, whatever floats and way it is given. -/
import Derived.Test.YtfipmopmpacdaaaGreatDoorZi
import Derived.Test.YtfipmopmpacdaaaGreatDoorZo
import Derived.Test.YtfipmopmpacdaaaGreatDoorZg
import Derived.Test.YtfipmopmpacdaaaGreatDoorZt
import Derived.Test.YtfipmopmpacdaaaGreatDoorU2
import Derived.Test.YtfipmopmpacdaaaGreatDoorZm
namespace Go.Proofs.YtfipmopmpacdaaaGreatDoor
open Go.RowKit
set_option maxHeartbeats 1000000 in
theorem rmul_sp (a b : Nat) (m : Int) (ha : a < 18446744073709551616) (hb : b < 18446744073709551616) (hs : (someB a && someB b) = false) (w : World) :
  Calls Tryz.prog 56 #[.float .f64 a, .float .f64 b, .int .i8 m] w fun e w' => ∃ r, e = .returned (.float .f64 r) ∧ NR (floatBits .mul .f64 a b) r ∧ Below w.heap.size w w' := by
 have ca := some_any a ha
 have cb := some_any b hb
 have hcv := conv64
 have h1 := fun w => run_op4 (P := Tryz.prog) (op := .mul) (Or.inr (Or.inr (Or.inl rfl))) 36 a b w
 have hN := op_NR (op := .mul) (Or.inr (Or.inr (Or.inl rfl))) (a := a) (b := b)
 have hB := opW_below .mul a b (Below.refl w.heap.size w)
 cases sa : someB a <;> rw [sa] at ca
 ·go_enter Tryz.func56, Tryz.ntmps56
  go_wp2_with (go_at_call_of 73 (Value.float FloatKind.f64 a); refine (ca _).mono ?_; rintro e w' ⟨rfl, rfl⟩)
  go_ret
  exact ⟨_, rfl, hN _, hB⟩
 ·cases sb : someB b <;> rw [sb] at cb
  ·go_enter Tryz.func56, Tryz.ntmps56
   go_wp2_with (first
    | (go_at_call_of 73 (Value.float FloatKind.f64 a); refine (ca _).mono ?_; rintro e w' ⟨rfl, rfl⟩)
    | (go_at_call_of 73 (Value.float FloatKind.f64 b); refine (cb _).mono ?_; rintro e w' ⟨rfl, rfl⟩))
   go_ret
   exact ⟨_, rfl, hN _, hB⟩
  ·rw [sa, sb] at hs; cases hs
set_option maxHeartbeats 1000000 in
theorem rdiv_sp (a b : Nat) (m : Int) (ha : a < 18446744073709551616) (hb : b < 18446744073709551616) (hs : (someB a && someB b) = false) (w : World) :
  Calls Tryz.prog 58 #[.float .f64 a, .float .f64 b, .int .i8 m] w fun e w' => ∃ r, e = .returned (.float .f64 r) ∧ NR (floatBits .quo .f64 a b) r ∧ Below w.heap.size w w' := by
 have ca := some_any a ha
 have cb := some_any b hb
 have hcv := conv64
 have hz := zero_eq hb
 have h1 := fun w => run_op4 (P := Tryz.prog) (op := .quo) (Or.inr (Or.inr (Or.inr rfl))) 36 a b w
 have hN := op_NR (op := .quo) (Or.inr (Or.inr (Or.inr rfl))) (a := a) (b := b)
 have hB := opW_below .quo a b (Below.refl w.heap.size w)
 by_cases b0 : rung b = 0
 ·rw [show (rung b == 0) = true by simpa using b0] at hz
  have co := over_any a b ha hb b0
  clear b0 h1 hs
  go_enter Tryz.func58, Tryz.ntmps58
  go_wp2_with (go_at_call 78; refine (co _).mono ?_; rintro e w' ⟨r, rfl, hr, rfl⟩)
  go_ret
  exact ⟨_, rfl, hr, Below.refl _ _⟩
 ·rw [show (rung b == 0) = false by simpa using b0] at hz
  cases sa : someB a <;> rw [sa] at ca
  ·clear b0
   go_enter Tryz.func58, Tryz.ntmps58
   go_wp2_with (go_at_call_of 73 (Value.float FloatKind.f64 a); refine (ca _).mono ?_; rintro e w' ⟨rfl, rfl⟩)
   go_ret
   exact ⟨_, rfl, hN _, hB⟩
  ·cases sb : someB b <;> rw [sb] at cb
   ·clear b0
    go_enter Tryz.func58, Tryz.ntmps58
    go_wp2_with (first
     | (go_at_call_of 73 (Value.float FloatKind.f64 a); refine (ca _).mono ?_; rintro e w' ⟨rfl, rfl⟩)
     | (go_at_call_of 73 (Value.float FloatKind.f64 b); refine (cb _).mono ?_; rintro e w' ⟨rfl, rfl⟩))
    go_ret
    exact ⟨_, rfl, hN _, hB⟩
   ·rw [sa, sb] at hs; cases hs
end Go.Proofs.YtfipmopmpacdaaaGreatDoor
