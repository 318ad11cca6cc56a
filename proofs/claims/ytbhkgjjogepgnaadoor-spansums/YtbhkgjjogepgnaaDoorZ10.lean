/- RoundProducts, whatever floats and way it is given. -/
import Derived.Test.YtbhkgjjogepgnaaDoorSh
import Derived.Test.YtbhkgjjogepgnaaDoorWj
import Derived.Test.YtbhkgjjogepgnaaDoorZs
namespace Go.Proofs.YtbhkgjjogepgnaaDoor
open Go.RowKit

theorem lm_one {x : Nat} (h : x < 18446744073709551616) : Lm [x] := fun y hy => by simp at hy; omega
theorem awi : intD 9007199254740993 = ⟨false, [9007199254740993], 0⟩ := by kernel_rfl
theorem awr : rndW ⟨false, [9007199254740993], 0⟩ 2 = 4845873199050653697 := by kernel_rfl
def divQ (a b : Nat) : Nat := (floatBits .quo .f64 a b).getD 0
def divF (a b : Nat) : Nat := (FloatKind.f64.format.fma (negW (divQ a b)) b a).getD 0
theorem rdiv_gen (a b : Nat) (m : Int) (ha : a < 18446744073709551616) (hb : b < 18446744073709551616) (sa : someB a = true) (sb : someB b = true) (hq : floatBits .quo .f64 a b = some (divQ a b)) (hql : Nat.blt (divQ a b) 18446744073709551616 = true)
    (hc : (FloatKind.f64.format.order (rung a) 553942754166571008 == some .lt) = false) (hf : FloatKind.f64.format.fma (negW (divQ a b)) b a = some (divF a b)) (hfl : Nat.blt (divF a b) 18446744073709551616 = true) (hb0 : (FloatKind.f64.format.order b 0 == some .lt) = false) (w : World) :
    Calls Tryd.prog 48 #[.float .f64 a, .float .f64 b, .int .i8 m] w fun e w' => e = .returned (.float .f64 (stepF (divQ a b) (signF (divF a b)) m)) ∧ w' = w :=
  rdiv_great a b _ _ m ha hb sa sb hq (by simpa using hql) hc hf (by simpa using hfl) hb0 w
end Go.Proofs.YtbhkgjjogepgnaaDoor

namespace Go.Proofs.YtbhkgjjogepgnaaDoor
open Go.RowKit

theorem NR_same {o : Option Nat} {r s : Nat} (h : NR o r) (g : NR o s) : sameB r s = true := by
  unfold NR at h g
  cases o with
  | none => unfold sameB; rw [h.2, g.2]; rfl
  | some v => rw [h.2, g.2]; unfold sameB; cases hn : nanB v <;> simp
theorem NR_some {r s : Nat} (h : r < 18446744073709551616) (e : s = r) : NR (some r) s := ⟨by omega, e⟩
end Go.Proofs.YtbhkgjjogepgnaaDoor

namespace Go.Proofs.YtbhkgjjogepgnaaDoor
open Go.RowKit

theorem some_parts {a : Nat} : someB a = (finB a && !(rung a == 0)) := rfl
set_option maxHeartbeats 1000000 in
theorem rmul_sp (a b : Nat) (m : Int) (ha : a < 18446744073709551616) (hb : b < 18446744073709551616) (hs : (someB a && someB b) = false) (w : World) :
    Calls Tryd.prog 32 #[.float .f64 a, .float .f64 b, .int .i8 m] w fun e w' => ∃ r, e = .returned (.float .f64 r) ∧ NR (floatBits .mul .f64 a b) r ∧ Below w.heap.size w w' := by
  have ca := some_any a ha
  have cb := some_any b hb
  have hcv := conv64
  have h1 := fun w => run_op4 (P := Tryd.prog) (op := .mul) (Or.inr (Or.inr (Or.inl rfl))) 22 a b w
  have hN := op_NR (op := .mul) (Or.inr (Or.inr (Or.inl rfl))) (a := a) (b := b)
  have hB := opW_below .mul a b (Below.refl w.heap.size w)
  cases sa : someB a <;> rw [sa] at ca
  · go_enter Tryd.func32, Tryd.ntmps32
    go_wp2_with (go_at_call_of 51 (Value.float FloatKind.f64 a); refine (ca _).mono ?_; rintro e w' ⟨rfl, rfl⟩)
    go_ret
    exact ⟨_, rfl, hN _, hB⟩
  · cases sb : someB b <;> rw [sb] at cb
    · go_enter Tryd.func32, Tryd.ntmps32
      go_wp2_with (first
        | (go_at_call_of 51 (Value.float FloatKind.f64 a); refine (ca _).mono ?_; rintro e w' ⟨rfl, rfl⟩)
        | (go_at_call_of 51 (Value.float FloatKind.f64 b); refine (cb _).mono ?_; rintro e w' ⟨rfl, rfl⟩))
      go_ret
      exact ⟨_, rfl, hN _, hB⟩
    · rw [sa, sb] at hs; cases hs
set_option maxHeartbeats 1000000 in
theorem rdiv_sp (a b : Nat) (m : Int) (ha : a < 18446744073709551616) (hb : b < 18446744073709551616) (hs : (someB a && someB b) = false) (w : World) :
    Calls Tryd.prog 48 #[.float .f64 a, .float .f64 b, .int .i8 m] w fun e w' => ∃ r, e = .returned (.float .f64 r) ∧ NR (floatBits .quo .f64 a b) r ∧ Below w.heap.size w w' := by
  have ca := some_any a ha
  have cb := some_any b hb
  have hcv := conv64
  have hz := zero_eq hb
  have h1 := fun w => run_op4 (P := Tryd.prog) (op := .quo) (Or.inr (Or.inr (Or.inr rfl))) 22 a b w
  have hN := op_NR (op := .quo) (Or.inr (Or.inr (Or.inr rfl))) (a := a) (b := b)
  have hB := opW_below .quo a b (Below.refl w.heap.size w)
  by_cases b0 : rung b = 0
  · rw [show (rung b == 0) = true by simpa using b0] at hz
    have co := over_any a b ha hb b0
    clear b0 h1 hs
    go_enter Tryd.func48, Tryd.ntmps48
    go_wp2_with (go_at_call 77; refine (co _).mono ?_; rintro e w' ⟨r, rfl, hr, rfl⟩)
    go_ret
    exact ⟨_, rfl, hr, Below.refl _ _⟩
  · rw [show (rung b == 0) = false by simpa using b0] at hz
    cases sa : someB a <;> rw [sa] at ca
    · clear b0
      go_enter Tryd.func48, Tryd.ntmps48
      go_wp2_with (go_at_call_of 51 (Value.float FloatKind.f64 a); refine (ca _).mono ?_; rintro e w' ⟨rfl, rfl⟩)
      go_ret
      exact ⟨_, rfl, hN _, hB⟩
    · cases sb : someB b <;> rw [sb] at cb
      · clear b0
        go_enter Tryd.func48, Tryd.ntmps48
        go_wp2_with (first
          | (go_at_call_of 51 (Value.float FloatKind.f64 a); refine (ca _).mono ?_; rintro e w' ⟨rfl, rfl⟩)
          | (go_at_call_of 51 (Value.float FloatKind.f64 b); refine (cb _).mono ?_; rintro e w' ⟨rfl, rfl⟩))
        go_ret
        exact ⟨_, rfl, hN _, hB⟩
      · rw [sa, sb] at hs; cases hs
end Go.Proofs.YtbhkgjjogepgnaaDoor
