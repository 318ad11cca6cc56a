/- RoundProducts, whatever floats and way it is given. -/
import Derived.Test.YtfhejejfeffdcaaDoorU4
import Derived.Test.YtfhejejfeffdcaaDoorU1
import Derived.Test.YtfhejejfeffdcaaDoorU9
namespace Go.Proofs.YtfhejejfeffdcaaDoor
open Go.RowKit

theorem lm_one {x : Nat} (h : x < 18446744073709551616) : Lm [x] := fun y hy => by simp at hy; omega
theorem awi : intD 9007199254740993 = ⟨false, [9007199254740993], 0⟩ := by kernel_rfl
theorem awr : rndW ⟨false, [9007199254740993], 0⟩ 2 = 4845873199050653697 := by kernel_rfl
def divQ (a b : Nat) : Nat := (floatBits .quo .f64 a b).getD 0
def divF (a b : Nat) : Nat := (FloatKind.f64.format.fma (negW (divQ a b)) b a).getD 0
end Go.Proofs.YtfhejejfeffdcaaDoor

namespace Go.Proofs.YtfhejejfeffdcaaDoor
open Go.RowKit

theorem NR_same {o : Option Nat} {r s : Nat} (h : NR o r) (g : NR o s) : sameB r s = true := by
  unfold NR at h g
  cases o with
  | none => unfold sameB; rw [h.2, g.2]; rfl
  | some v => rw [h.2, g.2]; unfold sameB; cases hn : nanB v <;> simp
theorem NR_some {r s : Nat} (h : r < 18446744073709551616) (e : s = r) : NR (some r) s := ⟨by omega, e⟩
end Go.Proofs.YtfhejejfeffdcaaDoor

namespace Go.Proofs.YtfhejejfeffdcaaDoor
open Go.RowKit

theorem some_parts {a : Nat} : someB a = (finB a && !(rung a == 0)) := rfl
set_option maxHeartbeats 1000000 in
theorem rmul_sp (a b : Nat) (m : Int) (ha : a < 18446744073709551616) (hb : b < 18446744073709551616) (hs : (someB a && someB b) = false) (w : World) :
    Calls Tryd.prog 33 #[.float .f64 a, .float .f64 b, .int .i8 m] w fun e w' => ∃ r, e = .returned (.float .f64 r) ∧ NR (floatBits .mul .f64 a b) r ∧ Below w.heap.size w w' := by
  have ca := some_any a ha
  have cb := some_any b hb
  have hcv := conv64
  have h1 := fun w => run_op4 (P := Tryd.prog) (op := .mul) (Or.inr (Or.inr (Or.inl rfl))) 25 a b w
  have hN := op_NR (op := .mul) (Or.inr (Or.inr (Or.inl rfl))) (a := a) (b := b)
  have hB := opW_below .mul a b (Below.refl w.heap.size w)
  cases sa : someB a <;> rw [sa] at ca
  · go_enter Tryd.func33, Tryd.ntmps33
    go_wp2_with (go_at_call_of 52 (Value.float FloatKind.f64 a); refine (ca _).mono ?_; rintro e w' ⟨rfl, rfl⟩)
    go_ret
    exact ⟨_, rfl, hN _, hB⟩
  · cases sb : someB b <;> rw [sb] at cb
    · go_enter Tryd.func33, Tryd.ntmps33
      go_wp2_with (first
        | (go_at_call_of 52 (Value.float FloatKind.f64 a); refine (ca _).mono ?_; rintro e w' ⟨rfl, rfl⟩)
        | (go_at_call_of 52 (Value.float FloatKind.f64 b); refine (cb _).mono ?_; rintro e w' ⟨rfl, rfl⟩))
      go_ret
      exact ⟨_, rfl, hN _, hB⟩
    · rw [sa, sb] at hs; cases hs
end Go.Proofs.YtfhejejfeffdcaaDoor
