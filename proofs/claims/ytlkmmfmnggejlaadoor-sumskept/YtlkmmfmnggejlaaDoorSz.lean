/- What round's Div and Sqrt answer by Nearest: what floats themselves do. Where no error is too little to be told by floats. -/
import Derived.Test.YtlkmmfmnggejlaaDoorSy
namespace Go.Proofs.YtlkmmfmnggejlaaDoor
open Go.RowKit

set_option maxHeartbeats 400000 in
theorem minf_any (s : Int) (hs : s = 1 ∨ s = -1) (w : World) :
    Calls Tryd.prog 79 #[.int .i64 s] w fun e w' => e = .returned (.float .f64 (if s = 1 then 9218868437227405312 else 18442240474082181120)) ∧ w' = w := by
  have ff := run_ffrom
  rcases hs with rfl | rfl <;>
    (go_enter Tryd.func79, Tryd.ntmps79
     go_wp2
     go_ret
     exact ⟨rfl, rfl⟩)
theorem quo_nought {a b : Nat} (ha : a < 18446744073709551616) (hb : b < 18446744073709551616) (b0 : rung b = 0) (na : nanB a = false) :
    floatBits .quo .f64 a b = if rung a = 0 then none else some (if sgn a == sgn b then 9218868437227405312 else 18442240474082181120) := by
  have fb : finB b = true := by unfold finB; rw [b0]; rfl
  have hr : rung a ≤ 9218868437227405312 := by unfold nanB at na; simpa using na
  rw [(fbits_map a b).2.2.2, read_fin hb fb, b0]
  have hw : ∀ s, Ieee.double.write (.infinity s) = if s then 18442240474082181120 else 9218868437227405312 := fun s => by cases s <;> rfl
  have hsx : (sgn a ^^ sgn b) = !(sgn a == sgn b) := by cases sgn a <;> cases sgn b <;> rfl
  cases fa : finB a
  · have hi : rung a = 9218868437227405312 := by unfold finB at fa; simp at fa; omega
    rw [read_eq a ha, if_neg (by omega), if_pos hi, if_neg (by omega)]
    show some (Ieee.double.write (.infinity (sgn a ^^ sgn b))) = _
    rw [hw, hsx]
    cases (sgn a == sgn b) <;> rfl
  · rw [read_fin ha fa]
    simp only [Ieee.Datum.quotient]
    rw [if_pos (show mg 0 = 0 from rfl)]
    by_cases a0 : rung a = 0
    · rw [a0, if_pos (show mg 0 = 0 from rfl)]; rfl
    · have m0 : mg (rung a) ≠ 0 := by unfold mg; split <;> omega
      rw [if_neg m0, if_neg a0]
      show some (Ieee.double.write (.infinity (sgn a ^^ sgn b))) = _
      rw [hw, hsx]
      cases (sgn a == sgn b) <;> rfl
theorem root_neg {a : Nat} (ha : a < 18446744073709551616) (sa : someB a = true) : (FloatKind.f64.format.order a 0 == some .lt) = sgn a ∧ (sgn a = false → ∃ q, FloatKind.f64.format.sqrt a = some q) := by
  obtain ⟨fa, a0⟩ := some_rung sa
  have hr := fin_rung fa
  have na : nanB a = false := rung_nan (by omega)
  have a0' : rung a ≠ 0 := by simpa using a0
  have m0 : mg (rung a) ≠ 0 := by unfold mg; split <;> omega
  refine ⟨?_, fun hs => ?_⟩
  · rw [zero_lt ha, na]
    unfold place
    cases sgn a <;> simp <;> omega
  · show ∃ q, ((Ieee.double.read a).root 54).map Ieee.double.write = some q
    rw [read_fin ha fa, hs]
    simp only [Ieee.Datum.root]
    rw [if_neg m0, if_neg (by simp)]
    exact ⟨_, rfl⟩
end Go.Proofs.YtlkmmfmnggejlaaDoor
