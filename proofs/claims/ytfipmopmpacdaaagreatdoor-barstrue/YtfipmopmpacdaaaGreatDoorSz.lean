/- What round's Div and Sqrt answer by Nearest: what floats themselves do. Where no error is too little to be told by floats. -/
import Derived.Test.YtfipmopmpacdaaaGreatDoorU2
namespace Go.Proofs.YtfipmopmpacdaaaGreatDoor
open Go.RowKit
set_option maxHeartbeats 400000 in
theorem mnan_any (w : World) :
  Calls Tryz.prog 96 #[] w fun e w' => e = .returned (.float .f64 9221120237041090561) ∧ w' = w := by
 have ff := run_ffrom
 go_enter Tryz.func96, Tryz.ntmps96
 go_wp2
 go_ret
 exact ⟨rfl, rfl⟩
set_option maxHeartbeats 400000 in
theorem minf_any (s : Int) (hs : s = 1 ∨ s = -1) (w : World) :
    Calls Tryz.prog 97 #[.int .i64 s] w fun e w' => e = .returned (.float .f64 (if s = 1 then 9218868437227405312 else 18442240474082181120)) ∧ w' = w := by
  have ff := run_ffrom
  rcases hs with rfl | rfl <;>
    (go_enter Tryz.func97, Tryz.ntmps97
     go_wp2
     go_ret
     exact ⟨rfl, rfl⟩)
theorem quo_nought {a b : Nat} (ha : a < 18446744073709551616) (hb : b < 18446744073709551616) (b0 : rung b = 0) (na : nanB a = false) :
  floatBits .quo .f64 a b = if rung a = 0 then none else some (if sgn a == sgn b then 9218868437227405312 else 18442240474082181120) := by
 have fb : finB b = true := by unfold finB; rw [b0]; rfl
 have hr : rung a ≤ 9218868437227405312 := by unfold nanB at na; simpa using na
 rw [(fbits_map a b).2.2.2, read_fin hb fb, b0]
 have hw : ∀ s, Ieee.double.write (.infinity s) = if s then 18442240474082181120 else 9218868437227405312 := fun s => by cases s <;> rfl
 have hsx : (sgn a ^^ sgn b) = !(sgn a == sgn b) := by cases sgn a <;> cases sgn b <;> rfl
 cases fa : finB a
 ·have hi : rung a = 9218868437227405312 := by unfold finB at fa; simp at fa; omega
  rw [read_eq a ha, if_neg (by omega), if_pos hi, if_neg (by omega)]
  show some (Ieee.double.write (.infinity (sgn a ^^ sgn b))) = _
  rw [hw, hsx]
  cases (sgn a == sgn b) <;> rfl
 ·rw [read_fin ha fa]
  simp only [Ieee.Datum.quotient]
  rw [if_pos (show mg 0 = 0 from rfl)]
  by_cases a0 : rung a = 0
  ·rw [a0, if_pos (show mg 0 = 0 from rfl)]; rfl
  ·have m0 : mg (rung a) ≠ 0 := by unfold mg; split <;> omega
   rw [if_neg m0, if_neg a0]
   show some (Ieee.double.write (.infinity (sgn a ^^ sgn b))) = _
   rw [hw, hsx]
   cases (sgn a == sgn b) <;> rfl
set_option maxHeartbeats 800000 in
theorem over_any (a b : Nat) (ha : a < 18446744073709551616) (hb : b < 18446744073709551616) (b0 : rung b = 0) (w : World) :
    Calls Tryz.prog 78 #[.float .f64 a, .float .f64 b] w fun e w' => ∃ r, e = .returned (.float .f64 r) ∧ NR (floatBits .quo .f64 a b) r ∧ w' = w := by
  have hz := zero_eq ha
  have ca := isnan_any a ha
  have hnn : nanB 9221120237041090561 = true := by decide
  cases na : nanB a
  · rw [na] at ca
    rw [quo_nought ha hb b0 na]
    by_cases a0 : rung a = 0
    · rw [if_pos a0]
      rw [show (rung a == 0) = true by simpa using a0] at hz
      clear a0
      go_enter Tryz.func78, Tryz.ntmps78
      go_wp2_with (first
        | (go_at_call 96; refine (mnan_any _).mono ?_; rintro e w' ⟨rfl, rfl⟩)
        | (go_at_call 95; refine (ca _).mono ?_; rintro e w' ⟨rfl, rfl⟩))
      go_ret
      exact ⟨_, rfl, ⟨by omega, hnn⟩, rfl⟩
    · rw [if_neg a0]
      rw [show (rung a == 0) = false by simpa using a0] at hz
      have sa := signbit_any a ha
      have sb := signbit_any b hb
      clear a0
      cases hs : (sgn a == sgn b)
      · go_enter Tryz.func78, Tryz.ntmps78
        go_wp2_with (first
          | (go_at_call 95; refine (ca _).mono ?_; rintro e w' ⟨rfl, rfl⟩)
          | (go_at_call_of 87 (Value.float FloatKind.f64 a); refine (sa _).mono ?_; rintro e w' ⟨rfl, rfl⟩)
          | (go_at_call_of 87 (Value.float FloatKind.f64 b); refine (sb _).mono ?_; rintro e w' ⟨rfl, rfl⟩)
          | (go_at_call 97; refine (minf_any _ (by first | exact Or.inl rfl | exact Or.inr rfl) _).mono ?_; rintro e w' ⟨rfl, rfl⟩))
        go_ret
        exact ⟨_, rfl, ⟨by decide, by decide⟩, rfl⟩
      · go_enter Tryz.func78, Tryz.ntmps78
        go_wp2_with (first
          | (go_at_call 95; refine (ca _).mono ?_; rintro e w' ⟨rfl, rfl⟩)
          | (go_at_call_of 87 (Value.float FloatKind.f64 a); refine (sa _).mono ?_; rintro e w' ⟨rfl, rfl⟩)
          | (go_at_call_of 87 (Value.float FloatKind.f64 b); refine (sb _).mono ?_; rintro e w' ⟨rfl, rfl⟩)
          | (go_at_call 97; refine (minf_any _ (by first | exact Or.inl rfl | exact Or.inr rfl) _).mono ?_; rintro e w' ⟨rfl, rfl⟩))
        go_ret
        exact ⟨_, rfl, ⟨by decide, by decide⟩, rfl⟩
  · rw [na] at ca
    rw [op_nan (op := .quo) (Or.inr (Or.inr (Or.inr rfl))) ha hb (Or.inl na)]
    have a0 : (rung a == 0) = false := by have : 9218868437227405312 < rung a := by simpa [nanB] using na
                                          simp; omega
    rw [a0] at hz
    go_enter Tryz.func78, Tryz.ntmps78
    go_wp2_with (first
      | (go_at_call 96; refine (mnan_any _).mono ?_; rintro e w' ⟨rfl, rfl⟩)
      | (go_at_call 95; refine (ca _).mono ?_; rintro e w' ⟨rfl, rfl⟩))
    go_ret
    exact ⟨_, rfl, ⟨by omega, hnn⟩, rfl⟩
theorem run_sqrt_nan (x : Nat) (h : FloatKind.f64.format.sqrt x = none) (w : World) : (callFunc 98 #[.float .f64 x]).run Tryz.prog w = .ok (.value (.float .f64 (nanW x x w))) w.drew := by
 rw [run_callFunc_extern (e := Extern.MathSqrt.sqrt) Tryz.func98 (by kernel_rfl) (by kernel_rfl) (by kernel_rfl) (by kernel_rfl)]
 have e : Extern.MathSqrt.sqrt #[.float .f64 x] = (do pure (.float .f64 (← choose (.nanBits .f64 x x))) : Sem Value) := by
  show (match FloatKind.f64.format.sqrt x with | some r => (pure (.float .f64 r) : Sem Value) | none => _) = _
  rw [h]
 rw [e]
 simp [Question.forced, nanW, Result.andThen]
set_option maxHeartbeats 400000 in
theorem msqrt_nan (a : Nat) (hq : FloatKind.f64.format.sqrt a = none) (w : World) :
  Calls Tryz.prog 82 #[.float .f64 a] w fun e w' => e = .returned (.float .f64 (nanW a a w)) ∧ w' = w.drew := by
 have h1 := run_sqrt_nan a hq
 clear hq
 go_enter Tryz.func82, Tryz.ntmps82
 go_wp2
 go_ret
 exact ⟨rfl, rfl⟩
theorem msqrt_all (a : Nat) (w : World) :
  Calls Tryz.prog 82 #[.float .f64 a] w fun e w' => ∃ r, e = .returned (.float .f64 r) ∧ NR (FloatKind.f64.format.sqrt a) r ∧ Below w.heap.size w w' := by
 cases h : FloatKind.f64.format.sqrt a with
 | none =>
  refine (msqrt_nan a h w).mono ?_
  rintro e w' ⟨rfl, rfl⟩
  exact ⟨_, rfl, ⟨(nanW_nan a a w).2, (nanW_nan a a w).1⟩, (Below.refl _ _).drew⟩
 | some r =>
  refine (msqrt_any a r h w).mono ?_
  rintro e w' ⟨rfl, rfl⟩
  exact ⟨_, rfl, ⟨(sqrt_word h).1, rfl⟩, Below.refl _ _⟩
theorem root_neg {a : Nat} (ha : a < 18446744073709551616) (sa : someB a = true) : (FloatKind.f64.format.order a 0 == some .lt) = sgn a ∧ (sgn a = false → ∃ q, FloatKind.f64.format.sqrt a = some q) := by
 obtain ⟨fa, a0⟩ := some_rung sa
 have hr := fin_rung fa
 have na : nanB a = false := rung_nan (by omega)
 have a0' : rung a ≠ 0 := by simpa using a0
 have m0 : mg (rung a) ≠ 0 := by unfold mg; split <;> omega
 refine ⟨?_, fun hs => ?_⟩
 ·rw [zero_lt ha, na]
  unfold place
  cases sgn a <;> simp <;> omega
 ·show ∃ q, ((Ieee.double.read a).root 54).map Ieee.double.write = some q
  rw [read_fin ha fa, hs]
  simp only [Ieee.Datum.root]
  rw [if_neg m0, if_neg (by simp)]
  exact ⟨_, rfl⟩
end Go.Proofs.YtfipmopmpacdaaaGreatDoor
