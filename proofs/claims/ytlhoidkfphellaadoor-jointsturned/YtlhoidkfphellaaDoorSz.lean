/- What round's Div and Sqrt answer by Nearest: what floats themselves do. Where no error is too little to be told by floats. -/
import Derived.Test.YtlhoidkfphellaaDoorSy
namespace Go.Proofs.YtlhoidkfphellaaDoor
open Go.RowKit

theorem quo_nought {a b : Nat} (ha : a < 18446744073709551616) (hb : b < 18446744073709551616) (b0 : rung b = 0) (na : nanB a = false) :
    floatBits .quo .f64 a b = if rung a = 0 then none else some (if sgn a == sgn b then 9218868437227405312 else 18442240474082181120) := by
  have fb : finB b = true := by unfold finB; rw [b0]; rfl
  have hr : rung a ≤ 9218868437227405312 := by unfold nanB at na; simpa using na
  rw [(fbits_map a b).2.2.2, read_fin hb fb, b0]
  have hw : ∀ s, Ieee.double.write (.infinity s) = if s then 18442240474082181120 else 9218868437227405312 := fun s => by cases s <;> rfl
  have hsx : (sgn a ^^ sgn b) = !(sgn a == sgn b) := by cases sgn a <;> cases sgn b <;> rfl
  cases fa : finB a
  · have hi : rung a = 9218868437227405312 := by unfold finB at fa; simp at fa; omega
    rw [read_eq a ha, if_neg (by omega), if_pos hi, if_neg (by omega)]
    show some (Ieee.double.write (.infinity (sgn a ^^ sgn b))) = _
    rw [hw, hsx]
    cases (sgn a == sgn b) <;> rfl
  · rw [read_fin ha fa]
    simp only [Ieee.Datum.quotient]
    rw [if_pos (show mg 0 = 0 from rfl)]
    by_cases a0 : rung a = 0
    · rw [a0, if_pos (show mg 0 = 0 from rfl)]; rfl
    · have m0 : mg (rung a) ≠ 0 := by unfold mg; split <;> omega
      rw [if_neg m0, if_neg a0]
      show some (Ieee.double.write (.infinity (sgn a ^^ sgn b))) = _
      rw [hw, hsx]
      cases (sgn a == sgn b) <;> rfl
theorem run_sqrt_nan (x : Nat) (h : FloatKind.f64.format.sqrt x = none) (w : World) : (callFunc 77 #[.float .f64 x]).run Tryd.prog w = .ok (.value (.float .f64 (nanW x x w))) w.drew := by
  rw [run_callFunc_extern (e := Extern.MathSqrt.sqrt) Tryd.func77 (by kernel_rfl) (by kernel_rfl) (by kernel_rfl) (by kernel_rfl)]
  have e : Extern.MathSqrt.sqrt #[.float .f64 x] = (do pure (.float .f64 (← choose (.nanBits .f64 x x))) : Sem Value) := by
    show (match FloatKind.f64.format.sqrt x with | some r => (pure (.float .f64 r) : Sem Value) | none => _) = _
    rw [h]
  rw [e]
  simp [Question.forced, nanW, Result.andThen]
set_option maxHeartbeats 400000 in
theorem msqrt_nan (a : Nat) (hq : FloatKind.f64.format.sqrt a = none) (w : World) :
    Calls Tryd.prog 55 #[.float .f64 a] w fun e w' => e = .returned (.float .f64 (nanW a a w)) ∧ w' = w.drew := by
  have h1 := run_sqrt_nan a hq
  clear hq
  go_enter Tryd.func55, Tryd.ntmps55
  go_wp2
  go_ret
  exact ⟨rfl, rfl⟩
theorem msqrt_all (a : Nat) (w : World) :
    Calls Tryd.prog 55 #[.float .f64 a] w fun e w' => ∃ r, e = .returned (.float .f64 r) ∧ NR (FloatKind.f64.format.sqrt a) r ∧ Below w.heap.size w w' := by
  cases h : FloatKind.f64.format.sqrt a with
  | none =>
    refine (msqrt_nan a h w).mono ?_
    rintro e w' ⟨rfl, rfl⟩
    exact ⟨_, rfl, ⟨(nanW_nan a a w).2, (nanW_nan a a w).1⟩, (Below.refl _ _).drew⟩
  | some r =>
    refine (msqrt_any a r h w).mono ?_
    rintro e w' ⟨rfl, rfl⟩
    exact ⟨_, rfl, ⟨(sqrt_word h).1, rfl⟩, Below.refl _ _⟩
theorem root_neg {a : Nat} (ha : a < 18446744073709551616) (sa : someB a = true) : (FloatKind.f64.format.order a 0 == some .lt) = sgn a ∧ (sgn a = false → ∃ q, FloatKind.f64.format.sqrt a = some q) := by
  obtain ⟨fa, a0⟩ := some_rung sa
  have hr := fin_rung fa
  have na : nanB a = false := rung_nan (by omega)
  have a0' : rung a ≠ 0 := by simpa using a0
  have m0 : mg (rung a) ≠ 0 := by unfold mg; split <;> omega
  refine ⟨?_, fun hs => ?_⟩
  · rw [zero_lt ha, na]
    unfold place
    cases sgn a <;> simp <;> omega
  · show ∃ q, ((Ieee.double.read a).root 54).map Ieee.double.write = some q
    rw [read_fin ha fa, hs]
    simp only [Ieee.Datum.root]
    rw [if_neg m0, if_neg (by simp)]
    exact ⟨_, rfl⟩
set_option maxHeartbeats 1000000 in
theorem rsqrt_near (a : Nat) (ha : a < 18446744073709551616) (hcalm : someB a = true → 553942754166571008 ≤ rung a) (w : World) :
    Calls Tryd.prog 35 #[.float .f64 a, .int .i8 0] w fun e w' => ∃ r, e = .returned (.float .f64 r) ∧ NR (FloatKind.f64.format.sqrt a) r ∧ Below w.heap.size w w' := by
  have ca := some_any a ha
  cases sa : someB a <;> rw [sa] at ca
  · go_enter Tryd.func35, Tryd.ntmps35
    go_wp2_with (first
      | (go_at_call 55; refine (msqrt_all a _).mono ?_; rintro e w1 ⟨r, rfl, hN, hB⟩)
      | (go_at_call 56; refine (ca _).mono ?_; rintro e w' ⟨rfl, rfl⟩))
    go_ret
    exact ⟨_, rfl, hN, hB⟩
  · obtain ⟨hl, hs⟩ := root_neg ha sa
    cases sg : sgn a
    · obtain ⟨q, hq⟩ := hs sg
      rw [sg] at hl
      have fa := (some_rung sa).1
      obtain ⟨q1, q2⟩ := sqrt_word hq
      have q3 := hcalm sa
      have q4 := fin_rung fa
      obtain ⟨r1, _⟩ := neg_rung q1
      have hf : ∃ f, FloatKind.f64.format.fma (negW q) q a = some f := by
        show ∃ f, (((Ieee.double.read (negW q)).product (Ieee.double.read q)).bind (·.sum (Ieee.double.read a))).map Ieee.double.write = some f
        rw [read_fin ha fa]
        cases fq : finB q
        · have hi : rung q = 9218868437227405312 := by unfold finB at fq; simp at fq; omega
          rw [read_eq q q1, if_neg (by omega), if_pos hi, read_eq _ (negW_lt q1), if_neg (by omega), if_pos (by omega)]
          exact ⟨_, rfl⟩
        · rw [read_fin q1 fq, read_fin (negW_lt q1) ((neg_fin q1).trans fq)]
          exact ⟨_, rfl⟩
      obtain ⟨f, hf⟩ := hf
      have hd := rsqrt_great a q f 0 ha sa hq q1 (calm_test q3 (by omega)) hf (fma_word hf).1 hl w
      rw [stepF_near] at hd
      refine hd.mono ?_
      rintro e w' ⟨rfl, rfl⟩
      exact ⟨_, rfl, by rw [hq]; exact ⟨q1, rfl⟩, Below.refl _ _⟩
    · rw [sg] at hl
      clear hs hcalm
      go_enter Tryd.func35, Tryd.ntmps35
      go_wp2_with (first
        | (go_at_call 55; refine (msqrt_all a _).mono ?_; rintro e w1 ⟨r, rfl, hN, hB⟩)
        | (go_at_call 56; refine (ca _).mono ?_; rintro e w' ⟨rfl, rfl⟩))
      go_ret
      exact ⟨_, rfl, hN, hB⟩
end Go.Proofs.YtlhoidkfphellaaDoor
