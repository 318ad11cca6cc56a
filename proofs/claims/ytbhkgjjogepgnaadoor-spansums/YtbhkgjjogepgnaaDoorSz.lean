/- What round's Div and Sqrt answer by Nearest: what floats themselves do. Where no error is too little to be told by floats. -/
import Derived.Test.YtbhkgjjogepgnaaDoorSy
namespace Go.Proofs.YtbhkgjjogepgnaaDoor
open Go.RowKit

set_option maxHeartbeats 400000 in
theorem mnan_any (w : World) :
    Calls Tryd.prog 97 #[] w fun e w' => e = .returned (.float .f64 9221120237041090561) ∧ w' = w := by
  have ff := run_ffrom
  go_enter Tryd.func97, Tryd.ntmps97
  go_wp2
  go_ret
  exact ⟨rfl, rfl⟩
set_option maxHeartbeats 400000 in
theorem minf_any (s : Int) (hs : s = 1 ∨ s = -1) (w : World) :
    Calls Tryd.prog 98 #[.int .i64 s] w fun e w' => e = .returned (.float .f64 (if s = 1 then 9218868437227405312 else 18442240474082181120)) ∧ w' = w := by
  have ff := run_ffrom
  rcases hs with rfl | rfl <;>
    (go_enter Tryd.func98, Tryd.ntmps98
     go_wp2
     go_ret
     exact ⟨rfl, rfl⟩)
theorem quo_nought {a b : Nat} (ha : a < 18446744073709551616) (hb : b < 18446744073709551616) (b0 : rung b = 0) (na : nanB a = false) :
    floatBits .quo .f64 a b = if rung a = 0 then none else some (if sgn a == sgn b then 9218868437227405312 else 18442240474082181120) := by
  have fb : finB b = true := by unfold finB; rw [b0]; rfl
  have hr : rung a ≤ 9218868437227405312 := by unfold nanB at na; simpa using na
  rw [(fbits_map a b).2.2.2, read_fin hb fb, b0]
  have hw : ∀ s, Ieee.double.write (.infinity s) = if s then 18442240474082181120 else 9218868437227405312 := fun s => by cases s <;> rfl
  have hsx : (sgn a ^^ sgn b) = !(sgn a == sgn b) := by cases sgn a <;> cases sgn b <;> rfl
  cases fa : finB a
  · have hi : rung a = 9218868437227405312 := by unfold finB at fa; simp at fa; omega
    rw [read_eq a ha, if_neg (by omega), if_pos hi, if_neg (by omega)]
    show some (Ieee.double.write (.infinity (sgn a ^^ sgn b))) = _
    rw [hw, hsx]
    cases (sgn a == sgn b) <;> rfl
  · rw [read_fin ha fa]
    simp only [Ieee.Datum.quotient]
    rw [if_pos (show mg 0 = 0 from rfl)]
    by_cases a0 : rung a = 0
    · rw [a0, if_pos (show mg 0 = 0 from rfl)]; rfl
    · have m0 : mg (rung a) ≠ 0 := by unfold mg; split <;> omega
      rw [if_neg m0, if_neg a0]
      show some (Ieee.double.write (.infinity (sgn a ^^ sgn b))) = _
      rw [hw, hsx]
      cases (sgn a == sgn b) <;> rfl
set_option maxHeartbeats 800000 in
theorem over_any (a b : Nat) (ha : a < 18446744073709551616) (hb : b < 18446744073709551616) (b0 : rung b = 0) (w : World) :
    Calls Tryd.prog 77 #[.float .f64 a, .float .f64 b] w fun e w' => ∃ r, e = .returned (.float .f64 r) ∧ NR (floatBits .quo .f64 a b) r ∧ w' = w := by
  have hz := zero_eq ha
  have ca := isnan_any a ha
  have hnn : nanB 9221120237041090561 = true := by decide
  cases na : nanB a
  · rw [na] at ca
    rw [quo_nought ha hb b0 na]
    by_cases a0 : rung a = 0
    · rw [if_pos a0]
      rw [show (rung a == 0) = true by simpa using a0] at hz
      clear a0
      go_enter Tryd.func77, Tryd.ntmps77
      go_wp2_with (first
        | (go_at_call 97; refine (mnan_any _).mono ?_; rintro e w' ⟨rfl, rfl⟩)
        | (go_at_call 41; refine (ca _).mono ?_; rintro e w' ⟨rfl, rfl⟩))
      go_ret
      exact ⟨_, rfl, ⟨by omega, hnn⟩, rfl⟩
    · rw [if_neg a0]
      rw [show (rung a == 0) = false by simpa using a0] at hz
      have sa := signbit_any a ha
      have sb := signbit_any b hb
      clear a0
      cases hs : (sgn a == sgn b)
      · go_enter Tryd.func77, Tryd.ntmps77
        go_wp2_with (first
          | (go_at_call 41; refine (ca _).mono ?_; rintro e w' ⟨rfl, rfl⟩)
          | (go_at_call_of 71 (Value.float FloatKind.f64 a); refine (sa _).mono ?_; rintro e w' ⟨rfl, rfl⟩)
          | (go_at_call_of 71 (Value.float FloatKind.f64 b); refine (sb _).mono ?_; rintro e w' ⟨rfl, rfl⟩)
          | (go_at_call 98; refine (minf_any _ (by first | exact Or.inl rfl | exact Or.inr rfl) _).mono ?_; rintro e w' ⟨rfl, rfl⟩))
        go_ret
        exact ⟨_, rfl, ⟨by decide, by decide⟩, rfl⟩
      · go_enter Tryd.func77, Tryd.ntmps77
        go_wp2_with (first
          | (go_at_call 41; refine (ca _).mono ?_; rintro e w' ⟨rfl, rfl⟩)
          | (go_at_call_of 71 (Value.float FloatKind.f64 a); refine (sa _).mono ?_; rintro e w' ⟨rfl, rfl⟩)
          | (go_at_call_of 71 (Value.float FloatKind.f64 b); refine (sb _).mono ?_; rintro e w' ⟨rfl, rfl⟩)
          | (go_at_call 98; refine (minf_any _ (by first | exact Or.inl rfl | exact Or.inr rfl) _).mono ?_; rintro e w' ⟨rfl, rfl⟩))
        go_ret
        exact ⟨_, rfl, ⟨by decide, by decide⟩, rfl⟩
  · rw [na] at ca
    rw [op_nan (op := .quo) (Or.inr (Or.inr (Or.inr rfl))) ha hb (Or.inl na)]
    have a0 : (rung a == 0) = false := by have : 9218868437227405312 < rung a := by simpa [nanB] using na
                                          simp; omega
    rw [a0] at hz
    go_enter Tryd.func77, Tryd.ntmps77
    go_wp2_with (first
      | (go_at_call 97; refine (mnan_any _).mono ?_; rintro e w' ⟨rfl, rfl⟩)
      | (go_at_call 41; refine (ca _).mono ?_; rintro e w' ⟨rfl, rfl⟩))
    go_ret
    exact ⟨_, rfl, ⟨by omega, hnn⟩, rfl⟩
set_option maxHeartbeats 1000000 in
theorem rdiv_near (a b : Nat) (ha : a < 18446744073709551616) (hb : b < 18446744073709551616) (hcalm : someB a = true → 553942754166571008 ≤ rung a) (w : World) :
    Calls Tryd.prog 48 #[.float .f64 a, .float .f64 b, .int .i8 0] w fun e w' => ∃ r, e = .returned (.float .f64 r) ∧ NR (floatBits .quo .f64 a b) r ∧ Below w.heap.size w w' := by
  have ca := some_any a ha
  have cb := some_any b hb
  have hcv := conv64
  have hz := zero_eq hb
  have h1 := fun w => run_op4 (P := Tryd.prog) (op := .quo) (Or.inr (Or.inr (Or.inr rfl))) 22 a b w
  have hN := op_NR (op := .quo) (Or.inr (Or.inr (Or.inr rfl))) (a := a) (b := b)
  have hB := opW_below .quo a b (Below.refl w.heap.size w)
  by_cases b0 : rung b = 0
  · rw [show (rung b == 0) = true by simpa using b0] at hz
    have co := over_any a b ha hb b0
    clear b0 h1
    go_enter Tryd.func48, Tryd.ntmps48
    go_wp2_with (go_at_call 77; refine (co _).mono ?_; rintro e w' ⟨r, rfl, hr, rfl⟩)
    go_ret
    exact ⟨_, rfl, hr, Below.refl _ _⟩
  · rw [show (rung b == 0) = false by simpa using b0] at hz
    cases sa : someB a <;> rw [sa] at ca
    · clear b0
      go_enter Tryd.func48, Tryd.ntmps48
      go_wp2_with (first
        | (go_at_call_of 51 (Value.float FloatKind.f64 a); refine (ca _).mono ?_; rintro e w' ⟨rfl, rfl⟩))
      go_ret
      exact ⟨_, rfl, hN _, hB⟩
    · cases sb : someB b <;> rw [sb] at cb
      · clear b0
        go_enter Tryd.func48, Tryd.ntmps48
        go_wp2_with (first
          | (go_at_call_of 51 (Value.float FloatKind.f64 a); refine (ca _).mono ?_; rintro e w' ⟨rfl, rfl⟩)
          | (go_at_call_of 51 (Value.float FloatKind.f64 b); refine (cb _).mono ?_; rintro e w' ⟨rfl, rfl⟩))
        go_ret
        exact ⟨_, rfl, hN _, hB⟩
      · have fa := (some_rung sa).1
        have fb := (some_rung sb).1
        have m0 : mg (rung b) ≠ 0 := by unfold mg; split <;> omega
        obtain ⟨q, hq⟩ : ∃ q, floatBits .quo .f64 a b = some q := by
          rw [(fbits_map a b).2.2.2, read_fin ha fa, read_fin hb fb]
          simp only [Ieee.Datum.quotient]
          rw [if_neg m0]
          exact ⟨_, rfl⟩
        obtain ⟨q1, q2⟩ := op_word (op := .quo) (Or.inr (Or.inr (Or.inr rfl))) hq
        have q3 := hcalm sa
        have q4 := fin_rung fa
        obtain ⟨r1, _⟩ := neg_rung q1
        obtain ⟨f, hf⟩ := fma_told (negW_lt q1) hb ha (by rw [r1]; exact q2) fb b0 fa
        have cs := signOf_great (negW q) b a f ha (calm_test q3 (by omega)) hf (fma_word hf).1
        have g1 := fun w => run_float_arith (P := Tryd.prog) w .quo 22 .f64 _ _ _ hq
        have hu := run_negf
        have hst := stepF_near q
        have hQ : Hid (NR (floatBits .quo .f64 a b) q) := by
          show NR _ _
          rw [hq]; exact ⟨q1, rfl⟩
        clear hcalm h1 hN hB hq hf q3 q2 r1 m0 q4 b0
        cases hl : (FloatKind.f64.format.order b 0 == some .lt)
        · go_enter Tryd.func48, Tryd.ntmps48
          go_wp2_with (first
            | (go_at_call_of 51 (Value.float FloatKind.f64 a); refine (ca _).mono ?_; rintro e w' ⟨rfl, rfl⟩)
            | (go_at_call_of 51 (Value.float FloatKind.f64 b); refine (cb _).mono ?_; rintro e w' ⟨rfl, rfl⟩)
            | (go_at_call 53; refine (cs _).mono ?_; rintro e w' ⟨rfl, rfl⟩)
            | (go_at_call 52; refine (step_any _ _ _ q1 _).mono ?_; rw [hst]; rintro e w' ⟨rfl, rfl⟩))
          go_ret
          exact ⟨_, rfl, hQ.out, Below.refl _ _⟩
        · go_enter Tryd.func48, Tryd.ntmps48
          go_wp2_with (first
            | (go_at_call_of 51 (Value.float FloatKind.f64 a); refine (ca _).mono ?_; rintro e w' ⟨rfl, rfl⟩)
            | (go_at_call_of 51 (Value.float FloatKind.f64 b); refine (cb _).mono ?_; rintro e w' ⟨rfl, rfl⟩)
            | (go_at_call 53; refine (cs _).mono ?_; rintro e w' ⟨rfl, rfl⟩)
            | (go_at_call 52; refine (step_any _ _ _ q1 _).mono ?_; rw [hst]; rintro e w' ⟨rfl, rfl⟩))
          go_ret
          exact ⟨_, rfl, hQ.out, Below.refl _ _⟩
theorem run_sqrt_nan (x : Nat) (h : FloatKind.f64.format.sqrt x = none) (w : World) : (callFunc 83 #[.float .f64 x]).run Tryd.prog w = .ok (.value (.float .f64 (nanW x x w))) w.drew := by
  rw [run_callFunc_extern (e := Extern.MathSqrt.sqrt) Tryd.func83 (by kernel_rfl) (by kernel_rfl) (by kernel_rfl) (by kernel_rfl)]
  have e : Extern.MathSqrt.sqrt #[.float .f64 x] = (do pure (.float .f64 (← choose (.nanBits .f64 x x))) : Sem Value) := by
    show (match FloatKind.f64.format.sqrt x with | some r => (pure (.float .f64 r) : Sem Value) | none => _) = _
    rw [h]
  rw [e]
  simp [Question.forced, nanW, Result.andThen]
set_option maxHeartbeats 400000 in
theorem msqrt_nan (a : Nat) (hq : FloatKind.f64.format.sqrt a = none) (w : World) :
    Calls Tryd.prog 54 #[.float .f64 a] w fun e w' => e = .returned (.float .f64 (nanW a a w)) ∧ w' = w.drew := by
  have h1 := run_sqrt_nan a hq
  clear hq
  go_enter Tryd.func54, Tryd.ntmps54
  go_wp2
  go_ret
  exact ⟨rfl, rfl⟩
theorem msqrt_all (a : Nat) (w : World) :
    Calls Tryd.prog 54 #[.float .f64 a] w fun e w' => ∃ r, e = .returned (.float .f64 r) ∧ NR (FloatKind.f64.format.sqrt a) r ∧ Below w.heap.size w w' := by
  cases h : FloatKind.f64.format.sqrt a with
  | none =>
    refine (msqrt_nan a h w).mono ?_
    rintro e w' ⟨rfl, rfl⟩
    exact ⟨_, rfl, ⟨(nanW_nan a a w).2, (nanW_nan a a w).1⟩, (Below.refl _ _).drew⟩
  | some r =>
    refine (msqrt_any a r h w).mono ?_
    rintro e w' ⟨rfl, rfl⟩
    exact ⟨_, rfl, ⟨(sqrt_word h).1, rfl⟩, Below.refl _ _⟩
theorem root_neg {a : Nat} (ha : a < 18446744073709551616) (sa : someB a = true) : (FloatKind.f64.format.order a 0 == some .lt) = sgn a ∧ (sgn a = false → ∃ q, FloatKind.f64.format.sqrt a = some q) := by
  obtain ⟨fa, a0⟩ := some_rung sa
  have hr := fin_rung fa
  have na : nanB a = false := rung_nan (by omega)
  have a0' : rung a ≠ 0 := by simpa using a0
  have m0 : mg (rung a) ≠ 0 := by unfold mg; split <;> omega
  refine ⟨?_, fun hs => ?_⟩
  · rw [zero_lt ha, na]
    unfold place
    cases sgn a <;> simp <;> omega
  · show ∃ q, ((Ieee.double.read a).root 54).map Ieee.double.write = some q
    rw [read_fin ha fa, hs]
    simp only [Ieee.Datum.root]
    rw [if_neg m0, if_neg (by simp)]
    exact ⟨_, rfl⟩
set_option maxHeartbeats 1000000 in
theorem rsqrt_near (a : Nat) (ha : a < 18446744073709551616) (hcalm : someB a = true → 553942754166571008 ≤ rung a) (w : World) :
    Calls Tryd.prog 33 #[.float .f64 a, .int .i8 0] w fun e w' => ∃ r, e = .returned (.float .f64 r) ∧ NR (FloatKind.f64.format.sqrt a) r ∧ Below w.heap.size w w' := by
  have ca := some_any a ha
  cases sa : someB a <;> rw [sa] at ca
  · go_enter Tryd.func33, Tryd.ntmps33
    go_wp2_with (first
      | (go_at_call 54; refine (msqrt_all a _).mono ?_; rintro e w1 ⟨r, rfl, hN, hB⟩)
      | (go_at_call 51; refine (ca _).mono ?_; rintro e w' ⟨rfl, rfl⟩))
    go_ret
    exact ⟨_, rfl, hN, hB⟩
  · obtain ⟨hl, hs⟩ := root_neg ha sa
    cases sg : sgn a
    · obtain ⟨q, hq⟩ := hs sg
      rw [sg] at hl
      have fa := (some_rung sa).1
      obtain ⟨q1, q2⟩ := sqrt_word hq
      have q3 := hcalm sa
      have q4 := fin_rung fa
      obtain ⟨r1, _⟩ := neg_rung q1
      have hf : ∃ f, FloatKind.f64.format.fma (negW q) q a = some f := by
        show ∃ f, (((Ieee.double.read (negW q)).product (Ieee.double.read q)).bind (·.sum (Ieee.double.read a))).map Ieee.double.write = some f
        rw [read_fin ha fa]
        cases fq : finB q
        · have hi : rung q = 9218868437227405312 := by unfold finB at fq; simp at fq; omega
          rw [read_eq q q1, if_neg (by omega), if_pos hi, read_eq _ (negW_lt q1), if_neg (by omega), if_pos (by omega)]
          exact ⟨_, rfl⟩
        · rw [read_fin q1 fq, read_fin (negW_lt q1) ((neg_fin q1).trans fq)]
          exact ⟨_, rfl⟩
      obtain ⟨f, hf⟩ := hf
      have hd := rsqrt_great a q f 0 ha sa hq q1 (calm_test q3 (by omega)) hf (fma_word hf).1 hl w
      rw [stepF_near] at hd
      refine hd.mono ?_
      rintro e w' ⟨rfl, rfl⟩
      exact ⟨_, rfl, by rw [hq]; exact ⟨q1, rfl⟩, Below.refl _ _⟩
    · rw [sg] at hl
      clear hs hcalm
      go_enter Tryd.func33, Tryd.ntmps33
      go_wp2_with (first
        | (go_at_call 54; refine (msqrt_all a _).mono ?_; rintro e w1 ⟨r, rfl, hN, hB⟩)
        | (go_at_call 51; refine (ca _).mono ?_; rintro e w' ⟨rfl, rfl⟩))
      go_ret
      exact ⟨_, rfl, hN, hB⟩
end Go.Proofs.YtbhkgjjogepgnaaDoor
