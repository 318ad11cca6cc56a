/- RoundProducts, whatever floats and way it is given. -/
import Derived.Test.YtalkdjgmblabgaaDoorSh
import Derived.Test.YtalkdjgmblabgaaDoorWj
import Derived.Test.YtalkdjgmblabgaaDoorZs
namespace Go.Proofs.YtalkdjgmblabgaaDoor
open Go.RowKit

theorem lm_one {x : Nat} (h : x < 18446744073709551616) : Lm [x] := fun y hy => by simp at hy; omega
theorem awi : intD 9007199254740993 = ⟨false, [9007199254740993], 0⟩ := by kernel_rfl
theorem awr : rndW ⟨false, [9007199254740993], 0⟩ 2 = 4845873199050653697 := by kernel_rfl
def divQ (a b : Nat) : Nat := (floatBits .quo .f64 a b).getD 0
def divF (a b : Nat) : Nat := (FloatKind.f64.format.fma (negW (divQ a b)) b a).getD 0
theorem rdiv_gen (a b : Nat) (m : Int) (ha : a < 18446744073709551616) (hb : b < 18446744073709551616) (sa : someB a = true) (sb : someB b = true) (hq : floatBits .quo .f64 a b = some (divQ a b)) (hql : Nat.blt (divQ a b) 18446744073709551616 = true)
    (hc : (FloatKind.f64.format.order (rung a) 553942754166571008 == some .lt) = false) (hf : FloatKind.f64.format.fma (negW (divQ a b)) b a = some (divF a b)) (hfl : Nat.blt (divF a b) 18446744073709551616 = true) (hb0 : (FloatKind.f64.format.order b 0 == some .lt) = false) (w : World) :
    Calls Tryd.prog 30 #[.float .f64 a, .float .f64 b, .int .i8 m] w fun e w' => e = .returned (.float .f64 (stepF (divQ a b) (signF (divF a b)) m)) ∧ w' = w :=
  rdiv_great a b _ _ m ha hb sa sb hq (by simpa using hql) hc hf (by simpa using hfl) hb0 w
set_option maxHeartbeats 2000000 in
set_option maxRecDepth 100000 in
theorem rawake (w : World) (hT : TabW w) :
    Calls Tryd.prog 10 #[] w fun e w' => e = .returned (.bool true) ∧ Below w.heap.size w w' := by
  have v1 : addV 4607182418800017408 13830554455654793216 1 = 9223372036854775808 := by kernel_rfl
  have v2 : addV 4607182418800017408 4368491638549381120 2 = 4607182418800017409 := by kernel_rfl
  have v3 : addV 4607182418800017408 4368491638549381120 0 = 4607182418800017408 := by kernel_rfl
  have v4 : addV 4607182418800017408 13830554455654793216 2 = 0 := by kernel_rfl
  have v5 : stepF (divQ 4607182418800017408 4613937818241073152) (signF (divF 4607182418800017408 4613937818241073152)) 2 = 4599676419421066582 := by kernel_rfl
  have v6 : stepF (divQ 4607182418800017408 4613937818241073152) (signF (divF 4607182418800017408 4613937818241073152)) 1 = 4599676419421066581 := by kernel_rfl
  have s1 := rsqrt_great 4616189618054758400 4611686018427387904 0 1 (by omega) (by kernel_rfl) (by kernel_rfl) (by omega) (by kernel_rfl) (by kernel_rfl) (by omega) (by kernel_rfl)
  rw [show stepF 4611686018427387904 (signF 0) 1 = 4611686018427387904 by kernel_rfl] at s1
  have i1 := rint_any 9007199254740993 2 (by omega) (by omega) (by rw [awi]; exact lm_one (by omega)) (by rw [awi]; kernel_rfl)
  rw [awi, awr] at i1
  have g1 : sgn 9223372036854775808 = true := by kernel_rfl
  have g2 : sgn 0 = false := by kernel_rfl
  have h1 := fun w => run_float_arith (P := Tryd.prog) w .mul 22 .f64 4611686018427387904 4368491638549381120 4372995238176751616 (by kernel_rfl)
  have h2 := fun w => run_float_arith (P := Tryd.prog) w .add 22 .f64 4607182418800017408 4372995238176751616 4607182418800017409 (by kernel_rfl)
  have o1 : (FloatKind.f64.format.order 4607182418800017409 4607182418800017409 == some .eq) = true := by kernel_rfl
  have o2 : (FloatKind.f64.format.order 4607182418800017408 4607182418800017408 == some .eq) = true := by kernel_rfl
  have o3 : (FloatKind.f64.format.order 9223372036854775808 0 == some .eq) = true := by kernel_rfl
  have o4 : (FloatKind.f64.format.order 4599676419421066582 4599676419421066581 == some .gt) = true := by kernel_rfl
  have o5 : (FloatKind.f64.format.order 4611686018427387904 4611686018427387904 == some .eq) = true := by kernel_rfl
  have o6 : (FloatKind.f64.format.order 4845873199050653697 4845873199050653697 == some .eq) = true := by kernel_rfl
  go_enter Tryd.func10, Tryd.ntmps10
  go_upto_region 3 with (go_at_call 6; refine (radd_gen _ _ _ (by omega) (by omega) (by kernel_rfl) (by kernel_rfl) _).mono ?_; rw [v1]; rintro e w' ⟨rfl, rfl⟩)
  go_wp2_with (first
    | (go_at_call 6; refine (radd_gen _ _ _ (by omega) (by omega) (by kernel_rfl) (by kernel_rfl) _).mono ?_; simp only [v2, v3, v4]; rintro e w' ⟨rfl, rfl⟩)
    | (go_at_call 17; refine (signbit_any _ (by omega) _).mono ?_; simp only [g1, g2]; rintro e w' ⟨rfl, rfl⟩)
    | (go_at_call 30; refine (rdiv_gen _ _ _ (by omega) (by omega) (by kernel_rfl) (by kernel_rfl) (by kernel_rfl) (by kernel_rfl) (by kernel_rfl) (by kernel_rfl) (by kernel_rfl) (by kernel_rfl) _).mono ?_; simp only [v5, v6]; rintro e w' ⟨rfl, rfl⟩)
    | (go_at_call 31; refine (s1 _).mono ?_; rintro e w' ⟨rfl, rfl⟩)
    | (go_at_call 32; refine (i1 _ (by assumption)).mono ?_; rintro e w1 ⟨rfl, hb1⟩))
  go_ret
  exact ⟨end_bool o6, hb1⟩
end Go.Proofs.YtalkdjgmblabgaaDoor

namespace Go.Proofs.YtalkdjgmblabgaaDoor
open Go.RowKit

theorem NR_same {o : Option Nat} {r s : Nat} (h : NR o r) (g : NR o s) : sameB r s = true := by
  unfold NR at h g
  cases o with
  | none => unfold sameB; rw [h.2, g.2]; rfl
  | some v => rw [h.2, g.2]; unfold sameB; cases hn : nanB v <;> simp
theorem NR_some {r s : Nat} (h : r < 18446744073709551616) (e : s = r) : NR (some r) s := ⟨by omega, e⟩
/-- Either way: told alike. -/
theorem radd_NR (a b : Nat) (m : Int) (ha : a < 18446744073709551616) (hb : b < 18446744073709551616) :
    ∃ o, (∀ w, Calls Tryd.prog 6 #[.float .f64 a, .float .f64 b, .int .i8 m] w fun e w' => ∃ r, e = .returned (.float .f64 r) ∧ NR o r ∧ Below w.heap.size w w') ∧
      (∀ w, Calls Tryd.prog 7 #[.float .f64 a, .float .f64 b, .int .i8 m] w fun e w' => ∃ r, e = .returned (.float .f64 r) ∧ NR o r ∧ Below w.heap.size w w') := by
  by_cases hf : finB a = true ∧ finB b = true
  · have hl := addV_lt m ha hb hf.1 hf.2
    refine ⟨some (addV a b m), fun w => (radd_gen a b m ha hb hf.1 hf.2 w).mono ?_, fun w => (dadd_gen a b m ha hb hf.1 hf.2 w).mono ?_⟩
    · rintro e w' ⟨rfl, rfl⟩; exact ⟨_, rfl, NR_some hl rfl, Below.refl _ _⟩
    · rintro e w' ⟨rfl, h⟩; exact ⟨_, rfl, NR_some hl rfl, h⟩
  · have hf' : finB a = false ∨ finB b = false := by
      cases h1 : finB a
      · exact Or.inl rfl
      · cases h2 : finB b
        · exact Or.inr rfl
        · exact absurd ⟨h1, h2⟩ hf
    refine ⟨floatBits .add .f64 a b, fun w => (radd_inf a b m ha hb hf' w).mono ?_, fun w => (dadd_inf a b m ha hb hf' w).mono ?_⟩
    · rintro e w' ⟨⟨r, rfl, hN⟩, h⟩; exact ⟨_, rfl, hN, h⟩
    · rintro e w' ⟨⟨r, rfl, hN⟩, h⟩; exact ⟨_, rfl, hN, h⟩
set_option maxHeartbeats 2000000 in
theorem sums_law (a b : Nat) (m : Int) (ha : a < 18446744073709551616) (hb : b < 18446744073709551616) (w : World) (hT : TabW w) :
    Calls Tryd.prog 3 #[.float .f64 a, .float .f64 b, .int .i8 m] w fun e w' => e = .returned (.bool true) ∧ Below w.heap.size w w' := by
  obtain ⟨o, p1, p2⟩ := radd_NR a b m ha hb
  obtain ⟨q, q1, q2⟩ := radd_NR a (negW b) m ha (negW_lt hb)
  have p3 := fun w => rsub_of a b m w (fun r w' => NR q r ∧ Below w.heap.size w w') (q1 w)
  have p4 := fun w => dsub_of a b m w (fun r w' => NR q r ∧ Below w.heap.size w w') (q2 w)
  go_enter Tryd.func3, Tryd.ntmps3
  go_wp2_with (first
    | (go_at_call 6; refine (p1 _).mono ?_; rintro e w1 ⟨r1, rfl, n1, b1⟩)
    | (go_at_call 7; refine (p2 _).mono ?_; rintro e w2 ⟨r2, rfl, n2, b2⟩)
    | (go_at_call 8; refine (p3 _).mono ?_; rintro e w3 ⟨r3, rfl, n3, b3⟩)
    | (go_at_call 9; refine (p4 _).mono ?_; rintro e w4 ⟨r4, rfl, n4, b4⟩)
    | (go_at_call_of 5 (Value.float FloatKind.f64 r1); refine (samef_any _ _ n1.1 n2.1 _).mono ?_; rw [NR_same n1 n2]; rintro e w' ⟨rfl, rfl⟩)
    | (go_at_call_of 5 (Value.float FloatKind.f64 r3); refine (samef_any _ _ n3.1 n4.1 _).mono ?_; rw [NR_same n3 n4]; rintro e w' ⟨rfl, rfl⟩)
    | (go_at_call 10; have B4 := ((b1.trans (b2.mono b1.size)).trans (b3.mono (b1.trans (b2.mono b1.size)).size)); have B5 := B4.trans (b4.mono B4.size); refine (rawake _ (tabW_below hT B5)).mono ?_; rintro e w5 ⟨rfl, b5⟩))
  go_ret
  exact ⟨rfl, B5.trans (b5.mono B5.size)⟩
end Go.Proofs.YtalkdjgmblabgaaDoor

namespace Go.Proofs.YtalkdjgmblabgaaDoor
open Go.RowKit

theorem some_parts {a : Nat} : someB a = (finB a && !(rung a == 0)) := rfl
set_option maxHeartbeats 1000000 in
theorem rmul_sp (a b : Nat) (m : Int) (ha : a < 18446744073709551616) (hb : b < 18446744073709551616) (hs : (someB a && someB b) = false) (w : World) :
    Calls Tryd.prog 34 #[.float .f64 a, .float .f64 b, .int .i8 m] w fun e w' => ∃ r, e = .returned (.float .f64 r) ∧ NR (floatBits .mul .f64 a b) r ∧ Below w.heap.size w w' := by
  have ca := some_any a ha
  have cb := some_any b hb
  have hcv := conv64
  have h1 := fun w => run_op4 (P := Tryd.prog) (op := .mul) (Or.inr (Or.inr (Or.inl rfl))) 22 a b w
  have hN := op_NR (op := .mul) (Or.inr (Or.inr (Or.inl rfl))) (a := a) (b := b)
  have hB := opW_below .mul a b (Below.refl w.heap.size w)
  cases sa : someB a <;> rw [sa] at ca
  · go_enter Tryd.func34, Tryd.ntmps34
    go_wp2_with (go_at_call_of 45 (Value.float FloatKind.f64 a); refine (ca _).mono ?_; rintro e w' ⟨rfl, rfl⟩)
    go_ret
    exact ⟨_, rfl, hN _, hB⟩
  · cases sb : someB b <;> rw [sb] at cb
    · go_enter Tryd.func34, Tryd.ntmps34
      go_wp2_with (first
        | (go_at_call_of 45 (Value.float FloatKind.f64 a); refine (ca _).mono ?_; rintro e w' ⟨rfl, rfl⟩)
        | (go_at_call_of 45 (Value.float FloatKind.f64 b); refine (cb _).mono ?_; rintro e w' ⟨rfl, rfl⟩))
      go_ret
      exact ⟨_, rfl, hN _, hB⟩
    · rw [sa, sb] at hs; cases hs
set_option maxHeartbeats 1000000 in
theorem rdiv_sp (a b : Nat) (m : Int) (ha : a < 18446744073709551616) (hb : b < 18446744073709551616) (hs : (someB a && someB b) = false) (w : World) :
    Calls Tryd.prog 30 #[.float .f64 a, .float .f64 b, .int .i8 m] w fun e w' => ∃ r, e = .returned (.float .f64 r) ∧ NR (floatBits .quo .f64 a b) r ∧ Below w.heap.size w w' := by
  have ca := some_any a ha
  have cb := some_any b hb
  have hcv := conv64
  have hz := zero_eq hb
  have h1 := fun w => run_op4 (P := Tryd.prog) (op := .quo) (Or.inr (Or.inr (Or.inr rfl))) 22 a b w
  have hN := op_NR (op := .quo) (Or.inr (Or.inr (Or.inr rfl))) (a := a) (b := b)
  have hB := opW_below .quo a b (Below.refl w.heap.size w)
  by_cases b0 : rung b = 0
  · rw [show (rung b == 0) = true by simpa using b0] at hz
    have co := over_any a b ha hb b0
    clear b0 h1 hs
    go_enter Tryd.func30, Tryd.ntmps30
    go_wp2_with (go_at_call 44; refine (co _).mono ?_; rintro e w' ⟨r, rfl, hr, rfl⟩)
    go_ret
    exact ⟨_, rfl, hr, Below.refl _ _⟩
  · rw [show (rung b == 0) = false by simpa using b0] at hz
    cases sa : someB a <;> rw [sa] at ca
    · clear b0
      go_enter Tryd.func30, Tryd.ntmps30
      go_wp2_with (go_at_call_of 45 (Value.float FloatKind.f64 a); refine (ca _).mono ?_; rintro e w' ⟨rfl, rfl⟩)
      go_ret
      exact ⟨_, rfl, hN _, hB⟩
    · cases sb : someB b <;> rw [sb] at cb
      · clear b0
        go_enter Tryd.func30, Tryd.ntmps30
        go_wp2_with (first
          | (go_at_call_of 45 (Value.float FloatKind.f64 a); refine (ca _).mono ?_; rintro e w' ⟨rfl, rfl⟩)
          | (go_at_call_of 45 (Value.float FloatKind.f64 b); refine (cb _).mono ?_; rintro e w' ⟨rfl, rfl⟩))
        go_ret
        exact ⟨_, rfl, hN _, hB⟩
      · rw [sa, sb] at hs; cases hs
end Go.Proofs.YtalkdjgmblabgaaDoor
