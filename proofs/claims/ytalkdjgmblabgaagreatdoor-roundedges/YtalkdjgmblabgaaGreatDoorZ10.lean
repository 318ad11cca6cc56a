/- RoundProducts, whatever floats and way it is given. -/
import Derived.Test.YtalkdjgmblabgaaGreatDoorSh
import Derived.Test.YtalkdjgmblabgaaGreatDoorWj
import Derived.Test.YtalkdjgmblabgaaGreatDoorZs
namespace Go.Proofs.YtalkdjgmblabgaaGreatDoor
open Go.RowKit

theorem lm_one {x : Nat} (h : x < 18446744073709551616) : Lm [x] := fun y hy => by simp at hy; omega
theorem awi : intD 9007199254740993 = ⟨false, [9007199254740993], 0⟩ := by kernel_rfl
theorem awr : rndW ⟨false, [9007199254740993], 0⟩ 2 = 4845873199050653697 := by kernel_rfl
def divQ (a b : Nat) : Nat := (floatBits .quo .f64 a b).getD 0
def divF (a b : Nat) : Nat := (FloatKind.f64.format.fma (negW (divQ a b)) b a).getD 0
theorem rdiv_gen (a b : Nat) (m : Int) (ha : a < 18446744073709551616) (hb : b < 18446744073709551616) (sa : someB a = true) (sb : someB b = true) (hq : floatBits .quo .f64 a b = some (divQ a b)) (hql : Nat.blt (divQ a b) 18446744073709551616 = true)
    (hc : (FloatKind.f64.format.order (rung a) 553942754166571008 == some .lt) = false) (hf : FloatKind.f64.format.fma (negW (divQ a b)) b a = some (divF a b)) (hfl : Nat.blt (divF a b) 18446744073709551616 = true) (hb0 : (FloatKind.f64.format.order b 0 == some .lt) = false) (w : World) :
    Calls Tryz.prog 10 #[.float .f64 a, .float .f64 b, .int .i8 m] w fun e w' => e = .returned (.float .f64 (stepF (divQ a b) (signF (divF a b)) m)) ∧ w' = w :=
  rdiv_great a b _ _ m ha hb sa sb hq (by simpa using hql) hc hf (by simpa using hfl) hb0 w
set_option maxHeartbeats 2000000 in
set_option maxRecDepth 100000 in
theorem rawake (w : World) (hT : TabW w) :
    Calls Tryz.prog 12 #[] w fun e w' => e = .returned (.bool true) ∧ Below w.heap.size w w' := by
  have v1 : addV 4607182418800017408 13830554455654793216 1 = 9223372036854775808 := by kernel_rfl
  have v2 : addV 4607182418800017408 4368491638549381120 2 = 4607182418800017409 := by kernel_rfl
  have v3 : addV 4607182418800017408 4368491638549381120 0 = 4607182418800017408 := by kernel_rfl
  have v4 : addV 4607182418800017408 13830554455654793216 2 = 0 := by kernel_rfl
  have v5 : stepF (divQ 4607182418800017408 4613937818241073152) (signF (divF 4607182418800017408 4613937818241073152)) 2 = 4599676419421066582 := by kernel_rfl
  have v6 : stepF (divQ 4607182418800017408 4613937818241073152) (signF (divF 4607182418800017408 4613937818241073152)) 1 = 4599676419421066581 := by kernel_rfl
  have s1 := rsqrt_great 4616189618054758400 4611686018427387904 0 1 (by omega) (by kernel_rfl) (by kernel_rfl) (by omega) (by kernel_rfl) (by kernel_rfl) (by omega) (by kernel_rfl)
  rw [show stepF 4611686018427387904 (signF 0) 1 = 4611686018427387904 by kernel_rfl] at s1
  have i1 := rint_any 9007199254740993 2 (by omega) (by omega) (by rw [awi]; exact lm_one (by omega)) (by rw [awi]; kernel_rfl)
  rw [awi, awr] at i1
  have g1 : sgn 9223372036854775808 = true := by kernel_rfl
  have g2 : sgn 0 = false := by kernel_rfl
  have h1 := fun w => run_float_arith (P := Tryz.prog) w .mul 22 .f64 4611686018427387904 4368491638549381120 4372995238176751616 (by kernel_rfl)
  have h2 := fun w => run_float_arith (P := Tryz.prog) w .add 22 .f64 4607182418800017408 4372995238176751616 4607182418800017409 (by kernel_rfl)
  have o1 : (FloatKind.f64.format.order 4607182418800017409 4607182418800017409 == some .eq) = true := by kernel_rfl
  have o2 : (FloatKind.f64.format.order 4607182418800017408 4607182418800017408 == some .eq) = true := by kernel_rfl
  have o3 : (FloatKind.f64.format.order 9223372036854775808 0 == some .eq) = true := by kernel_rfl
  have o4 : (FloatKind.f64.format.order 4599676419421066582 4599676419421066581 == some .gt) = true := by kernel_rfl
  have o5 : (FloatKind.f64.format.order 4611686018427387904 4611686018427387904 == some .eq) = true := by kernel_rfl
  have o6 : (FloatKind.f64.format.order 4845873199050653697 4845873199050653697 == some .eq) = true := by kernel_rfl
  go_enter Tryz.func12, Tryz.ntmps12
  go_upto_region 3 with (go_at_call 37; refine (radd_gen _ _ _ (by omega) (by omega) (by kernel_rfl) (by kernel_rfl) _).mono ?_; rw [v1]; rintro e w' ⟨rfl, rfl⟩)
  go_wp2_with (first
    | (go_at_call 37; refine (radd_gen _ _ _ (by omega) (by omega) (by kernel_rfl) (by kernel_rfl) _).mono ?_; simp only [v2, v3, v4]; rintro e w' ⟨rfl, rfl⟩)
    | (go_at_call 38; refine (signbit_any _ (by omega) _).mono ?_; simp only [g1, g2]; rintro e w' ⟨rfl, rfl⟩)
    | (go_at_call 10; refine (rdiv_gen _ _ _ (by omega) (by omega) (by kernel_rfl) (by kernel_rfl) (by kernel_rfl) (by kernel_rfl) (by kernel_rfl) (by kernel_rfl) (by kernel_rfl) (by kernel_rfl) _).mono ?_; simp only [v5, v6]; rintro e w' ⟨rfl, rfl⟩)
    | (go_at_call 14; refine (s1 _).mono ?_; rintro e w' ⟨rfl, rfl⟩)
    | (go_at_call 16; refine (i1 _ (by assumption)).mono ?_; rintro e w1 ⟨rfl, hb1⟩))
  go_ret
  exact ⟨end_bool o6, hb1⟩
end Go.Proofs.YtalkdjgmblabgaaGreatDoor

namespace Go.Proofs.YtalkdjgmblabgaaGreatDoor
open Go.RowKit

theorem NR_same {o : Option Nat} {r s : Nat} (h : NR o r) (g : NR o s) : sameB r s = true := by
  unfold NR at h g
  cases o with
  | none => unfold sameB; rw [h.2, g.2]; rfl
  | some v => rw [h.2, g.2]; unfold sameB; cases hn : nanB v <;> simp
theorem NR_some {r s : Nat} (h : r < 18446744073709551616) (e : s = r) : NR (some r) s := ⟨by omega, e⟩
/-- Either way: told alike. -/
theorem radd_NR (a b : Nat) (m : Int) (ha : a < 18446744073709551616) (hb : b < 18446744073709551616) :
    ∃ o, (∀ w, Calls Tryz.prog 37 #[.float .f64 a, .float .f64 b, .int .i8 m] w fun e w' => ∃ r, e = .returned (.float .f64 r) ∧ NR o r ∧ Below w.heap.size w w') ∧
      (∀ w, Calls Tryz.prog 57 #[.float .f64 a, .float .f64 b, .int .i8 m] w fun e w' => ∃ r, e = .returned (.float .f64 r) ∧ NR o r ∧ Below w.heap.size w w') := by
  by_cases hf : finB a = true ∧ finB b = true
  · have hl := addV_lt m ha hb hf.1 hf.2
    refine ⟨some (addV a b m), fun w => (radd_gen a b m ha hb hf.1 hf.2 w).mono ?_, fun w => (dadd_gen a b m ha hb hf.1 hf.2 w).mono ?_⟩
    · rintro e w' ⟨rfl, rfl⟩; exact ⟨_, rfl, NR_some hl rfl, Below.refl _ _⟩
    · rintro e w' ⟨rfl, h⟩; exact ⟨_, rfl, NR_some hl rfl, h⟩
  · have hf' : finB a = false ∨ finB b = false := by
      cases h1 : finB a
      · exact Or.inl rfl
      · cases h2 : finB b
        · exact Or.inr rfl
        · exact absurd ⟨h1, h2⟩ hf
    refine ⟨floatBits .add .f64 a b, fun w => (radd_inf a b m ha hb hf' w).mono ?_, fun w => (dadd_inf a b m ha hb hf' w).mono ?_⟩
    · rintro e w' ⟨⟨r, rfl, hN⟩, h⟩; exact ⟨_, rfl, hN, h⟩
    · rintro e w' ⟨⟨r, rfl, hN⟩, h⟩; exact ⟨_, rfl, hN, h⟩
set_option maxHeartbeats 2000000 in
theorem sums_law (a b : Nat) (m : Int) (ha : a < 18446744073709551616) (hb : b < 18446744073709551616) (w : World) (hT : TabW w) :
    Calls Tryz.prog 22 #[.float .f64 a, .float .f64 b, .int .i8 m] w fun e w' => e = .returned (.bool true) ∧ Below w.heap.size w w' := by
  obtain ⟨o, p1, p2⟩ := radd_NR a b m ha hb
  obtain ⟨q, q1, q2⟩ := radd_NR a (negW b) m ha (negW_lt hb)
  have p3 := fun w => rsub_of a b m w (fun r w' => NR q r ∧ Below w.heap.size w w') (q1 w)
  have p4 := fun w => dsub_of a b m w (fun r w' => NR q r ∧ Below w.heap.size w w') (q2 w)
  go_enter Tryz.func22, Tryz.ntmps22
  go_wp2_with (first
    | (go_at_call 37; refine (p1 _).mono ?_; rintro e w1 ⟨r1, rfl, n1, b1⟩)
    | (go_at_call 57; refine (p2 _).mono ?_; rintro e w2 ⟨r2, rfl, n2, b2⟩)
    | (go_at_call 58; refine (p3 _).mono ?_; rintro e w3 ⟨r3, rfl, n3, b3⟩)
    | (go_at_call 59; refine (p4 _).mono ?_; rintro e w4 ⟨r4, rfl, n4, b4⟩)
    | (go_at_call_of 7 (Value.float FloatKind.f64 r1); refine (samef_any _ _ n1.1 n2.1 _).mono ?_; rw [NR_same n1 n2]; rintro e w' ⟨rfl, rfl⟩)
    | (go_at_call_of 7 (Value.float FloatKind.f64 r3); refine (samef_any _ _ n3.1 n4.1 _).mono ?_; rw [NR_same n3 n4]; rintro e w' ⟨rfl, rfl⟩)
    | (go_at_call 12; have B4 := ((b1.trans (b2.mono b1.size)).trans (b3.mono (b1.trans (b2.mono b1.size)).size)); have B5 := B4.trans (b4.mono B4.size); refine (rawake _ (tabW_below hT B5)).mono ?_; rintro e w5 ⟨rfl, b5⟩))
  go_ret
  exact ⟨rfl, B5.trans (b5.mono B5.size)⟩
end Go.Proofs.YtalkdjgmblabgaaGreatDoor

namespace Go.Proofs.YtalkdjgmblabgaaGreatDoor
open Go.RowKit

theorem some_parts {a : Nat} : someB a = (finB a && !(rung a == 0)) := rfl
set_option maxHeartbeats 1000000 in
theorem rmul_sp (a b : Nat) (m : Int) (ha : a < 18446744073709551616) (hb : b < 18446744073709551616) (hs : (someB a && someB b) = false) (w : World) :
    Calls Tryz.prog 8 #[.float .f64 a, .float .f64 b, .int .i8 m] w fun e w' => ∃ r, e = .returned (.float .f64 r) ∧ NR (floatBits .mul .f64 a b) r ∧ Below w.heap.size w w' := by
  have ca := some_any a ha
  have cb := some_any b hb
  have hcv := conv64
  have h1 := fun w => run_op4 (P := Tryz.prog) (op := .mul) (Or.inr (Or.inr (Or.inl rfl))) 22 a b w
  have hN := op_NR (op := .mul) (Or.inr (Or.inr (Or.inl rfl))) (a := a) (b := b)
  have hB := opW_below .mul a b (Below.refl w.heap.size w)
  cases sa : someB a <;> rw [sa] at ca
  · go_enter Tryz.func8, Tryz.ntmps8
    go_wp2_with (go_at_call_of 24 (Value.float FloatKind.f64 a); refine (ca _).mono ?_; rintro e w' ⟨rfl, rfl⟩)
    go_ret
    exact ⟨_, rfl, hN _, hB⟩
  · cases sb : someB b <;> rw [sb] at cb
    · go_enter Tryz.func8, Tryz.ntmps8
      go_wp2_with (first
        | (go_at_call_of 24 (Value.float FloatKind.f64 a); refine (ca _).mono ?_; rintro e w' ⟨rfl, rfl⟩)
        | (go_at_call_of 24 (Value.float FloatKind.f64 b); refine (cb _).mono ?_; rintro e w' ⟨rfl, rfl⟩))
      go_ret
      exact ⟨_, rfl, hN _, hB⟩
    · rw [sa, sb] at hs; cases hs
set_option maxHeartbeats 1000000 in
theorem rdiv_sp (a b : Nat) (m : Int) (ha : a < 18446744073709551616) (hb : b < 18446744073709551616) (hs : (someB a && someB b) = false) (w : World) :
    Calls Tryz.prog 10 #[.float .f64 a, .float .f64 b, .int .i8 m] w fun e w' => ∃ r, e = .returned (.float .f64 r) ∧ NR (floatBits .quo .f64 a b) r ∧ Below w.heap.size w w' := by
  have ca := some_any a ha
  have cb := some_any b hb
  have hcv := conv64
  have hz := zero_eq hb
  have h1 := fun w => run_op4 (P := Tryz.prog) (op := .quo) (Or.inr (Or.inr (Or.inr rfl))) 22 a b w
  have hN := op_NR (op := .quo) (Or.inr (Or.inr (Or.inr rfl))) (a := a) (b := b)
  have hB := opW_below .quo a b (Below.refl w.heap.size w)
  by_cases b0 : rung b = 0
  · rw [show (rung b == 0) = true by simpa using b0] at hz
    have co := over_any a b ha hb b0
    clear b0 h1 hs
    go_enter Tryz.func10, Tryz.ntmps10
    go_wp2_with (go_at_call 36; refine (co _).mono ?_; rintro e w' ⟨r, rfl, hr, rfl⟩)
    go_ret
    exact ⟨_, rfl, hr, Below.refl _ _⟩
  · rw [show (rung b == 0) = false by simpa using b0] at hz
    cases sa : someB a <;> rw [sa] at ca
    · clear b0
      go_enter Tryz.func10, Tryz.ntmps10
      go_wp2_with (go_at_call_of 24 (Value.float FloatKind.f64 a); refine (ca _).mono ?_; rintro e w' ⟨rfl, rfl⟩)
      go_ret
      exact ⟨_, rfl, hN _, hB⟩
    · cases sb : someB b <;> rw [sb] at cb
      · clear b0
        go_enter Tryz.func10, Tryz.ntmps10
        go_wp2_with (first
          | (go_at_call_of 24 (Value.float FloatKind.f64 a); refine (ca _).mono ?_; rintro e w' ⟨rfl, rfl⟩)
          | (go_at_call_of 24 (Value.float FloatKind.f64 b); refine (cb _).mono ?_; rintro e w' ⟨rfl, rfl⟩))
        go_ret
        exact ⟨_, rfl, hN _, hB⟩
      · rw [sa, sb] at hs; cases hs
set_option maxHeartbeats 2000000 in
theorem dmul_sp (a b : Nat) (m : Int) (ha : a < 18446744073709551616) (hb : b < 18446744073709551616) (hs : (someB a && someB b) = false) (w : World) :
    Calls Tryz.prog 9 #[.float .f64 a, .float .f64 b, .int .i8 m] w fun e w' => ∃ r, e = .returned (.float .f64 r) ∧ NR (floatBits .mul .f64 a b) r ∧ Below w.heap.size w w' := by
  have ca := dfin_all a ha
  have cb := dfin_all b hb
  have hcv := conv64
  have za := zero_eq ha
  have zb := zero_eq hb
  have h1 := fun w => run_op4 (P := Tryz.prog) (op := .mul) (Or.inr (Or.inr (Or.inl rfl))) 22 a b w
  have hN := op_NR (op := .mul) (Or.inr (Or.inr (Or.inl rfl))) (a := a) (b := b)
  have bz := opW_below .mul a b (Below.refl w.heap.size w)
  rw [some_parts, some_parts] at hs
  cases p1 : finB a <;> rw [p1] at ca hs <;> cases p2 : finB b <;> rw [p2] at cb hs <;> cases p3 : (rung a == 0) <;> rw [p3] at za hs <;> cases p4 : (rung b == 0) <;> rw [p4] at zb hs <;>
    first
    | (exfalso; cases hs; done)
    | (clear hs
       go_enter Tryz.func9, Tryz.ntmps9
       go_wp2_with (first
         | (go_at_call_of 27 (Value.float FloatKind.f64 a); refine (ca _).mono ?_; rintro e w1 ⟨rfl, b1⟩; have bz := bz.trans (b1.mono bz.size))
         | (go_at_call_of 27 (Value.float FloatKind.f64 b); refine (cb _).mono ?_; rintro e w2 ⟨rfl, b2⟩; have bz := bz.trans (b2.mono bz.size)))
       go_ret
       exact ⟨_, rfl, hN _, bz⟩)
set_option maxHeartbeats 2000000 in
theorem ddiv_sp (a b : Nat) (m : Int) (ha : a < 18446744073709551616) (hb : b < 18446744073709551616) (hs : (someB a && someB b) = false) (w : World) :
    Calls Tryz.prog 11 #[.float .f64 a, .float .f64 b, .int .i8 m] w fun e w' => ∃ r, e = .returned (.float .f64 r) ∧ NR (floatBits .quo .f64 a b) r ∧ Below w.heap.size w w' := by
  have ca := dfin_all a ha
  have cb := dfin_all b hb
  have za := zero_eq ha
  have zb := zero_eq hb
  have h1 := fun w => run_op4 (P := Tryz.prog) (op := .quo) (Or.inr (Or.inr (Or.inr rfl))) 22 a b w
  have hN := op_NR (op := .quo) (Or.inr (Or.inr (Or.inr rfl))) (a := a) (b := b)
  have bz := opW_below .quo a b (Below.refl w.heap.size w)
  rw [some_parts, some_parts] at hs
  cases p1 : finB a <;> rw [p1] at ca hs <;> cases p2 : finB b <;> rw [p2] at cb hs <;> cases p3 : (rung a == 0) <;> rw [p3] at za hs <;> cases p4 : (rung b == 0) <;> rw [p4] at zb hs <;>
    first
    | (exfalso; cases hs; done)
    | (clear hs
       go_enter Tryz.func11, Tryz.ntmps11
       go_wp2_with (first
         | (go_at_call_of 27 (Value.float FloatKind.f64 a); refine (ca _).mono ?_; rintro e w1 ⟨rfl, b1⟩; have bz := bz.trans (b1.mono bz.size))
         | (go_at_call_of 27 (Value.float FloatKind.f64 b); refine (cb _).mono ?_; rintro e w2 ⟨rfl, b2⟩; have bz := bz.trans (b2.mono bz.size)))
       go_ret
       exact ⟨_, rfl, hN _, bz⟩)
theorem mul_NR (a b : Nat) (m : Int) (ha : a < 18446744073709551616) (hb : b < 18446744073709551616) :
    ∃ o, (∀ w, TabW w → Calls Tryz.prog 8 #[.float .f64 a, .float .f64 b, .int .i8 m] w fun e w' => ∃ r, e = .returned (.float .f64 r) ∧ NR o r ∧ Below w.heap.size w w') ∧
      (∀ w, Calls Tryz.prog 9 #[.float .f64 a, .float .f64 b, .int .i8 m] w fun e w' => ∃ r, e = .returned (.float .f64 r) ∧ NR o r ∧ Below w.heap.size w w') := by
  cases hs : (someB a && someB b)
  · exact ⟨floatBits .mul .f64 a b, fun w _ => rmul_sp a b m ha hb hs w, fun w => dmul_sp a b m ha hb hs w⟩
  · have sa : someB a = true := by revert hs; cases someB a <;> simp
    have sb : someB b = true := by revert hs; cases someB b <;> simp
    have hq : floatBits .mul .f64 a b = some (pQ a b) := by
      have e : ∃ q, floatBits .mul .f64 a b = some q := by
        rw [(fbits_map a b).2.2.1, read_fin ha (some_rung sa).1, read_fin hb (some_rung sb).1]
        exact ⟨_, rfl⟩
      obtain ⟨q, hq⟩ := e
      unfold pQ; rw [hq]; rfl
    have hl : stepF (pQ a b) (pS a b) m < 18446744073709551616 := stepF_lt _ _ (op_word (op := .mul) (Or.inr (Or.inr (Or.inl rfl))) hq).1
    refine ⟨some (stepF (pQ a b) (pS a b) m), fun w hT => (rmul_any a b m ha hb sa sb w hT).2.mono ?_, fun w => (dmul_any a b m ha hb sa sb hq w).mono ?_⟩
    · rintro e w' ⟨rfl, h⟩; exact ⟨_, rfl, NR_some hl rfl, h⟩
    · rintro e w' ⟨rfl, h⟩; exact ⟨_, rfl, NR_some hl rfl, h⟩
theorem div_NR (a b : Nat) (m : Int) (ha : a < 18446744073709551616) (hb : b < 18446744073709551616) :
    ∃ o, (∀ w, TabW w → Calls Tryz.prog 10 #[.float .f64 a, .float .f64 b, .int .i8 m] w fun e w' => ∃ r, e = .returned (.float .f64 r) ∧ NR o r ∧ Below w.heap.size w w') ∧
      (∀ w, Calls Tryz.prog 11 #[.float .f64 a, .float .f64 b, .int .i8 m] w fun e w' => ∃ r, e = .returned (.float .f64 r) ∧ NR o r ∧ Below w.heap.size w w') := by
  cases hs : (someB a && someB b)
  · exact ⟨floatBits .quo .f64 a b, fun w _ => rdiv_sp a b m ha hb hs w, fun w => ddiv_sp a b m ha hb hs w⟩
  · have sa : someB a = true := by revert hs; cases someB a <;> simp
    have sb : someB b = true := by revert hs; cases someB b <;> simp
    have b0 : rung b ≠ 0 := by simpa using (some_rung sb).2
    have m0 : mg (rung b) ≠ 0 := by unfold mg; split <;> omega
    have hq : floatBits .quo .f64 a b = some (kQ a b) := by
      have e : ∃ q, floatBits .quo .f64 a b = some q := by
        rw [(fbits_map a b).2.2.2, read_fin ha (some_rung sa).1, read_fin hb (some_rung sb).1]
        simp only [Ieee.Datum.quotient]
        rw [if_neg m0]
        exact ⟨_, rfl⟩
      obtain ⟨q, hq⟩ := e
      unfold kQ; rw [hq]; rfl
    have hl : stepF (kQ a b) (kS a b) m < 18446744073709551616 := stepF_lt _ _ (op_word (op := .quo) (Or.inr (Or.inr (Or.inr rfl))) hq).1
    refine ⟨some (stepF (kQ a b) (kS a b) m), fun w hT => (rdiv_any a b m ha hb sa sb w hT).2.mono ?_, fun w => (ddiv_any a b m ha hb sa sb hq w).mono ?_⟩
    · rintro e w' ⟨rfl, h⟩; exact ⟨_, rfl, NR_some hl rfl, h⟩
    · rintro e w' ⟨rfl, h⟩; exact ⟨_, rfl, NR_some hl rfl, h⟩
set_option maxHeartbeats 2000000 in
theorem products_law (a b : Nat) (m : Int) (ha : a < 18446744073709551616) (hb : b < 18446744073709551616) (w : World) (hT : TabW w) :
    Calls Tryz.prog 3 #[.float .f64 a, .float .f64 b, .int .i8 m] w fun e w' => e = .returned (.bool true) ∧ Below w.heap.size w w' := by
  obtain ⟨o, p1, p2⟩ := mul_NR a b m ha hb
  obtain ⟨q, q1, q2⟩ := div_NR a b m ha hb
  go_enter Tryz.func3, Tryz.ntmps3
  go_wp2_with (first
    | (go_at_call 8; refine (p1 _ hT).mono ?_; rintro e w1 ⟨r1, rfl, n1, b1⟩)
    | (go_at_call 9; refine (p2 _).mono ?_; rintro e w2 ⟨r2, rfl, n2, b2⟩; have B2 := b1.trans (b2.mono b1.size))
    | (go_at_call 10; refine (q1 _ (tabW_below hT B2)).mono ?_; rintro e w3 ⟨r3, rfl, n3, b3⟩; have B3 := B2.trans (b3.mono B2.size))
    | (go_at_call 11; refine (q2 _).mono ?_; rintro e w4 ⟨r4, rfl, n4, b4⟩; have B4 := B3.trans (b4.mono B3.size))
    | (go_at_call_of 7 (Value.float FloatKind.f64 r1); refine (samef_any _ _ n1.1 n2.1 _).mono ?_; rw [NR_same n1 n2]; rintro e w' ⟨rfl, rfl⟩)
    | (go_at_call_of 7 (Value.float FloatKind.f64 r3); refine (samef_any _ _ n3.1 n4.1 _).mono ?_; rw [NR_same n3 n4]; rintro e w' ⟨rfl, rfl⟩)
    | (go_at_call 12; refine (rawake _ (tabW_below hT B4)).mono ?_; rintro e w5 ⟨rfl, b5⟩))
  go_ret
  exact ⟨rfl, B4.trans (b5.mono B4.size)⟩
end Go.Proofs.YtalkdjgmblabgaaGreatDoor
