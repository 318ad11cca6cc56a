/- RoundProducts, whatever floats and way it is given. -/
import Derived.Test.YtiaeannkkjhkaaaGreatDoorZs
import Derived.Test.YtiaeannkkjhkaaaGreatDoorSj
namespace Go.Proofs.YtiaeannkkjhkaaaGreatDoor
open Go.RowKit

theorem some_parts {a : Nat} : someB a = (finB a && !(rung a == 0)) := rfl
set_option maxHeartbeats 1000000 in
theorem rmul_sp (a b : Nat) (m : Int) (ha : a < 18446744073709551616) (hb : b < 18446744073709551616) (hs : (someB a && someB b) = false) (w : World) :
    Calls Tryz.prog 58 #[.float .f64 a, .float .f64 b, .int .i8 m] w fun e w' => ∃ r, e = .returned (.float .f64 r) ∧ NR (floatBits .mul .f64 a b) r ∧ Below w.heap.size w w' := by
  have ca := some_any a ha
  have cb := some_any b hb
  have hcv := conv64
  have h1 := fun w => run_op4 (P := Tryz.prog) (op := .mul) (Or.inr (Or.inr (Or.inl rfl))) 22 a b w
  have hN := op_NR (op := .mul) (Or.inr (Or.inr (Or.inl rfl))) (a := a) (b := b)
  have hB := opW_below .mul a b (Below.refl w.heap.size w)
  cases sa : someB a <;> rw [sa] at ca
  · go_enter Tryz.func58, Tryz.ntmps58
    go_wp2_with (go_at_call_of 90 (Value.float FloatKind.f64 a); refine (ca _).mono ?_; rintro e w' ⟨rfl, rfl⟩)
    go_ret
    exact ⟨_, rfl, hN _, hB⟩
  · cases sb : someB b <;> rw [sb] at cb
    · go_enter Tryz.func58, Tryz.ntmps58
      go_wp2_with (first
        | (go_at_call_of 90 (Value.float FloatKind.f64 a); refine (ca _).mono ?_; rintro e w' ⟨rfl, rfl⟩)
        | (go_at_call_of 90 (Value.float FloatKind.f64 b); refine (cb _).mono ?_; rintro e w' ⟨rfl, rfl⟩))
      go_ret
      exact ⟨_, rfl, hN _, hB⟩
    · rw [sa, sb] at hs; cases hs
set_option maxHeartbeats 1000000 in
theorem rdiv_sp (a b : Nat) (m : Int) (ha : a < 18446744073709551616) (hb : b < 18446744073709551616) (hs : (someB a && someB b) = false) (w : World) :
    Calls Tryz.prog 89 #[.float .f64 a, .float .f64 b, .int .i8 m] w fun e w' => ∃ r, e = .returned (.float .f64 r) ∧ NR (floatBits .quo .f64 a b) r ∧ Below w.heap.size w w' := by
  have ca := some_any a ha
  have cb := some_any b hb
  have hcv := conv64
  have hz := zero_eq hb
  have h1 := fun w => run_op4 (P := Tryz.prog) (op := .quo) (Or.inr (Or.inr (Or.inr rfl))) 22 a b w
  have hN := op_NR (op := .quo) (Or.inr (Or.inr (Or.inr rfl))) (a := a) (b := b)
  have hB := opW_below .quo a b (Below.refl w.heap.size w)
  by_cases b0 : rung b = 0
  · rw [show (rung b == 0) = true by simpa using b0] at hz
    have co := over_any a b ha hb b0
    clear b0 h1 hs
    go_enter Tryz.func89, Tryz.ntmps89
    go_wp2_with (go_at_call 120; refine (co _).mono ?_; rintro e w' ⟨r, rfl, hr, rfl⟩)
    go_ret
    exact ⟨_, rfl, hr, Below.refl _ _⟩
  · rw [show (rung b == 0) = false by simpa using b0] at hz
    cases sa : someB a <;> rw [sa] at ca
    · clear b0
      go_enter Tryz.func89, Tryz.ntmps89
      go_wp2_with (go_at_call_of 90 (Value.float FloatKind.f64 a); refine (ca _).mono ?_; rintro e w' ⟨rfl, rfl⟩)
      go_ret
      exact ⟨_, rfl, hN _, hB⟩
    · cases sb : someB b <;> rw [sb] at cb
      · clear b0
        go_enter Tryz.func89, Tryz.ntmps89
        go_wp2_with (first
          | (go_at_call_of 90 (Value.float FloatKind.f64 a); refine (ca _).mono ?_; rintro e w' ⟨rfl, rfl⟩)
          | (go_at_call_of 90 (Value.float FloatKind.f64 b); refine (cb _).mono ?_; rintro e w' ⟨rfl, rfl⟩))
        go_ret
        exact ⟨_, rfl, hN _, hB⟩
      · rw [sa, sb] at hs; cases hs
set_option maxHeartbeats 2000000 in
theorem dmul_sp (a b : Nat) (m : Int) (ha : a < 18446744073709551616) (hb : b < 18446744073709551616) (hs : (someB a && someB b) = false) (w : World) :
    Calls Tryz.prog 59 #[.float .f64 a, .float .f64 b, .int .i8 m] w fun e w' => ∃ r, e = .returned (.float .f64 r) ∧ NR (floatBits .mul .f64 a b) r ∧ Below w.heap.size w w' := by
  have ca := dfin_all a ha
  have cb := dfin_all b hb
  have hcv := conv64
  have za := zero_eq ha
  have zb := zero_eq hb
  have h1 := fun w => run_op4 (P := Tryz.prog) (op := .mul) (Or.inr (Or.inr (Or.inl rfl))) 22 a b w
  have hN := op_NR (op := .mul) (Or.inr (Or.inr (Or.inl rfl))) (a := a) (b := b)
  have bz := opW_below .mul a b (Below.refl w.heap.size w)
  rw [some_parts, some_parts] at hs
  cases p1 : finB a <;> rw [p1] at ca hs <;> cases p2 : finB b <;> rw [p2] at cb hs <;> cases p3 : (rung a == 0) <;> rw [p3] at za hs <;> cases p4 : (rung b == 0) <;> rw [p4] at zb hs <;>
    first
    | (exfalso; cases hs; done)
    | (clear hs
       go_enter Tryz.func59, Tryz.ntmps59
       go_wp2_with (first
         | (go_at_call_of 78 (Value.float FloatKind.f64 a); refine (ca _).mono ?_; rintro e w1 ⟨rfl, b1⟩; have bz := bz.trans (b1.mono bz.size))
         | (go_at_call_of 78 (Value.float FloatKind.f64 b); refine (cb _).mono ?_; rintro e w2 ⟨rfl, b2⟩; have bz := bz.trans (b2.mono bz.size)))
       go_ret
       exact ⟨_, rfl, hN _, bz⟩)
set_option maxHeartbeats 2000000 in
theorem ddiv_sp (a b : Nat) (m : Int) (ha : a < 18446744073709551616) (hb : b < 18446744073709551616) (hs : (someB a && someB b) = false) (w : World) :
    Calls Tryz.prog 64 #[.float .f64 a, .float .f64 b, .int .i8 m] w fun e w' => ∃ r, e = .returned (.float .f64 r) ∧ NR (floatBits .quo .f64 a b) r ∧ Below w.heap.size w w' := by
  have ca := dfin_all a ha
  have cb := dfin_all b hb
  have za := zero_eq ha
  have zb := zero_eq hb
  have h1 := fun w => run_op4 (P := Tryz.prog) (op := .quo) (Or.inr (Or.inr (Or.inr rfl))) 22 a b w
  have hN := op_NR (op := .quo) (Or.inr (Or.inr (Or.inr rfl))) (a := a) (b := b)
  have bz := opW_below .quo a b (Below.refl w.heap.size w)
  rw [some_parts, some_parts] at hs
  cases p1 : finB a <;> rw [p1] at ca hs <;> cases p2 : finB b <;> rw [p2] at cb hs <;> cases p3 : (rung a == 0) <;> rw [p3] at za hs <;> cases p4 : (rung b == 0) <;> rw [p4] at zb hs <;>
    first
    | (exfalso; cases hs; done)
    | (clear hs
       go_enter Tryz.func64, Tryz.ntmps64
       go_wp2_with (first
         | (go_at_call_of 78 (Value.float FloatKind.f64 a); refine (ca _).mono ?_; rintro e w1 ⟨rfl, b1⟩; have bz := bz.trans (b1.mono bz.size))
         | (go_at_call_of 78 (Value.float FloatKind.f64 b); refine (cb _).mono ?_; rintro e w2 ⟨rfl, b2⟩; have bz := bz.trans (b2.mono bz.size)))
       go_ret
       exact ⟨_, rfl, hN _, bz⟩)
theorem mul_NR (a b : Nat) (m : Int) (ha : a < 18446744073709551616) (hb : b < 18446744073709551616) :
    ∃ o, (∀ w, TabW w → Calls Tryz.prog 58 #[.float .f64 a, .float .f64 b, .int .i8 m] w fun e w' => ∃ r, e = .returned (.float .f64 r) ∧ NR o r ∧ Below w.heap.size w w') ∧
      (∀ w, Calls Tryz.prog 59 #[.float .f64 a, .float .f64 b, .int .i8 m] w fun e w' => ∃ r, e = .returned (.float .f64 r) ∧ NR o r ∧ Below w.heap.size w w') := by
  cases hs : (someB a && someB b)
  · exact ⟨floatBits .mul .f64 a b, fun w _ => rmul_sp a b m ha hb hs w, fun w => dmul_sp a b m ha hb hs w⟩
  · have sa : someB a = true := by revert hs; cases someB a <;> simp
    have sb : someB b = true := by revert hs; cases someB b <;> simp
    have hq : floatBits .mul .f64 a b = some (pQ a b) := by
      have e : ∃ q, floatBits .mul .f64 a b = some q := by
        rw [(fbits_map a b).2.2.1, read_fin ha (some_rung sa).1, read_fin hb (some_rung sb).1]
        exact ⟨_, rfl⟩
      obtain ⟨q, hq⟩ := e
      unfold pQ; rw [hq]; rfl
    have hl : stepF (pQ a b) (pS a b) m < 18446744073709551616 := stepF_lt _ _ (op_word (op := .mul) (Or.inr (Or.inr (Or.inl rfl))) hq).1
    refine ⟨some (stepF (pQ a b) (pS a b) m), fun w hT => (rmul_any a b m ha hb sa sb w hT).2.mono ?_, fun w => (dmul_any a b m ha hb sa sb hq w).mono ?_⟩
    · rintro e w' ⟨rfl, h⟩; exact ⟨_, rfl, NR_some hl rfl, h⟩
    · rintro e w' ⟨rfl, h⟩; exact ⟨_, rfl, NR_some hl rfl, h⟩
theorem div_NR (a b : Nat) (m : Int) (ha : a < 18446744073709551616) (hb : b < 18446744073709551616) :
    ∃ o, (∀ w, TabW w → Calls Tryz.prog 89 #[.float .f64 a, .float .f64 b, .int .i8 m] w fun e w' => ∃ r, e = .returned (.float .f64 r) ∧ NR o r ∧ Below w.heap.size w w') ∧
      (∀ w, Calls Tryz.prog 64 #[.float .f64 a, .float .f64 b, .int .i8 m] w fun e w' => ∃ r, e = .returned (.float .f64 r) ∧ NR o r ∧ Below w.heap.size w w') := by
  cases hs : (someB a && someB b)
  · exact ⟨floatBits .quo .f64 a b, fun w _ => rdiv_sp a b m ha hb hs w, fun w => ddiv_sp a b m ha hb hs w⟩
  · have sa : someB a = true := by revert hs; cases someB a <;> simp
    have sb : someB b = true := by revert hs; cases someB b <;> simp
    have b0 : rung b ≠ 0 := by simpa using (some_rung sb).2
    have m0 : mg (rung b) ≠ 0 := by unfold mg; split <;> omega
    have hq : floatBits .quo .f64 a b = some (kQ a b) := by
      have e : ∃ q, floatBits .quo .f64 a b = some q := by
        rw [(fbits_map a b).2.2.2, read_fin ha (some_rung sa).1, read_fin hb (some_rung sb).1]
        simp only [Ieee.Datum.quotient]
        rw [if_neg m0]
        exact ⟨_, rfl⟩
      obtain ⟨q, hq⟩ := e
      unfold kQ; rw [hq]; rfl
    have hl : stepF (kQ a b) (kS a b) m < 18446744073709551616 := stepF_lt _ _ (op_word (op := .quo) (Or.inr (Or.inr (Or.inr rfl))) hq).1
    refine ⟨some (stepF (kQ a b) (kS a b) m), fun w hT => (rdiv_any a b m ha hb sa sb w hT).2.mono ?_, fun w => (ddiv_any a b m ha hb sa sb hq w).mono ?_⟩
    · rintro e w' ⟨rfl, h⟩; exact ⟨_, rfl, NR_some hl rfl, h⟩
    · rintro e w' ⟨rfl, h⟩; exact ⟨_, rfl, NR_some hl rfl, h⟩
end Go.Proofs.YtiaeannkkjhkaaaGreatDoor
