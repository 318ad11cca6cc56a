/- RatioSides: what holds of the floats on either side of a ratio: no program in this text. -/
import Derived.Test.YtmcnnnmlacpppaaDoorRs4
import Derived.Test.YtmcnnnmlacpppaaDoorRtr
import Derived.Test.YtmcnnnmlacpppaaDoorFz
namespace Go.Proofs.YtmcnnnmlacpppaaDoor
open Go.RowKit

theorem wd_rung {n : Bool} {k : Nat} (hk : k ≤ 9218868437227405312) : rung (wd n k) = k ∧ sgn (wd n k) = n ∧ wd n k < 18446744073709551616 ∧ nanB (wd n k) = false ∧ finB (wd n k) = decide (k < 9218868437227405312) ∧ place (wd n k) = if n then -(k : Int) else (k : Int) := by
  cases n
  · have e : wd false k = k := rfl
    rw [e]
    have r := rung_small (a := k) (by omega)
    have s := sgn_small (a := k) (by omega)
    refine ⟨r, s, by omega, by unfold nanB; rw [r]; simp; omega, by unfold finB; rw [r], ?_⟩
    unfold place
    rw [s, r]
  · have e : wd true k = 9223372036854775808 + k := rfl
    rw [e]
    have r : rung (9223372036854775808 + k) = k := by unfold rung; omega
    have s : sgn (9223372036854775808 + k) = true := by unfold sgn; simp
    refine ⟨r, s, by omega, by unfold nanB; rw [r]; simp; omega, by unfold finB; rw [r], ?_⟩
    unfold place
    rw [s, r]
theorem wd_eq {n : Bool} {j k : Nat} (hj : j ≤ 9218868437227405312) (hk : k ≤ 9218868437227405312) : (FloatKind.f64.format.order (wd n j) (wd n k) == some .eq) = decide (j = k) := by
  obtain ⟨_, _, a1, a2, _, a3⟩ := wd_rung (n := n) hj
  obtain ⟨_, _, b1, b2, _, b3⟩ := wd_rung (n := n) hk
  by_cases h : j = k
  · subst h
    rw [ord_eq a1 b1 a2 b2 rfl]
    simp
  · rw [decide_eq_false h]
    rcases Int.lt_trichotomy (place (wd n j)) (place (wd n k)) with c | c | c
    · rw [ord_lt a1 b1 a2 b2 c]; rfl
    · exfalso
      rw [a3, b3] at c
      cases n <;> simp at c <;> omega
    · rw [ord_gt a1 b1 a2 b2 c]; rfl
theorem wd_ne {n : Bool} {j k : Nat} (hj : j ≤ 9218868437227405312) (hk : k ≤ 9218868437227405312) : (FloatKind.f64.format.order (wd n j) (wd n k) != some .eq) = decide (j ≠ k) := by
  have := wd_eq (n := n) hj hk
  unfold bne
  rw [this]
  by_cases h : j = k <;> simp [h]
/-- Not above the ratio; not below it. -/
def BelT (x : Nat) (n : Bool) (N D : Nat) : Prop := (finB x = true → ∀ sa Na Da, FlQ x sa Na Da → cmR sa n Na Da N D ≤ 0) ∧ (finB x = false → (FloatKind.f64.format.order x 0 == some .lt) = true)
def AbvT (x : Nat) (n : Bool) (N D : Nat) : Prop := (finB x = true → ∀ sa Na Da, FlQ x sa Na Da → 0 ≤ cmR sa n Na Da N D) ∧ (finB x = false → (FloatKind.f64.format.order x 0 == some .gt) = true)
theorem sgI_ge {x : Int} : 0 ≤ sgI x ↔ 0 ≤ x := by unfold sgI; (repeat' split) <;> omega
theorem wd_bel {n : Bool} {k N D : Nat} (hk : k ≤ 9218868437227405312) (R : RqB n N D) (hp : n = false → k < 9218868437227405312 ∧ val k * D ≤ N * 2 ^ eU) (hm : n = true → k < 9218868437227405312 → N * 2 ^ eU ≤ val k * D) : BelT (wd n k) n N D := by
  obtain ⟨w1, w2, w3, w4, w5, w6⟩ := wd_rung (n := n) hk
  refine ⟨fun hf sa Na Da hQ => ?_, fun hf => ?_⟩
  · rw [cm_float hQ R, sgI_le, w1, w2, ← pz_mul]
    rw [w5] at hf
    have hf := of_decide_eq_true hf
    unfold pz
    cases n
    · have := (hp rfl).2
      simp only [Bool.false_eq_true, if_false]
      omega
    · have := hm rfl hf
      simp only [if_true]
      omega
  · rw [w5] at hf
    have hf := of_decide_eq_false hf
    cases n
    · exact absurd (hp rfl).1 hf
    · rw [ord_lt w3 (by omega) w4 rfl (by rw [w6]; show -(k : Int) < place 0; rw [show place 0 = 0 from rfl]; omega)]
      rfl
theorem wd_abv {n : Bool} {k N D : Nat} (hk : k ≤ 9218868437227405312) (R : RqB n N D) (hp : n = true → k < 9218868437227405312 ∧ val k * D ≤ N * 2 ^ eU) (hm : n = false → k < 9218868437227405312 → N * 2 ^ eU ≤ val k * D) : AbvT (wd n k) n N D := by
  obtain ⟨w1, w2, w3, w4, w5, w6⟩ := wd_rung (n := n) hk
  refine ⟨fun hf sa Na Da hQ => ?_, fun hf => ?_⟩
  · rw [cm_float hQ R, sgI_ge, w1, w2, ← pz_mul]
    rw [w5] at hf
    have hf := of_decide_eq_true hf
    unfold pz
    cases n
    · have := hm rfl hf
      simp only [Bool.false_eq_true, if_false]
      omega
    · have := (hp rfl).2
      simp only [if_true]
      omega
  · rw [w5] at hf
    have hf := of_decide_eq_false hf
    cases n
    · rw [ord_gt w3 (by omega) w4 rfl (by rw [w6]; show place 0 < (k : Int); rw [show place 0 = 0 from rfl]; omega)]
      rfl
    · exact absurd (hp rfl).1 hf
end Go.Proofs.YtmcnnnmlacpppaaDoor
