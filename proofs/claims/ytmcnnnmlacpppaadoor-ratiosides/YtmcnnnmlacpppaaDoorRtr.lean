/- What Norm tells hangs on the value alone; no program in this text. -/
import Derived.Test.YtmcnnnmlacpppaaDoorRtn
namespace Go.Proofs.YtmcnnnmlacpppaaDoor
open Go.RowKit

theorem pz_zero {n : Bool} {x : Nat} : pz n x = 0 ↔ x = 0 := by unfold pz; split <;> omega
theorem pz_abs {n : Bool} {x : Nat} : (pz n x).natAbs = x := by unfold pz; split <;> omega
theorem pz_sign {n m : Bool} {x y : Nat} (h : pz n x = pz m y) (h0 : x ≠ 0) : n = m ∧ x = y := by
  unfold pz at h
  cases n <;> cases m <;> simp at h ⊢ <;> omega
/-- Two sizes with signs over two numbers, of one value, are told alike. -/
theorem nmA_val {s t : Bool} {Z Q Y R : Nat} (hQ : Q ≠ 0) (hR : R ≠ 0) (h : pz s Z * (R : Int) = pz t Y * (Q : Int)) : nmA s Z Q = nmA t Y R := by
  rw [← pz_mul, ← pz_mul] at h
  unfold nmA
  rw [if_neg hQ, if_neg hR]
  by_cases hZ : Z = 0
  · have hY : Y = 0 := by
      rw [hZ, Nat.zero_mul] at h
      have : Y * Q = 0 := pz_zero.1 (by rw [← h]; exact pz_zero.2 rfl)
      rcases Nat.mul_eq_zero.1 this with e | e
      · exact e
      · exact absurd e hQ
    rw [if_pos hZ, if_pos hY]
  · have hp : Z * R ≠ 0 := Nat.mul_ne_zero hZ hR
    obtain ⟨e1, e2⟩ := pz_sign h hp
    have hY : Y ≠ 0 := fun e => by rw [e, Nat.zero_mul] at e2; exact hp e2
    rw [if_neg hZ, if_neg hY]
    have g1 : 0 < Nat.gcd Z Q := Nat.gcd_pos_of_pos_left _ (by omega)
    have g2 : 0 < Nat.gcd Y R := Nat.gcd_pos_of_pos_left _ (by omega)
    have c1 : Nat.gcd (Z / Nat.gcd Z Q) (Q / Nat.gcd Z Q) = 1 := by rw [Nat.gcd_div (Nat.gcd_dvd_left Z Q) (Nat.gcd_dvd_right Z Q), Nat.div_self g1]
    have c2 : Nat.gcd (Y / Nat.gcd Y R) (R / Nat.gcd Y R) = 1 := by rw [Nat.gcd_div (Nat.gcd_dvd_left Y R) (Nat.gcd_dvd_right Y R), Nat.div_self g2]
    have d1 := Nat.div_mul_cancel (Nat.gcd_dvd_left Z Q)
    have d2 := Nat.div_mul_cancel (Nat.gcd_dvd_right Z Q)
    have d3 := Nat.div_mul_cancel (Nat.gcd_dvd_left Y R)
    have d4 := Nat.div_mul_cancel (Nat.gcd_dvd_right Y R)
    generalize Nat.gcd Z Q = g at *
    generalize Nat.gcd Y R = k at *
    generalize Z / g = z at *
    generalize Q / g = q at *
    generalize Y / k = y at *
    generalize R / k = r at *
    have hx : z * r = y * q := by
      have e3 : (z * r) * (g * k) = (y * q) * (g * k) := by rw [← d1, ← d2, ← d3, ← d4] at e2; grind
      exact Nat.eq_of_mul_eq_mul_right (Nat.mul_pos g1 g2) e3
    have hq0 : q ≠ 0 := fun e => by rw [e, Nat.zero_mul] at d2; omega
    obtain ⟨f1, f2⟩ := frac_same c1 c2 hq0 hx
    rw [e1, f1, f2]
/-- A right ratio is told as it is. -/
theorem nmA_self {n : Bool} {N D : Nat} (R : RqB n N D) : (nmA n N D).1 = some (n, N, D) := by
  unfold nmA
  rw [if_neg R.d0]
  by_cases hN : N = 0
  · have hz := R.z hN
    have hg := R.g
    rw [hN, Nat.gcd_zero_left] at hg
    rw [if_pos hN, hN, hz, hg]
  · rw [if_neg hN, R.g, Nat.div_one, Nat.div_one, if_pos ⟨R.n, R.d⟩]
/-- The value of what is told. -/
theorem nmA_is {s ng : Bool} {Z Q N D : Nat} {er : Int} (hQ : Q ≠ 0) (h : nmA s Z Q = (some (ng, N, D), er)) : pz ng N * (Q : Int) = pz s Z * (D : Int) := by
  unfold nmA at h
  rw [if_neg hQ] at h
  by_cases hZ : Z = 0
  · rw [if_pos hZ] at h
    cases h
    rw [hZ, pz_zero.2 rfl, pz_zero.2 rfl, Int.zero_mul, Int.zero_mul]
  · rw [if_neg hZ] at h
    split at h
    · cases h
      have d1 := Nat.div_mul_cancel (Nat.gcd_dvd_left Z Q)
      have d2 := Nat.div_mul_cancel (Nat.gcd_dvd_right Z Q)
      rw [← pz_mul, ← pz_mul]
      congr 1
      generalize Nat.gcd Z Q = g at *
      generalize Z / g = z at *
      generalize Q / g = q at *
      rw [← d1, ← d2]
      grind
    · cases h
/-- The sum's value. -/
theorem smQ_add (n1 n2 : Bool) (x y : Nat) : pz (smQ n1 n2 x y).1 (smQ n1 n2 x y).2 = pz n1 x + pz n2 y := by
  have := smQ_eq n1 (!n2) x y
  rw [Bool.not_not] at this
  rw [this]
  unfold pz
  cases n2 <;> simp <;> omega
/-- The product's value. -/
theorem pz_prod (n1 n2 : Bool) (x y : Nat) : pz (n1 != n2) (x * y) = pz n1 x * pz n2 y := by
  unfold pz
  cases n1 <;> cases n2 <;> simp [Int.neg_mul, Int.mul_neg]
end Go.Proofs.YtmcnnnmlacpppaaDoor
