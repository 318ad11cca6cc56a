/- Ratios in order: the plain part. -/
import Derived.Test.YtnclddfljghebaaGreatDoorQ6
namespace Go.Proofs.YtnclddfljghebaaGreatDoor
open Go.RowKit

/-- A size with its sign. -/
def pz (n : Bool) (x : Nat) : Int := if n then -(x : Int) else (x : Int)
theorem pz_mul (n : Bool) (x d : Nat) : pz n (x * d) = pz n x * (d : Int) := by
  unfold pz
  cases n
  · simp
  · simp [Int.neg_mul]
theorem pz_sgR {n : Bool} {x : Nat} : sgR n x = sgI (pz n x) := by
  unfold sgR sgI pz
  cases n
  · simp only [Bool.false_eq_true, if_false]
    by_cases h : x = 0
    · subst h; rfl
    · rw [if_neg h, if_neg (by omega), if_neg (by omega)]
  · simp only [if_true]
    by_cases h : x = 0
    · subst h; rfl
    · rw [if_neg h, if_pos (by omega)]
theorem sgR_mul {n : Bool} {x d : Nat} (hd : d ≠ 0) : sgR n (x * d) = sgR n x := by
  unfold sgR
  by_cases h : x = 0
  · subst h; rw [Nat.zero_mul]
  · rw [if_neg h, if_neg (Nat.mul_ne_zero h hd)]
theorem cmR_eq {n1 n2 : Bool} {N1 D1 N2 D2 : Nat} (R1 : RqB n1 N1 D1) (R2 : RqB n2 N2 D2) : cmR n1 n2 N1 D1 N2 D2 = sgI (pz n1 N1 * (D2 : Int) - pz n2 N2 * (D1 : Int)) := by
  unfold cmR
  rw [← sgR_mul (n := n1) (x := N1) R2.d0, ← sgR_mul (n := n2) (x := N2) R1.d0, ← pz_mul, ← pz_mul]
  generalize N1 * D2 = x
  generalize N2 * D1 = y
  unfold sgR sgI pz cmpI
  by_cases hx : x = 0 <;> by_cases hy : y = 0 <;> cases n1 <;> cases n2 <;> simp [hx, hy] <;> (repeat' split) <;> omega
theorem smQ_eq (n1 n2 : Bool) (x y : Nat) : pz (smQ n1 (!n2) x y).1 (smQ n1 (!n2) x y).2 = pz n1 x - pz n2 y := by
  unfold smQ pz
  cases n1 <;> cases n2 <;> simp <;> (try split) <;> (try simp) <;> omega
/-- Fractions with no divisor in common are equal just if they are the same. -/
theorem frac_same {N1 D1 N2 D2 : Nat} (g1 : Nat.gcd N1 D1 = 1) (g2 : Nat.gcd N2 D2 = 1) (d1 : D1 ≠ 0) (h : N1 * D2 = N2 * D1) : N1 = N2 ∧ D1 = D2 := by
  have a : D1 ∣ D2 := Nat.Coprime.dvd_of_dvd_mul_left (show Nat.Coprime D1 N1 by rw [Nat.coprime_comm]; exact g1) ⟨N2, by rw [h, Nat.mul_comm]⟩
  have b : D2 ∣ D1 := Nat.Coprime.dvd_of_dvd_mul_left (show Nat.Coprime D2 N2 by rw [Nat.coprime_comm]; exact g2) ⟨N1, by rw [← h, Nat.mul_comm]⟩
  have e := Nat.dvd_antisymm a b
  subst e
  exact ⟨Nat.eq_of_mul_eq_mul_right (Nat.pos_of_ne_zero d1) h, rfl⟩
theorem sgI_zero {x : Int} : sgI x = 0 ↔ x = 0 := by unfold sgI; constructor <;> intro h <;> (repeat' split at h) <;> simp_all <;> omega
theorem sgI_neg (x : Int) : sgI (-x) = -sgI x := by unfold sgI; (repeat' split) <;> omega
theorem sgI_bd (x : Int) : -1 ≤ sgI x ∧ sgI x ≤ 1 := by unfold sgI; (repeat' split) <;> omega
theorem sgI_le {x : Int} : sgI x ≤ 0 ↔ x ≤ 0 := by unfold sgI; (repeat' split) <;> omega
section
variable {n1 n2 n3 : Bool} {N1 D1 N2 D2 N3 D3 : Nat}
theorem cm_anti (R1 : RqB n1 N1 D1) (R2 : RqB n2 N2 D2) : cmR n1 n2 N1 D1 N2 D2 = -cmR n2 n1 N2 D2 N1 D1 := by
  rw [cmR_eq R1 R2, cmR_eq R2 R1, ← sgI_neg]
  congr 1
  omega
theorem cm_bd (R1 : RqB n1 N1 D1) (R2 : RqB n2 N2 D2) : -1 ≤ cmR n1 n2 N1 D1 N2 D2 ∧ cmR n1 n2 N1 D1 N2 D2 ≤ 1 := by rw [cmR_eq R1 R2]; exact sgI_bd _
theorem cm_same (R1 : RqB n1 N1 D1) (R2 : RqB n2 N2 D2) : (cmR n1 n2 N1 D1 N2 D2 == 0) = smB n1 n2 N1 D1 N2 D2 := by
  rw [Bool.eq_iff_iff, beq_iff_eq, cmR_eq R1 R2, sgI_zero, ← pz_mul, ← pz_mul]
  unfold smB
  simp only [Bool.and_eq_true, beq_iff_eq]
  constructor
  · intro h
    have hx : N1 * D2 = N2 * D1 := by unfold pz at h; (repeat' split at h) <;> omega
    obtain ⟨e1, e2⟩ := frac_same R1.g R2.g R1.d0 hx
    refine ⟨⟨?_, e1⟩, e2⟩
    by_cases hz : N1 = 0
    · rw [R1.z hz, R2.z (by omega)]
    · have hp : N1 * D2 ≠ 0 := Nat.mul_ne_zero hz R2.d0
      generalize N1 * D2 = x at *
      rw [← hx] at h
      unfold pz at h
      cases n1 <;> cases n2 <;> simp at h ⊢ <;> omega
  · rintro ⟨⟨rfl, rfl⟩, rfl⟩
    omega
theorem cm_trans (R1 : RqB n1 N1 D1) (R2 : RqB n2 N2 D2) (R3 : RqB n3 N3 D3) (h1 : cmR n1 n2 N1 D1 N2 D2 ≤ 0) (h2 : cmR n2 n3 N2 D2 N3 D3 ≤ 0) : cmR n1 n3 N1 D1 N3 D3 ≤ 0 := by
  rw [cmR_eq R1 R2, sgI_le] at h1
  rw [cmR_eq R2 R3, sgI_le] at h2
  rw [cmR_eq R1 R3, sgI_le]
  generalize pz n1 N1 = A at *
  generalize pz n2 N2 = B at *
  generalize pz n3 N3 = C at *
  have p1 : (0 : Int) < D1 := by have := R1.d0; omega
  have p2 : (0 : Int) < D2 := by have := R2.d0; omega
  have p3 : (0 : Int) < D3 := by have := R3.d0; omega
  generalize (D1 : Int) = d1 at *
  generalize (D2 : Int) = d2 at *
  generalize (D3 : Int) = d3 at *
  have a : A * d2 * d3 ≤ B * d1 * d3 := Int.mul_le_mul_of_nonneg_right (by omega) (by omega)
  have b : B * d3 * d1 ≤ C * d2 * d1 := Int.mul_le_mul_of_nonneg_right (by omega) (by omega)
  have c : d2 * (A * d3) ≤ d2 * (C * d1) := by
    have e1 : A * d2 * d3 = d2 * (A * d3) := by grind
    have e2 : B * d1 * d3 = B * d3 * d1 := by grind
    have e3 : C * d2 * d1 = d2 * (C * d1) := by grind
    omega
  have := Int.le_of_mul_le_mul_left c p2
  omega
/-- The difference's sign is the order. -/
theorem sub_sign (R1 : RqB n1 N1 D1) (R2 : RqB n2 N2 D2) {s : Bool} {Z : Nat} (hs : smQ n1 (!n2) (N1 * D2) (N2 * D1) = (s, Z)) {ng : Bool} {er : Int} (h : nmA s Z (D1 * D2) = (some (ng, N3, D3), er)) : sgR ng N3 = cmR n1 n2 N1 D1 N2 D2 := by
  rw [cmR_eq R1 R2, ← pz_mul, ← pz_mul, ← smQ_eq, hs]
  dsimp only
  rw [← pz_sgR]
  have hD : D1 * D2 ≠ 0 := Nat.mul_ne_zero R1.d0 R2.d0
  unfold nmA at h
  rw [if_neg hD] at h
  by_cases hZ : Z = 0
  · rw [if_pos hZ] at h
    cases h
    subst hZ
    unfold sgR
    rw [if_pos rfl, if_pos rfl]
  · rw [if_neg hZ] at h
    split at h
    · cases h
      have hg : 0 < Nat.gcd Z (D1 * D2) := Nat.gcd_pos_of_pos_right _ (by omega)
      have := Nat.div_pos (Nat.le_of_dvd (by omega) (Nat.gcd_dvd_left Z (D1 * D2))) hg
      unfold sgR
      rw [if_neg (by omega), if_neg hZ]
    · cases h
theorem sub_err (R1 : RqB n1 N1 D1) (R2 : RqB n2 N2 D2) {s : Bool} {Z : Nat} {er : Int} (h : nmA s Z (D1 * D2) = (none, er)) : er = 3 := by
  have hD : D1 * D2 ≠ 0 := Nat.mul_ne_zero R1.d0 R2.d0
  unfold nmA at h
  rw [if_neg hD] at h
  (repeat' split at h) <;> simp at h <;> omega
end
end Go.Proofs.YtnclddfljghebaaGreatDoor
