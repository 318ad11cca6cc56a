/- Rounding, told by what is rounded: which floats lie about it: no program in this text. -/
import Derived.Test.YtmcnnnmlacpppaaDoorRs1
namespace Go.Proofs.YtmcnnnmlacpppaaDoor
open Go.RowKit

/-- What is said of a size X over D (in units of 2^-1074) that is rounded to the rung s, to s + 1, to the nearer one. -/
def Abt (X D s r3 r2 r0 : Nat) : Prop :=
  s ≤ 9218868437227405311 ∧ ((val s * D = X ∧ r3 = s ∧ r2 = s ∧ r0 = s) ∨
    (val s * D < X ∧ (s + 1 < 9218868437227405312 → X < val (s + 1) * D) ∧ r3 = s ∧ r2 = s + 1 ∧ (r0 = s ∨ r0 = s + 1) ∧
      (s + 1 < 9218868437227405312 → (2 * X < (val s + val (s + 1)) * D → r0 = s) ∧ ((val s + val (s + 1)) * D < 2 * X → r0 = s + 1))))
def eI : Nat := 2046
def eTop : Nat := 52 + eI + kQ
theorem eTop_eq : eTop = 66560 := rfl
theorem val_inf : val 9218868437227405312 * 2 ^ kQ = 2 ^ eTop := by
  have h : val 9218868437227405312 = 4503599627370496 * 2 ^ eI := by kernel_rfl
  have e : eTop = 52 + eI + kQ := rfl
  rw [e, Nat.pow_add, Nat.pow_add, h]
theorem mag_core {v : Nat} {e : Int} {X D : Nat} (hv : v % 2 = 1) (he : -65536 ≤ e)
    (t1 : ∀ k, (val k * 2 ^ kQ < v * 2 ^ (e + 65536).toNat ↔ val k * D < X) ∧ (v * 2 ^ (e + 65536).toNat < val k * 2 ^ kQ ↔ X < val k * D))
    (t2 : ∀ k, ((val k + val (k + 1)) * 2 ^ kQ < 2 * (v * 2 ^ (e + 65536).toNat) ↔ (val k + val (k + 1)) * D < 2 * X) ∧ (2 * (v * 2 ^ (e + 65536).toNat) < (val k + val (k + 1)) * 2 ^ kQ ↔ 2 * X < (val k + val (k + 1)) * D)) :
    ∃ s, Abt X D s (rSz v e 3) (rSz v e 2) (rSz v e 0) := by
  have h0 : v ≠ 0 := by omega
  have hb := bl_spec h0
  by_cases hg : 1024 < (bl v : Int) + e
  · refine ⟨9218868437227405311, Nat.le_refl _, Or.inr ⟨?_, fun c => by omega, ?_, ?_, Or.inr ?_, fun c => by omega⟩⟩
    · refine ((t1 _).1).1 ?_
      have h1 : 2 ^ (bl v - 1) * 2 ^ (e + 65536).toNat ≤ v * 2 ^ (e + 65536).toNat := Nat.mul_le_mul_right _ hb.1
      have h2 : 2 ^ eTop ≤ 2 ^ (bl v - 1) * 2 ^ (e + 65536).toNat := by
        rw [← Nat.pow_add]
        exact Nat.pow_le_pow_right (by omega) (by have := eTop_eq; omega)
      have h3 : val 9218868437227405311 * 2 ^ kQ < val 9218868437227405312 * 2 ^ kQ := Nat.mul_lt_mul_of_pos_right (val_lt (by omega)) (Nat.two_pow_pos _)
      rw [val_inf] at h3
      exact Nat.lt_of_lt_of_le h3 (Nat.le_trans h2 h1)
    all_goals
      unfold rSz
      rw [if_pos hg]
      rfl
  · have hg' : (bl v : Int) + e ≤ 1024 := by omega
    by_cases hd : 0 < rDr v e
    · obtain ⟨s, B, R, M, h3, h2, hn, hs, hBR, hR, hRM, e1, e2, n1, n2⟩ := rnd_nearQ hv he hg' hd
      have hE := Nat.two_pow_pos (e + 65536).toNat
      refine ⟨s, by omega, Or.inr ⟨((t1 s).1).1 ?_, fun _ => ((t1 (s + 1)).2).1 ?_, h3, h2, hn, fun _ => ⟨fun c => n1 ?_, fun c => n2 ?_⟩⟩⟩
      · rw [e1, hBR]; exact Nat.mul_lt_mul_of_pos_right (by omega) hE
      · rw [e2, hBR]; exact Nat.mul_lt_mul_of_pos_right (by omega) hE
      · have := ((t2 s).2).2 c
        rw [Nat.add_mul, e1, e2, hBR, ← Nat.add_mul, ← Nat.mul_assoc, mul2_lt hE] at this
        omega
      · have := ((t2 s).1).2 c
        rw [Nat.add_mul, e1, e2, hBR, ← Nat.add_mul, ← Nat.mul_assoc, mul2_lt hE] at this
        omega
    · obtain ⟨k1, k2, k3, k4, k5⟩ := kept_bd h0 hg'
      have hdr : rDr v e = rLa v e - e := rfl
      have hr : ∀ m, rSz v e m = rW (shr v (rDr v e)) (rLa v e) := fun m => by
        unfold rSz rKp
        rw [if_neg hg, if_neg (fun c => hd c.1), k1]
      have hk5 : rLa v e = -1074 ∨ 4503599627370496 ≤ shr v (rDr v e) := k5
      have hv2 := (rW_valQ k2 hk5).1
      have hsh : shr v (rDr v e) = v * 2 ^ (-(rDr v e)).toNat := by
        unfold shr
        by_cases c : 0 ≤ rDr v e
        · have c2 : rDr v e = 0 := by omega
          rw [c2]
          simp
        · rw [if_neg c]
      have hA : val (rW (shr v (rDr v e)) (rLa v e)) * 2 ^ kQ = v * 2 ^ (e + 65536).toNat := by
        rw [hv2, hsh, Nat.mul_assoc, Nat.mul_assoc, ← Nat.pow_add, ← Nat.pow_add]
        congr 2
        have := kQ_eq
        omega
      have hlt : rW (shr v (rDr v e)) (rLa v e) < 9218868437227405312 := by
        rcases Nat.lt_or_ge (rW (shr v (rDr v e)) (rLa v e)) 9218868437227405312 with c | c
        · exact c
        · exfalso
          have h1 : val 9218868437227405312 ≤ val (rW (shr v (rDr v e)) (rLa v e)) := by
            rcases Nat.lt_or_eq_of_le c with q | q
            · exact Nat.le_of_lt (val_lt q)
            · rw [← q]; exact Nat.le_refl _
          have h2 := Nat.mul_le_mul_right (2 ^ kQ) h1
          rw [val_inf, hA] at h2
          have h3 : v * 2 ^ (e + 65536).toNat < 2 ^ bl v * 2 ^ (e + 65536).toNat := Nat.mul_lt_mul_of_pos_right hb.2.1 (Nat.two_pow_pos _)
          have h4 : 2 ^ bl v * 2 ^ (e + 65536).toNat ≤ 2 ^ eTop := by
            rw [← Nat.pow_add]
            exact Nat.pow_le_pow_right (by omega) (by have := eTop_eq; omega)
          exact absurd (Nat.lt_of_lt_of_le h3 h4) (Nat.not_lt.2 h2)
      refine ⟨_, by omega, Or.inl ⟨?_, hr 3, hr 2, hr 0⟩⟩
      have a := t1 (rW (shr v (rDr v e)) (rLa v e))
      rw [hA] at a
      have c1 := mt a.1.2 (Nat.lt_irrefl _)
      have c2 := mt a.2.2 (Nat.lt_irrefl _)
      omega
end Go.Proofs.YtmcnnnmlacpppaaDoor
