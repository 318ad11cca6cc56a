/- What Round tells of a right ratio: which floats lie about it: no program in this text. -/
import Derived.Test.YtnclddfljghebaaDoorRS
import Derived.Test.YtnclddfljghebaaDoorQ6
namespace Go.Proofs.YtnclddfljghebaaDoor
open Go.RowKit

def eU : Nat := 1074
theorem eU_eq : eU = 1074 := rfl
theorem qu_big {N D : Nat} (hN : N ≠ 0) (hD : D ≠ 0) : 9223372036854775808 ≤ quA N D / quB N D ∧ quA N D / quB N D < 2 * 18446744073709551616 := by
  have a : bl (quA N D) = bl N + (max (upR N D) 0).toNat := bl_mul_pow hN
  have b : bl (quB N D) = bl D + (max (-(upR N D)) 0).toNat := bl_mul_pow hD
  have c : bl (quA N D) = bl (quB N D) + 64 := by rw [a, b]; unfold upR; omega
  have d := bl_spec (v := quA N D) (Nat.mul_ne_zero hN (Nat.ne_of_gt (Nat.two_pow_pos _)))
  have e := bl_spec (v := quB N D) (quB_pos hD)
  have hB : 0 < quB N D := Nat.pos_of_ne_zero (quB_pos hD)
  have f1 : 2 ^ (bl (quA N D) - 1) = 9223372036854775808 * 2 ^ bl (quB N D) := by
    rw [c, show bl (quB N D) + 64 - 1 = 63 + bl (quB N D) by omega, Nat.pow_add]
  have f2 : 2 ^ bl (quA N D) = 2 * 18446744073709551616 * 2 ^ (bl (quB N D) - 1) := by
    rw [c, show bl (quB N D) + 64 = 65 + (bl (quB N D) - 1) by omega, Nat.pow_add]
  constructor
  · rw [Nat.le_div_iff_mul_le hB]
    have := Nat.mul_le_mul_left 9223372036854775808 (Nat.le_of_lt e.2.1)
    omega
  · rw [Nat.div_lt_iff_lt_mul hB]
    have := Nat.mul_le_mul_left (2 * 18446744073709551616) e.1
    omega
theorem alg1 (N a b : Nat) : 2 * (N * 2 ^ a) * 2 ^ b = N * 2 ^ (1 + a + b) := by
  rw [Nat.pow_add, Nat.pow_add, Nat.pow_one]
  generalize 2 ^ a = x
  generalize 2 ^ b = y
  grind
theorem alg2 (N a b c : Nat) : N * 2 ^ a * 2 ^ b * 2 ^ c = N * 2 ^ (a + b + c) := by
  rw [Nat.pow_add, Nat.pow_add]
  generalize 2 ^ a = x
  generalize 2 ^ b = y
  generalize 2 ^ c = z
  grind
theorem tr7 {N D f j c : Nat} (hN : N ≠ 0) (hD : D ≠ 0) (hu : upR N D ≤ 65535) (hf : f < 1152921504606846976) :
    (f * 2 ^ j * 2 ^ kQ < nrR N D * 2 ^ ((65535 - upR N D).toNat + c) ↔ f * 2 ^ j * D < N * 2 ^ eU * 2 ^ c) ∧ (nrR N D * 2 ^ ((65535 - upR N D).toNat + c) < f * 2 ^ j * 2 ^ kQ ↔ N * 2 ^ eU * 2 ^ c < f * 2 ^ j * D) := by
  have hB : 0 < quB N D := Nat.pos_of_ne_zero (quB_pos hD)
  obtain ⟨h1, h2⟩ := stk (A := quA N D) (B := quB N D) (s := nrR N D) (f := f) (i := j + kQ) (F := (65535 - upR N D).toNat + c) hB rfl (qu_big hN hD).1 hf
  have e1 : f * 2 ^ j * 2 ^ kQ = f * 2 ^ (j + kQ) := by rw [Nat.mul_assoc, ← Nat.pow_add]
  rw [e1, h1, h2]
  have e2 : f * 2 ^ (j + kQ) * quB N D = f * 2 ^ j * D * 2 ^ (kQ + (max (-(upR N D)) 0).toNat) := by
    unfold quB
    rw [Nat.pow_add, Nat.pow_add]
    generalize 2 ^ kQ = a
    generalize 2 ^ (max (-(upR N D)) 0).toNat = b
    generalize 2 ^ j = c'
    grind
  have e3 : 2 * quA N D * 2 ^ ((65535 - upR N D).toNat + c) = N * 2 ^ eU * 2 ^ c * 2 ^ (kQ + (max (-(upR N D)) 0).toNat) := by
    unfold quA
    have k1 := alg1 N (max (upR N D) 0).toNat ((65535 - upR N D).toNat + c)
    have k2 := alg2 N eU c (kQ + (max (-(upR N D)) 0).toNat)
    have hx : 1 + (max (upR N D) 0).toNat + ((65535 - upR N D).toNat + c) = eU + c + (kQ + (max (-(upR N D)) 0).toNat) := by
      have := eU_eq
      have := kQ_eq
      omega
    rw [k1, k2, hx]
  rw [e2, e3, mul2_lt (Nat.two_pow_pos _), mul2_lt (Nat.two_pow_pos _)]
  exact ⟨Iff.rfl, Iff.rfl⟩
/-- A float's word. -/
def wd (n : Bool) (k : Nat) : Nat := if n then 9223372036854775808 + k else k
theorem up_bd {n : Bool} {N D : Nat} (R : RqB n N D) (hN : N ≠ 0) : -16384 ≤ upR N D ∧ upR N D ≤ 16448 := by
  have k1 := R.n
  have k2 := R.d
  have b1 : bl N ≤ 64 * nl N := by unfold nl; omega
  have b2 : bl D ≤ 64 * nl D := by unfold nl; omega
  have b3 := (bl_spec hN).2.2
  have b4 := (bl_spec R.d0).2.2
  unfold upR
  omega
theorem rn_about {n : Bool} {N D : Nat} (R : RqB n N D) (hN : N ≠ 0) : ∃ s r3 r2 r0, Abt (N * 2 ^ eU) D s r3 r2 r0 ∧ ∀ m, rnR n N D m = wd n (if szm n m = 3 then r3 else if szm n m = 2 then r2 else r0) := by
  obtain ⟨u1, u2⟩ := up_bd R hN
  obtain ⟨q1, q2⟩ := qu_big hN R.d0
  have hs : nrR N D = 2 * (quA N D / quB N D) + if quA N D % quB N D = 0 then 0 else 1 := rfl
  have s0 : nrR N D ≠ 0 := by rw [hs]; omega
  have sb : nrR N D < 2 ^ 67 := by rw [hs]; split <;> omega
  have hbl : bl (nrR N D) ≤ 67 := bl_le_iff.2 sb
  obtain ⟨t1, t2⟩ := tz_div s0
  have t3 := tz_lt_bl s0
  have tm := fun f j c hf => tr7 (N := N) (D := D) (f := f) (j := j) (c := c) hN R.d0 (by omega) hf
  have hrn : ∀ m, rnR n N D m = wd n (rSz (nrR N D / 2 ^ tz (nrR N D)) (-(upR N D) - 1 + tz (nrR N D)) (szm n m)) := fun m => by
    have hsv : (sv ⟨n, lo (nrR N D), -(upR N D) - 1⟩).natAbs = nrR N D := by rw [sv_abs]; exact vl_lo _
    have hneg : decide (sv ⟨n, lo (nrR N D), -(upR N D) - 1⟩ < 0) = n := sv_neg (d := ⟨n, lo (nrR N D), -(upR N D) - 1⟩) (by simp only; rw [vl_lo]; exact s0)
    have hne : sv ⟨n, lo (nrR N D), -(upR N D) - 1⟩ ≠ 0 := fun h => by rw [h] at hsv; exact s0 hsv.symm
    unfold rnR normD nrm
    rw [if_neg hne, hsv, if_neg (by simp only; omega), hneg]
    unfold rndW
    have hl : (lo (nrR N D / 2 ^ tz (nrR N D))).length ≠ 0 := by
      rw [lo_length]
      have : nrR N D / 2 ^ tz (nrR N D) ≠ 0 := by omega
      have := nlR_pos this
      omega
    rw [if_neg hl, vl_lo]
    rfl
  generalize nrR N D = S at *
  obtain ⟨v, hv⟩ : ∃ v, S / 2 ^ tz S = v := ⟨_, rfl⟩
  rw [hv] at t1 t2 hrn
  obtain ⟨e, he⟩ : ∃ e, -(upR N D) - 1 + (tz S : Int) = e := ⟨_, rfl⟩
  rw [he] at hrn
  have hA : ∀ c, S * 2 ^ ((65535 - upR N D).toNat + c) = v * 2 ^ (e + 65536).toNat * 2 ^ c := fun c => by
    conv => lhs; rw [t2]
    rw [Nat.mul_assoc, Nat.mul_assoc, ← Nat.pow_add, ← Nat.pow_add]
    congr 2
    omega
  have g1 : ∀ k, (val k * 2 ^ kQ < v * 2 ^ (e + 65536).toNat ↔ val k * D < N * 2 ^ eU) ∧ (v * 2 ^ (e + 65536).toNat < val k * 2 ^ kQ ↔ N * 2 ^ eU < val k * D) := fun k => by
    have h := tm (mg k) (up k) 0 (by have := mg_lt k; omega)
    rw [hA 0, mg_up, Nat.pow_zero, Nat.mul_one, Nat.mul_one] at h
    exact h
  have g2 : ∀ k, ((val k + val (k + 1)) * 2 ^ kQ < 2 * (v * 2 ^ (e + 65536).toNat) ↔ (val k + val (k + 1)) * D < 2 * (N * 2 ^ eU)) ∧ (2 * (v * 2 ^ (e + 65536).toNat) < (val k + val (k + 1)) * 2 ^ kQ ↔ 2 * (N * 2 ^ eU) < (val k + val (k + 1)) * D) := fun k => by
    have h := tm (2 * mg k + 1) (up k) 1 (by have := mg_lt k; omega)
    have hsum : (2 * mg k + 1) * 2 ^ up k = val k + val (k + 1) := by
      rw [val_succ, ← mg_up k]
      grind
    rw [hA 1, hsum, Nat.pow_one, Nat.mul_comm _ 2, Nat.mul_comm (N * 2 ^ eU) 2] at h
    exact h
  obtain ⟨s, hab⟩ := mag_core t1 (by omega) g1 g2
  refine ⟨s, _, _, _, hab, fun m => ?_⟩
  rw [hrn m]
  congr 1
  rcases szm_is n m with h | h | h
  · rw [h]; rfl
  · rw [h]; rfl
  · rw [h]; rfl
end Go.Proofs.YtnclddfljghebaaDoor
