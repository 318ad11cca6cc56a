/- A ratio is rounded alike, to however many places more its quotient is told: no program in this text. -/
import Derived.Test.YtnclddfljghebaaDoorRs3
import Derived.Test.YtnclddfljghebaaDoorZy
namespace Go.Proofs.YtnclddfljghebaaDoor
open Go.RowKit

theorem odd_pow_eq {v v' a b : Nat} (h1 : v % 2 = 1) (h2 : v' % 2 = 1) (h : v * 2 ^ a = v' * 2 ^ b) : v = v' ∧ a = b := by
  have K : ∀ {x y c d : Nat}, x % 2 = 1 → c < d → x * 2 ^ c = y * 2 ^ d → False := by
    intro x y c d hx hc he
    obtain ⟨k, rfl⟩ : ∃ k, d = c + (1 + k) := ⟨d - c - 1, by omega⟩
    have e : y * 2 ^ (c + (1 + k)) = (2 * (y * 2 ^ k)) * 2 ^ c := by
      rw [Nat.pow_add, Nat.pow_add]
      generalize 2 ^ c = p
      generalize 2 ^ k = q
      grind
    rw [e] at he
    have := Nat.eq_of_mul_eq_mul_right (Nat.two_pow_pos c) he
    omega
  rcases Nat.lt_trichotomy a b with c | c | c
  · exact (K h1 c h).elim
  · subst c
    exact ⟨Nat.eq_of_mul_eq_mul_right (Nat.two_pow_pos a) h, rfl⟩
  · exact (K h2 c h.symm).elim
/-- What is said of a size X over D that is rounded, at the greatest float too. -/
def Abx (X D s r3 r2 r0 : Nat) : Prop :=
  s ≤ 9218868437227405311 ∧ ((val s * D = X ∧ r3 = s ∧ r2 = s ∧ r0 = s) ∨
    (val s * D < X ∧ (s + 1 < 9218868437227405312 → X < val (s + 1) * D) ∧ r3 = s ∧ r2 = s + 1 ∧
      (2 * X < (val s + val (s + 1)) * D → r0 = s) ∧ ((val s + val (s + 1)) * D < 2 * X → r0 = s + 1)))
theorem mag_core2 {v : Nat} {e : Int} {X D : Nat} (hv : v % 2 = 1) (he : -65536 ≤ e)
    (t1 : ∀ k, (val k * 2 ^ kQ < v * 2 ^ (e + 65536).toNat ↔ val k * D < X) ∧ (v * 2 ^ (e + 65536).toNat < val k * 2 ^ kQ ↔ X < val k * D))
    (t2 : ∀ k, ((val k + val (k + 1)) * 2 ^ kQ < 2 * (v * 2 ^ (e + 65536).toNat) ↔ (val k + val (k + 1)) * D < 2 * X) ∧ (2 * (v * 2 ^ (e + 65536).toNat) < (val k + val (k + 1)) * 2 ^ kQ ↔ 2 * X < (val k + val (k + 1)) * D)) :
    ∃ s, Abx X D s (rSz v e 3) (rSz v e 2) (rSz v e 0) := by
  obtain ⟨s, a1, a2⟩ := mag_core hv he t1 t2
  refine ⟨s, a1, ?_⟩
  rcases a2 with a | ⟨b1, b2, b3, b4, b5, b6⟩
  · exact Or.inl a
  · refine Or.inr ⟨b1, b2, b3, b4, ?_⟩
    by_cases hs : s + 1 < 9218868437227405312
    · exact b6 hs
    · have hs1 : s + 1 = 9218868437227405312 := by omega
      have h0 : v ≠ 0 := by omega
      have hb := bl_spec h0
      have h4 : val (s + 1) * 2 ^ kQ = 2 ^ eTop := by rw [hs1]; exact val_inf
      have h3 : val s * 2 ^ kQ < val (s + 1) * 2 ^ kQ := Nat.mul_lt_mul_of_pos_right (val_lt (by omega)) (Nat.two_pow_pos _)
      have t3 := t2 s
      clear b1 b2 b5 b6 t1
      by_cases hg : 1024 < (bl v : Int) + e
      · have h1 : 2 ^ (bl v - 1) * 2 ^ (e + 65536).toNat ≤ v * 2 ^ (e + 65536).toNat := Nat.mul_le_mul_right _ hb.1
        have h2 : 2 ^ eTop ≤ 2 ^ (bl v - 1) * 2 ^ (e + 65536).toNat := by
          rw [← Nat.pow_add]
          exact Nat.pow_le_pow_right (by omega) (by have := eTop_eq; omega)
        have k1 := Nat.le_trans (Nat.le_of_eq h4) (Nat.le_trans h2 h1)
        clear h1 h2 h4 hb t2
        refine ⟨fun c => ?_, fun _ => ?_⟩
        · have := t3.2.2 c
          rw [Nat.add_mul] at this
          clear t3
          generalize val s * 2 ^ kQ = x at *
          generalize val (s + 1) * 2 ^ kQ = y at *
          generalize v * 2 ^ (e + 65536).toNat = z at *
          omega
        · rw [hs1]
          unfold rSz
          rw [if_pos hg]
          rfl
      · have hg' : (bl v : Int) + e ≤ 1024 := by omega
        clear h4 h3
        by_cases hd : 0 < rDr v e
        · obtain ⟨z, B, R, M, h3, h2, hn, hz, hBR, hR, hRM, e1, e2, n1, n2⟩ := rnd_nearQ hv he hg' hd
          have hE := Nat.two_pow_pos (e + 65536).toNat
          obtain rfl : z = s := h3.symm.trans b3
          refine ⟨fun c => n1 ?_, fun c => n2 ?_⟩
          · have := t3.2.2 c
            rw [Nat.add_mul, e1, e2, hBR, ← Nat.add_mul, ← Nat.mul_assoc, mul2_lt hE] at this
            omega
          · have := t3.1.2 c
            rw [Nat.add_mul, e1, e2, hBR, ← Nat.add_mul, ← Nat.mul_assoc, mul2_lt hE] at this
            omega
        · exfalso
          obtain ⟨k1, k2, k3, k4, k5⟩ := kept_bd h0 hg'
          have hr : ∀ m, rSz v e m = rW (shr v (rDr v e)) (rLa v e) := fun m => by
            unfold rSz rKp
            rw [if_neg hg, if_neg (fun c => hd c.1), k1]
          have q3 := (hr 3).symm.trans b3
          have q2 := (hr 2).symm.trans b4
          omega
theorem val_mul_lt {a b D X : Nat} (h1 : val a * D ≤ X) (h2 : X < val b * D) : a < b :=
  (val_lt_iff a b).1 (Nat.lt_of_mul_lt_mul_right (Nat.lt_of_le_of_lt h1 h2))
/-- Two odd numbers that lie alike to all floats and their middles are rounded alike. -/
theorem mag_same {v v' : Nat} {e e' : Int} {X D : Nat} (hD : 0 < D) (hv : v % 2 = 1) (he : -65536 ≤ e) (hv' : v' % 2 = 1) (he' : -65536 ≤ e')
    (t1 : ∀ k, (val k * 2 ^ kQ < v * 2 ^ (e + 65536).toNat ↔ val k * D < X) ∧ (v * 2 ^ (e + 65536).toNat < val k * 2 ^ kQ ↔ X < val k * D))
    (t2 : ∀ k, ((val k + val (k + 1)) * 2 ^ kQ < 2 * (v * 2 ^ (e + 65536).toNat) ↔ (val k + val (k + 1)) * D < 2 * X) ∧ (2 * (v * 2 ^ (e + 65536).toNat) < (val k + val (k + 1)) * 2 ^ kQ ↔ 2 * X < (val k + val (k + 1)) * D))
    (t1' : ∀ k, (val k * 2 ^ kQ < v' * 2 ^ (e' + 65536).toNat ↔ val k * D < X) ∧ (v' * 2 ^ (e' + 65536).toNat < val k * 2 ^ kQ ↔ X < val k * D))
    (t2' : ∀ k, ((val k + val (k + 1)) * 2 ^ kQ < 2 * (v' * 2 ^ (e' + 65536).toNat) ↔ (val k + val (k + 1)) * D < 2 * X) ∧ (2 * (v' * 2 ^ (e' + 65536).toNat) < (val k + val (k + 1)) * 2 ^ kQ ↔ 2 * X < (val k + val (k + 1)) * D)) :
    rSz v e 3 = rSz v' e' 3 ∧ rSz v e 2 = rSz v' e' 2 ∧ rSz v e 0 = rSz v' e' 0 := by
  obtain ⟨s, a1, a⟩ := mag_core2 hv he t1 t2
  obtain ⟨z, b1, b⟩ := mag_core2 hv' he' t1' t2'
  rcases a with ⟨a2, a3, a4, a5⟩ | ⟨a2, a3, a4, a5, a6, a7⟩ <;> rcases b with ⟨b2, b3, b4, b5⟩ | ⟨b2, b3, b4, b5, b6, b7⟩
  · have : val s = val z := Nat.eq_of_mul_eq_mul_right hD (a2.trans b2.symm)
    have := val_inj this
    subst this
    exact ⟨a3.trans b3.symm, a4.trans b4.symm, a5.trans b5.symm⟩
  · exfalso
    have h1 : z < s := val_mul_lt (Nat.le_refl _) (by rw [a2]; exact b2)
    have h2 := val_mul_lt (Nat.le_of_eq a2) (b3 (by omega))
    omega
  · exfalso
    have h1 : s < z := val_mul_lt (Nat.le_refl _) (by rw [b2]; exact a2)
    have h2 := val_mul_lt (Nat.le_of_eq b2) (a3 (by omega))
    omega
  · obtain rfl : s = z := by
      rcases Nat.lt_trichotomy s z with c | c | c
      · exfalso
        have := val_mul_lt (Nat.le_of_lt b2) (a3 (by omega))
        omega
      · exact c
      · exfalso
        have := val_mul_lt (Nat.le_of_lt a2) (b3 (by omega))
        omega
    refine ⟨a4.trans b4.symm, a5.trans b5.symm, ?_⟩
    by_cases c1 : 2 * X < (val s + val (s + 1)) * D
    · exact (a6 c1).trans (b6 c1).symm
    · by_cases c2 : (val s + val (s + 1)) * D < 2 * X
      · exact (a7 c2).trans (b7 c2).symm
      · have u1 := mt (t2 s).2.1 c1
        have u2 := mt (t2 s).1.1 c2
        have u3 := mt (t2' s).2.1 c1
        have u4 := mt (t2' s).1.1 c2
        have hq : v * 2 ^ (e + 65536).toNat = v' * 2 ^ (e' + 65536).toNat := by omega
        obtain ⟨w1, w2⟩ := odd_pow_eq hv hv' hq
        have w3 : e = e' := by omega
        rw [w1, w3]
/-- A quotient's number, told to any number of places. -/
def qzA (u : Int) (N : Nat) : Nat := N * 2 ^ (max u 0).toNat
def qzB (u : Int) (D : Nat) : Nat := D * 2 ^ (max (-u) 0).toNat
def nzR (u : Int) (N D : Nat) : Nat := 2 * (qzA u N / qzB u D) + if qzA u N % qzB u D = 0 then 0 else 1
theorem qz_big {N D : Nat} {u : Int} (hN : N ≠ 0) (hD : D ≠ 0) (hu : 64 + (bl D : Int) - (bl N : Int) ≤ u) : 9223372036854775808 ≤ qzA u N / qzB u D := by
  have a : bl (qzA u N) = bl N + (max u 0).toNat := bl_mul_pow hN
  have b : bl (qzB u D) = bl D + (max (-u) 0).toNat := bl_mul_pow hD
  have c : bl (qzB u D) + 64 ≤ bl (qzA u N) := by rw [a, b]; omega
  have hA0 : qzA u N ≠ 0 := Nat.mul_ne_zero hN (Nat.ne_of_gt (Nat.two_pow_pos _))
  have hB0 : qzB u D ≠ 0 := Nat.mul_ne_zero hD (Nat.ne_of_gt (Nat.two_pow_pos _))
  have d := bl_spec hA0
  have e := bl_spec hB0
  have f1 : 9223372036854775808 * 2 ^ bl (qzB u D) ≤ 2 ^ (bl (qzA u N) - 1) := by
    have : 9223372036854775808 * 2 ^ bl (qzB u D) = 2 ^ (63 + bl (qzB u D)) := by rw [Nat.pow_add]
    rw [this]
    exact Nat.pow_le_pow_right (by omega) (by omega)
  rw [Nat.le_div_iff_mul_le (Nat.pos_of_ne_zero hB0)]
  have := Nat.mul_le_mul_left 9223372036854775808 (Nat.le_of_lt e.2.1)
  omega
theorem tr8 {N D f j c : Nat} {u : Int} (hD : D ≠ 0) (hbig : 9223372036854775808 ≤ qzA u N / qzB u D) (hu : u ≤ 65535) (hf : f < 1152921504606846976) :
    (f * 2 ^ j * 2 ^ kQ < nzR u N D * 2 ^ ((65535 - u).toNat + c) ↔ f * 2 ^ j * D < N * 2 ^ eU * 2 ^ c) ∧ (nzR u N D * 2 ^ ((65535 - u).toNat + c) < f * 2 ^ j * 2 ^ kQ ↔ N * 2 ^ eU * 2 ^ c < f * 2 ^ j * D) := by
  have hB : 0 < qzB u D := Nat.pos_of_ne_zero (Nat.mul_ne_zero hD (Nat.ne_of_gt (Nat.two_pow_pos _)))
  obtain ⟨h1, h2⟩ := stk (A := qzA u N) (B := qzB u D) (s := nzR u N D) (f := f) (i := j + kQ) (F := (65535 - u).toNat + c) hB rfl hbig hf
  have e1 : f * 2 ^ j * 2 ^ kQ = f * 2 ^ (j + kQ) := by rw [Nat.mul_assoc, ← Nat.pow_add]
  rw [e1, h1, h2]
  have e2 : f * 2 ^ (j + kQ) * qzB u D = f * 2 ^ j * D * 2 ^ (kQ + (max (-u) 0).toNat) := by
    unfold qzB
    rw [Nat.pow_add, Nat.pow_add]
    generalize 2 ^ kQ = a
    generalize 2 ^ (max (-u) 0).toNat = b
    generalize 2 ^ j = c'
    grind
  have e3 : 2 * qzA u N * 2 ^ ((65535 - u).toNat + c) = N * 2 ^ eU * 2 ^ c * 2 ^ (kQ + (max (-u) 0).toNat) := by
    unfold qzA
    have k1 := alg1 N (max u 0).toNat ((65535 - u).toNat + c)
    have k2 := alg2 N eU c (kQ + (max (-u) 0).toNat)
    have hx : 1 + (max u 0).toNat + ((65535 - u).toNat + c) = eU + c + (kQ + (max (-u) 0).toNat) := by
      have := eU_eq
      have := kQ_eq
      omega
    rw [k1, k2, hx]
  rw [e2, e3, mul2_lt (Nat.two_pow_pos _), mul2_lt (Nat.two_pow_pos _)]
  exact ⟨Iff.rfl, Iff.rfl⟩
/-- How floats and their middles lie to that number's odd part. -/
theorem odd_lies {N D v t : Nat} {u e : Int} (hD : D ≠ 0) (hbig : 9223372036854775808 ≤ qzA u N / qzB u D) (hu : u ≤ 65535) (hS : nzR u N D = v * 2 ^ t) (he : e = -u - 1 + (t : Int)) :
    (∀ k, (val k * 2 ^ kQ < v * 2 ^ (e + 65536).toNat ↔ val k * D < N * 2 ^ eU) ∧ (v * 2 ^ (e + 65536).toNat < val k * 2 ^ kQ ↔ N * 2 ^ eU < val k * D)) ∧
    (∀ k, ((val k + val (k + 1)) * 2 ^ kQ < 2 * (v * 2 ^ (e + 65536).toNat) ↔ (val k + val (k + 1)) * D < 2 * (N * 2 ^ eU)) ∧ (2 * (v * 2 ^ (e + 65536).toNat) < (val k + val (k + 1)) * 2 ^ kQ ↔ 2 * (N * 2 ^ eU) < (val k + val (k + 1)) * D)) := by
  have tm := fun f j c hf => tr8 (N := N) (D := D) (f := f) (j := j) (c := c) hD hbig hu hf
  have hA : ∀ c, nzR u N D * 2 ^ ((65535 - u).toNat + c) = v * 2 ^ (e + 65536).toNat * 2 ^ c := fun c => by
    rw [hS, Nat.mul_assoc, Nat.mul_assoc, ← Nat.pow_add, ← Nat.pow_add]
    congr 2
    omega
  constructor
  · intro k
    have h := tm (mg k) (up k) 0 (by have := mg_lt k; omega)
    rw [hA 0, mg_up, Nat.pow_zero, Nat.mul_one, Nat.mul_one] at h
    exact h
  · intro k
    have h := tm (2 * mg k + 1) (up k) 1 (by have := mg_lt k; omega)
    have hsum : (2 * mg k + 1) * 2 ^ up k = val k + val (k + 1) := by
      rw [val_succ, ← mg_up k]
      grind
    rw [hA 1, hsum, Nat.pow_one, Nat.mul_comm _ 2, Nat.mul_comm (N * 2 ^ eU) 2] at h
    exact h
/-- What the document's number is rounded to is what Round tells. -/
theorem rn_like {n : Bool} {N D U t : Nat} {u : Int} (R : RqB n N D) (hN : N ≠ 0) (hu : 64 + (bl D : Int) - (bl N : Int) ≤ u) (hu2 : u ≤ 65535) (hodd : U % 2 = 1) (hS : nzR u N D = U * 2 ^ t) (m : Int) :
    sw n (rSz U (-u - 1 + (t : Int)) (szm n m)) = rnR n N D m := by
  obtain ⟨u1, u2⟩ := up_bd R hN
  have s0 : nrR N D ≠ 0 := by
    have hs : nrR N D = 2 * (quA N D / quB N D) + if quA N D % quB N D = 0 then 0 else 1 := rfl
    have := (qu_big hN R.d0).1
    rw [hs]; omega
  obtain ⟨t1, t2⟩ := tz_div s0
  have hrn : rnR n N D m = wd n (rSz (nrR N D / 2 ^ tz (nrR N D)) (-(upR N D) - 1 + tz (nrR N D)) (szm n m)) := by
    have sb : nrR N D < 2 ^ 67 := by
      have hs : nrR N D = 2 * (quA N D / quB N D) + if quA N D % quB N D = 0 then 0 else 1 := rfl
      have := (qu_big hN R.d0).2
      rw [hs]; split <;> omega
    have hbl : bl (nrR N D) ≤ 67 := bl_le_iff.2 sb
    have t3 := tz_lt_bl s0
    have hsv : (sv ⟨n, lo (nrR N D), -(upR N D) - 1⟩).natAbs = nrR N D := by rw [sv_abs]; exact vl_lo _
    have hneg : decide (sv ⟨n, lo (nrR N D), -(upR N D) - 1⟩ < 0) = n := sv_neg (d := ⟨n, lo (nrR N D), -(upR N D) - 1⟩) (by simp only; rw [vl_lo]; exact s0)
    have hne : sv ⟨n, lo (nrR N D), -(upR N D) - 1⟩ ≠ 0 := fun h => by rw [h] at hsv; exact s0 hsv.symm
    unfold rnR normD nrm
    rw [if_neg hne, hsv, if_neg (by simp only; omega), hneg]
    unfold rndW
    have hl : (lo (nrR N D / 2 ^ tz (nrR N D))).length ≠ 0 := by
      rw [lo_length]
      have : nrR N D / 2 ^ tz (nrR N D) ≠ 0 := by omega
      have := nlR_pos this
      omega
    rw [if_neg hl, vl_lo]
    rfl
  rw [hrn]
  have hD0 : 0 < D := Nat.pos_of_ne_zero R.d0
  obtain ⟨a1, a2⟩ := odd_lies (N := N) (D := D) (u := upR N D) (v := nrR N D / 2 ^ tz (nrR N D)) (t := tz (nrR N D)) (e := -(upR N D) - 1 + (tz (nrR N D) : Int)) R.d0 (qz_big hN R.d0 (by unfold upR; omega)) (by omega) t2 rfl
  obtain ⟨b1, b2⟩ := odd_lies (N := N) (D := D) (u := u) (v := U) (t := t) (e := -u - 1 + (t : Int)) R.d0 (qz_big hN R.d0 hu) hu2 hS rfl
  obtain ⟨c3, c2, c0⟩ := mag_same hD0 hodd (by omega) t1 (by omega) b1 b2 a1 a2
  have hw : ∀ k, sw n k = wd n k := fun k => rfl
  rw [hw]
  congr 1
  rcases szm_is n m with h | h | h
  · rw [h]; exact c0
  · rw [h]; exact c2
  · rw [h]; exact c3
end Go.Proofs.YtnclddfljghebaaDoor
