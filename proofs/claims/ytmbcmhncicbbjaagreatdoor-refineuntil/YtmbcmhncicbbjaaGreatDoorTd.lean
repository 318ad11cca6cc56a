/- Every way of rounding a right dyad is one step on from the nearest float: no program in this text. -/
import Derived.Test.YtmbcmhncicbbjaaGreatDoorTc
import Derived.Test.YtmbcmhncicbbjaaGreatDoorU6
namespace Go.Proofs.YtmbcmhncicbbjaaGreatDoor
open Go.RowKit

/-- k is the rung that A units are rounded to. -/
def NearK (A k : Nat) : Prop := k ≤ 9218868437227405312 ∧ ∀ r, r < 9218868437227405312 → (r < k ↔ aboveD kV A r)
theorem nearK_uniq {A k j : Nat} (h : NearK A k) (g : NearK A j) : k = j := by
  rcases Nat.lt_or_ge k j with c | c
  · exfalso
    have hk := g.1
    have := (h.2 k (by omega)).2 ((g.2 k (by omega)).1 c)
    omega
  · rcases Nat.lt_or_ge j k with c2 | c2
    · exfalso
      have hk := h.1
      have := (g.2 j (by omega)).2 ((h.2 j (by omega)).1 c2)
      omega
    · omega
theorem nearK_of (s : Bool) {m : Nat} {p : Int} (hm : m ≠ 0) (hp : -65536 ≤ p) : ∃ k, Ieee.double.nearest s m p = Ieee.double.word s k ∧ NearK (m * 2 ^ (p + 65536).toNat) k := by
  obtain ⟨k, ek, hk, c⟩ := near_anyD s p kV (m := m) hm (by have := kV_eq; omega)
  rw [show (p + 1074 + ((kV : Nat) : Int)).toNat = (p + 65536).toNat by have := kV_eq; omega] at c
  exact ⟨k, ek, hk, c⟩
theorem word_k (s : Bool) {k : Nat} (hk : k < 9223372036854775808) : Ieee.double.word s k = if s then 9223372036854775808 + k else k := by
  have h := word_rung s hk
  have hl : Ieee.double.word s k < 18446744073709551616 := Ieee.double.word_lt (neg := s) hk
  have e := rung_of _ hl
  rw [h.1, h.2] at e
  rw [e]
theorem stepF_plus {k : Nat} {r : Int} (m : Int) (hk : k ≤ 9218868437227405312) (h0 : k = 0 → ¬ r < 0) (h1 : k = 9218868437227405312 → ¬ 0 < r) :
    stepF k r m = if (m = 1 ∨ m = 3) ∧ r < 0 then k - 1 else if m = 2 ∧ 0 < r then k + 1 else k := by
  have hs := (rung_pos (r := k) (by omega)).2
  unfold stepF dnB upB
  rw [hs]
  by_cases c1 : r < 0
  · have k0 : k ≠ 0 := fun h => h0 h c1
    rw [decide_eq_true c1, decide_eq_false (by omega : ¬ 0 < r)]
    rw [cpy_pos (by omega), next_less hk k0, rung_small (by omega)]
    by_cases c2 : m = 1
    · subst c2; simp [c1]
    · by_cases c3 : m = 3
      · subst c3; simp [c1]
      · simp [c2, c3]; omega
  · rw [decide_eq_false c1]
    by_cases c4 : 0 < r
    · have k1 : k < 9218868437227405312 := by
        rcases Nat.lt_or_ge k 9218868437227405312 with h | h
        · exact h
        · exact absurd c4 (h1 (by omega))
      rw [decide_eq_true c4, cpy_pos (by omega), next_plus k1, rung_small (by omega)]
      by_cases c2 : m = 2
      · subst c2; simp [c4]
      · simp [c2]; omega
    · rw [decide_eq_false c4]
      simp [c1, c4]
theorem stepF_less {k : Nat} {r : Int} (m : Int) (hk : k ≤ 9218868437227405312) (h0 : k = 0 → ¬ 0 < r) (h1 : k = 9218868437227405312 → ¬ r < 0) :
    stepF (9223372036854775808 + k) r m = 9223372036854775808 + if (m = 2 ∨ m = 3) ∧ 0 < r then k - 1 else if m = 1 ∧ r < 0 then k + 1 else k := by
  have hs := (rung_big (r := k) (by omega)).2
  unfold stepF dnB upB
  rw [hs]
  by_cases c1 : 0 < r
  · have k0 : k ≠ 0 := fun h => h0 h c1
    rw [decide_eq_true c1, decide_eq_false (by omega : ¬ r < 0)]
    rw [cpy_big (by omega), next_big_up hk k0]
    by_cases c2 : m = 2
    · subst c2; simp [c1]
    · by_cases c3 : m = 3
      · subst c3; simp [c1]
      · simp [c2, c3]; omega
  · rw [decide_eq_false c1]
    by_cases c4 : r < 0
    · have k1 : k < 9218868437227405312 := by
        rcases Nat.lt_or_ge k 9218868437227405312 with h | h
        · exact h
        · exact absurd c4 (h1 (by omega))
      rw [decide_eq_true c4, cpy_big (by omega), next_big_dn k1, (rung_big (by omega)).1]
      by_cases c2 : m = 1
      · subst c2; simp [c4]
      · simp [c2]; omega
    · rw [decide_eq_false c4]
      simp [c1, c4]
/-- On which side of its nearest float a number of A units lies. -/
def sdK (neg : Bool) (A k : Nat) : Int := if k = 9218868437227405312 then (if neg then 1 else -1) else if neg then -sgI ((A : Int) - ((val k * 2 ^ kV : Nat) : Int)) else sgI ((A : Int) - ((val k * 2 ^ kV : Nat) : Int))
theorem sgI_pos {x : Int} (h : 0 < x) : sgI x = 1 := by unfold sgI; rw [if_neg (by omega), if_neg (by omega)]
theorem sgI_neg {x : Int} (h : x < 0) : sgI x = -1 := by unfold sgI; rw [if_pos h]
theorem szm_pos (m : Int) : szm false m = if m = 1 ∨ m = 3 then 3 else if m = 2 then 2 else 0 := by
  unfold szm
  by_cases h1 : m = 1
  · subst h1; rfl
  · by_cases h2 : m = 2
    · subst h2; rfl
    · by_cases h3 : m = 3
      · subst h3; rfl
      · simp [h1, h2, h3]
theorem szm_neg (m : Int) : szm true m = if m = 2 ∨ m = 3 then 3 else if m = 1 then 2 else 0 := by
  unfold szm
  by_cases h1 : m = 1
  · subst h1; rfl
  · by_cases h2 : m = 2
    · subst h2; rfl
    · by_cases h3 : m = 3
      · subst h3; rfl
      · simp [h1, h2, h3]
theorem rSz_step {v : Nat} {e : Int} (neg : Bool) (m : Int) (hv : v % 2 = 1) (he : -65536 ≤ e) :
    ∃ k, NearK (v * 2 ^ (e + 65536).toNat) k ∧ (if neg then 9223372036854775808 + rSz v e (szm neg m) else rSz v e (szm neg m)) = stepF (Ieee.double.word neg k) (sdK neg (v * 2 ^ (e + 65536).toNat) k) m := by
  have h0 : v ≠ 0 := by omega
  obtain ⟨k, ek, hN⟩ := nearK_of neg h0 he
  obtain ⟨A, hA⟩ : ∃ A, v * 2 ^ (e + 65536).toNat = A := ⟨_, rfl⟩
  have hAp : 0 < A := by rw [← hA]; exact Nat.mul_pos (by omega) (Nat.two_pow_pos _)
  refine ⟨k, hN, ?_⟩
  have hk := hN.1
  rw [word_k neg (by omega)]
  have z0 : k = 0 → sgI ((A : Int) - ((val k * 2 ^ kV : Nat) : Int)) = 1 := by
    intro h; subst h
    rw [val_zero, Nat.zero_mul]
    exact sgI_pos (by omega)
  have fin : ∀ s : Int, sdK neg A k = s → (k = 0 → s = if neg then -1 else 1) → (k = 9218868437227405312 → s = if neg then 1 else -1) →
      (if neg = true then 9223372036854775808 + rSz v e (szm neg m) else rSz v e (szm neg m)) = (if neg then 9223372036854775808 + (if (m = 2 ∨ m = 3) ∧ 0 < s then k - 1 else if m = 1 ∧ s < 0 then k + 1 else k) else (if (m = 1 ∨ m = 3) ∧ s < 0 then k - 1 else if m = 2 ∧ 0 < s then k + 1 else k)) →
      (if neg = true then 9223372036854775808 + rSz v e (szm neg m) else rSz v e (szm neg m)) = stepF (if neg then 9223372036854775808 + k else k) (sdK neg A k) m := by
    intro s hs p1 p2 h
    rw [h, hs]
    cases neg
    · simp only [Bool.false_eq_true, if_false] at *
      rw [stepF_plus m hk (fun h => by rw [p1 h]; omega) (fun h => by rw [p2 h]; omega)]
    · simp only [if_true] at *
      rw [stepF_less m hk (fun h => by rw [p1 h]; omega) (fun h => by rw [p2 h]; omega)]
  rw [hA]
  refine fin _ rfl ?_ ?_ ?_
  · intro h
    unfold sdK
    rw [if_neg (by omega), z0 h]
  · intro h
    unfold sdK
    rw [if_pos h]
  · by_cases hg : 1024 < (bl v : Int) + e
    · have hk2 : k = 9218868437227405312 := by
        have e2 := rnd_over neg h0 he hg
        rw [ek] at e2
        have h3 := (word_rung neg (show k < 9223372036854775808 by omega)).1
        rw [e2, (word_rung neg (show 9218868437227405312 < 9223372036854775808 by omega)).1] at h3
        omega
      have hz : ∀ m, rSz v e m = if m = 3 then 9218868437227405311 else 9218868437227405312 := by
        intro m; unfold rSz; rw [if_pos hg]
      unfold sdK
      rw [if_pos hk2, hz, hk2]
      cases neg
      · rw [szm_pos]
        by_cases c1 : m = 1 ∨ m = 3
        · rw [if_pos c1]; simp [c1]
        · rw [if_neg c1]; simp [c1]; split <;> simp
      · rw [szm_neg]
        by_cases c1 : m = 2 ∨ m = 3
        · rw [if_pos c1]; simp [c1]
        · rw [if_neg c1]; simp [c1]; split <;> simp
    · by_cases hd : 0 < rDr v e
      · obtain ⟨s, k', ek', e3, e2, e0, ht, hsl, g1, g2⟩ := rnd_mid neg hv he (by omega) hd
        obtain rfl : k = k' := by
          have h3 := (word_rung neg (show k < 9223372036854775808 by omega)).1
          have h4 := (word_rung neg (show k' < 9223372036854775808 by omega)).1
          rw [← ek, ek'] at h3
          omega
        rw [hA] at g1 g2
        have hsd : sdK neg A k = if neg then (if k = s then -1 else 1) else (if k = s then 1 else -1) := by
          unfold sdK
          by_cases hi : k = 9218868437227405312
          · have hks : k ≠ s := by omega
            rw [if_pos hi]; simp only [if_neg hks]
          · rw [if_neg hi]
            rcases ht with h | h
            · have h5 : sgI ((A : Int) - ((val s * 2 ^ kV : Nat) : Int)) = 1 := sgI_pos (by omega)
              rw [h, h5]; cases neg <;> simp
            · have hks : k ≠ s := by omega
              have h5 : sgI ((A : Int) - ((val (s + 1) * 2 ^ kV : Nat) : Int)) = -1 := sgI_neg (by omega)
              simp only [if_neg hks]
              rw [h, h5]; cases neg <;> simp
        rw [hsd]
        cases neg
        · simp only [Bool.false_eq_true, if_false]
          rw [szm_pos]
          by_cases c1 : m = 1 ∨ m = 3
          · rw [if_pos c1, e3]
            have : m ≠ 2 := by omega
            rcases ht with h | h
            · rw [if_pos h]; simp [this, h]
            · rw [if_neg (show ¬ k = s by omega)]; simp [c1, h]
          · rw [if_neg c1]
            by_cases c2 : m = 2
            · rw [if_pos c2, e2]
              rcases ht with h | h
              · rw [if_pos h]; simp [c2, h]
              · rw [if_neg (show ¬ k = s by omega)]; simp [c2, h]
            · rw [if_neg c2, e0]
              simp [c1, c2]
        · simp only [if_true]
          rw [szm_neg]
          by_cases c1 : m = 2 ∨ m = 3
          · rw [if_pos c1, e3]
            have : m ≠ 1 := by omega
            rcases ht with h | h
            · rw [if_pos h]; simp [this, h]
            · rw [if_neg (show ¬ k = s by omega)]; simp [c1, h]
          · rw [if_neg c1]
            by_cases c2 : m = 1
            · rw [if_pos c2, e2]
              rcases ht with h | h
              · rw [if_pos h]; simp [c2, h]
              · rw [if_neg (show ¬ k = s by omega)]; simp [c2, h]
            · rw [if_neg c2, e0]
              simp [c1, c2]
      · obtain ⟨k', ek', ez, hkl, hval⟩ := rnd_exact neg h0 he (by omega) (by omega)
        obtain rfl : k = k' := by
          have h3 := (word_rung neg (show k < 9223372036854775808 by omega)).1
          have h4 := (word_rung neg (show k' < 9223372036854775808 by omega)).1
          rw [← ek, ek'] at h3
          omega
        rw [hA] at hval
        have hsd : sdK neg A k = 0 := by
          unfold sdK
          rw [if_neg (by omega), hval, Int.sub_self]
          cases neg <;> rfl
        rw [hsd, ez]
        simp
/-- Of a right dyad other than 0. -/
theorem rnd_step (d : Dy) (m : Int) (hL : Lm d.mag) (hR : rightB d = true) (hn : d.mag.length ≠ 0) :
    ∃ k, NearK (qd d).natAbs k ∧ d.neg = decide (qd d < 0) ∧ qd d ≠ 0 ∧ rndW d m = stepF (Ieee.double.word d.neg k) (sdK d.neg (qd d).natAbs k) m := by
  rcases right_cases hR with rfl | ⟨_, hc⟩
  · exact absurd rfl hn
  have hodd : vl d.mag % 2 = 1 := by rw [vl_odd hL hn]; exact hc.2.1
  have hq : (qd d).natAbs = vl d.mag * 2 ^ (d.exp + 65536).toNat := by
    unfold qd
    rw [Int.natAbs_mul, sv_abs, Int.natAbs_pow]
    rfl
  have hp := pow_pos_int (d.exp + 65536).toNat
  have hs : d.neg = decide (qd d < 0) := by
    rw [← sv_neg (d := d) (by omega)]
    unfold qd
    rw [Bool.eq_iff_iff]
    simp only [decide_eq_true_eq]
    constructor
    · intro h; exact Int.mul_neg_of_neg_of_pos h hp
    · intro h
      rcases Int.lt_or_le (sv d) 0 with g | g
      · exact g
      · exfalso
        have := Int.mul_nonneg g (Int.le_of_lt hp)
        omega
  have h0 : qd d ≠ 0 := by
    intro h
    rw [h] at hq
    have := Nat.mul_pos (show 0 < vl d.mag by omega) (Nat.two_pow_pos (d.exp + 65536).toNat)
    simp at hq
    omega
  obtain ⟨k, h1, h2⟩ := rSz_step d.neg m hodd hc.2.2.2.1
  rw [← hq] at h1 h2
  refine ⟨k, h1, hs, h0, ?_⟩
  rw [← h2]
  unfold rndW
  rw [if_neg hn]
end Go.Proofs.YtmbcmhncicbbjaaGreatDoor
