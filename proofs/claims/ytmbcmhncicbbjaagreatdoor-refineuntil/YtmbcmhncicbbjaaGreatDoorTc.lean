/- Rounding an odd number times a power of two: the two floats about it, the nearest one as the model tells it, and every way as one step on from that: no program in this text. -/
import Derived.Test.YtmbcmhncicbbjaaGreatDoorU7
import Derived.Test.YtmbcmhncicbbjaaGreatDoorU3
import Derived.Test.YtmbcmhncicbbjaaGreatDoorU2
namespace Go.Proofs.YtmbcmhncicbbjaaGreatDoor
open Go.RowKit

def kV : Nat := 64462
theorem kV_eq : kV = 64462 := rfl
theorem rW_two {k : Nat} {la : Int} (hk : k < 9007199254740992) (hor : la = -1074 ∨ 4503599627370496 ≤ k) : val (rW k la) = k * 2 ^ (la + 1074).toNat ∧ val (rW k la + 1) = (k + 1) * 2 ^ (la + 1074).toNat := by
  have hU : (la + 1074).toNat = 0 ∨ 4503599627370496 ≤ k := by omega
  obtain ⟨e1, e2⟩ := mg_of hk hU
  unfold rW
  refine ⟨?_, ?_⟩
  · rw [← mg_up, e1, e2]
  · rw [val_succ, e1, e2]
/-- What is k, told by the floats below. -/
theorem above_lt {K A r k : Nat} (c : ∀ r, r < 9218868437227405312 → (r < k ↔ aboveD K A r)) (hr : r < 9218868437227405312) (h : (val r + val (r + 1)) * 2 ^ K < 2 * A) : r < k := (c r hr).2 (Or.inl h)
/-- Between two floats next to each other. -/
theorem near_two {K A s k : Nat} (hk : k ≤ 9218868437227405312) (c : ∀ r, r < 9218868437227405312 → (r < k ↔ aboveD K A r)) (hs : s < 9218868437227405312) (h1 : val s * 2 ^ K < A) (h2 : A < val (s + 1) * 2 ^ K) :
    (k = s ∨ k = s + 1) ∧ (k = s + 1 ↔ aboveD K A s) := by
  have hp := Nat.two_pow_pos K
  have a1 : s ≤ k := by
    rcases Nat.eq_zero_or_pos s with h | h
    · omega
    · have hv : val (s - 1) * 2 ^ K ≤ val s * 2 ^ K := Nat.mul_le_mul_right _ (val_le_D (by omega))
      have := above_lt c (r := s - 1) (by omega) (by rw [show s - 1 + 1 = s by omega, Nat.add_mul]; omega)
      omega
  have a2 : k ≤ s + 1 := by
    rcases Nat.lt_or_ge (s + 1) 9218868437227405312 with h | h
    · rcases Nat.lt_or_ge (s + 1) k with g | g
      · exfalso
        have hb := (c (s + 1) h).1 g
        have hv : val (s + 1) * 2 ^ K ≤ val (s + 1 + 1) * 2 ^ K := Nat.mul_le_mul_right _ (val_le_D (by omega))
        unfold aboveD at hb
        rw [Nat.add_mul] at hb
        rcases hb with g | ⟨g, _⟩ <;> omega
      · exact g
    · omega
  refine ⟨by omega, ?_⟩
  rw [← c s hs]
  omega
theorem near_self {K A s k : Nat} (hk : k ≤ 9218868437227405312) (c : ∀ r, r < 9218868437227405312 → (r < k ↔ aboveD K A r)) (hs : s < 9218868437227405312) (h1 : val s * 2 ^ K = A) : k = s := by
  have hp := Nat.two_pow_pos K
  have a1 : s ≤ k := by
    rcases Nat.eq_zero_or_pos s with h | h
    · omega
    · have hv : val (s - 1) * 2 ^ K < val s * 2 ^ K := Nat.mul_lt_mul_of_pos_right (val_lt (by omega)) hp
      have := above_lt c (r := s - 1) (by omega) (by rw [show s - 1 + 1 = s by omega, Nat.add_mul]; omega)
      omega
  rcases Nat.lt_or_ge s k with g | g
  · exfalso
    have hb := (c s hs).1 g
    have hv : val s * 2 ^ K < val (s + 1) * 2 ^ K := Nat.mul_lt_mul_of_pos_right (val_step s) hp
    unfold aboveD at hb
    rw [Nat.add_mul] at hb
    rcases hb with g | ⟨g, _⟩ <;> omega
  · omega
/-- Where what is dropped is not nothing. -/
theorem rnd_mid {v : Nat} {e : Int} (neg : Bool) (hv : v % 2 = 1) (he : -65536 ≤ e) (hg : (bl v : Int) + e ≤ 1024) (hd : 0 < rDr v e) :
    ∃ s k : Nat, Ieee.double.nearest neg v e = Ieee.double.word neg k ∧ rSz v e 3 = s ∧ rSz v e 2 = s + 1 ∧ rSz v e 0 = k ∧ (k = s ∨ k = s + 1) ∧ s < 9218868437227405312 ∧
      val s * 2 ^ kV < v * 2 ^ (e + 65536).toNat ∧ v * 2 ^ (e + 65536).toNat < val (s + 1) * 2 ^ kV := by
  have h0 : v ≠ 0 := by omega
  obtain ⟨k1, k2, k3, k4, k5⟩ := kept_bd h0 hg
  generalize hla : rLa v e = la at *
  have hdr : rDr v e = la - e := by unfold rDr; rw [hla]
  generalize hdn : (rDr v e).toNat = n at *
  have hn : 0 < n := by omega
  have hsh : shr v (rDr v e) = v / 2 ^ n := by unfold shr; rw [if_pos (by omega), hdn]
  rw [hsh] at k1 k2 k5
  have hD : 0 < 2 ^ n := Nat.pow_pos (by omega)
  have hDM := Nat.div_add_mod v (2 ^ n)
  have hlt := Nat.mod_lt v hD
  have h2 : 2 ^ n = 2 * 2 ^ (n - 1) := by
    have h3 : n = n - 1 + 1 := by omega
    rw [h3, Nat.pow_succ, Nat.mul_comm, Nat.add_sub_cancel]
  have hodd : v % 2 ^ n % 2 = 1 := by
    rw [h2, Nat.mod_mul_right_mod]; exact hv
  have hR : v % 2 ^ n ≠ 0 := by intro h; rw [h] at hodd; cases hodd
  have hbit : win v (rDr v e - 1) % 2 = v / 2 ^ (n - 1) % 2 := by
    unfold win shr
    rw [if_pos (by omega), show (rDr v e - 1).toNat = n - 1 by omega]
    omega
  have hq : v / 2 ^ (n - 1) % 2 = (v % 2 ^ n) / 2 ^ (n - 1) := by
    rw [h2, Nat.mul_comm 2, Nat.mod_mul_right_div_self]
  have hp1 : 0 < 2 ^ (n - 1) := Nat.pow_pos (by omega)
  have hw : win v (rDr v e) = v / 2 ^ n := k1
  have e3 : rSz v e 3 = rW (v / 2 ^ n) la := by
    unfold rSz; rw [if_neg (by omega), hla]; unfold rKp rUp; rw [hw]; simp
  have e2 : rSz v e 2 = rW (v / 2 ^ n) la + 1 := by
    unfold rSz; rw [if_neg (by omega), hla]; unfold rKp rUp; rw [hw, if_pos ⟨hd, by simp⟩]; unfold rW; omega
  have e0 : ∀ b, rUp v (rDr v e) 0 = b → rSz v e 0 = if b then rW (v / 2 ^ n) la + 1 else rW (v / 2 ^ n) la := by
    intro b hb
    unfold rSz; rw [if_neg (by omega), hla]; unfold rKp; rw [hw, hb]
    cases b
    · simp
    · rw [if_pos ⟨hd, rfl⟩, if_pos rfl]; unfold rW; omega
  have hup : rUp v (rDr v e) 0 = ((v % 2 ^ n / 2 ^ (n - 1) == 1) && (decide (1 < rDr v e) || (v / 2 ^ n % 2 == 1))) := by
    unfold rUp; rw [if_pos rfl, hbit, hq, hw]
  have hpow : 2 ^ (la + 1074).toNat * 2 ^ kV = 2 ^ n * 2 ^ (e + 65536).toNat := by
    rw [← Nat.pow_add, ← Nat.pow_add]; congr 1; have := kV_eq; omega
  obtain ⟨v1, v2⟩ := rW_two k2 k5
  have hsl : rW (v / 2 ^ n) la < 9218868437227405312 := by unfold rW; omega
  have hpar : rW (v / 2 ^ n) la % 2 = v / 2 ^ n % 2 := by unfold rW; omega
  have hE : 0 < 2 ^ (e + 65536).toNat := Nat.two_pow_pos _
  have s1 : val (rW (v / 2 ^ n) la) * 2 ^ kV = 2 ^ n * (v / 2 ^ n) * 2 ^ (e + 65536).toNat := by
    rw [v1, Nat.mul_assoc, hpow, ← Nat.mul_assoc, Nat.mul_comm (v / 2 ^ n)]
  have s2 : val (rW (v / 2 ^ n) la + 1) * 2 ^ kV = (2 ^ n * (v / 2 ^ n) + 2 ^ n) * 2 ^ (e + 65536).toNat := by
    rw [v2, Nat.mul_assoc, hpow, ← Nat.mul_assoc, Nat.add_mul, Nat.one_mul, Nat.mul_comm (v / 2 ^ n)]
  obtain ⟨k, ek, hk, c⟩ := near_anyD neg e kV (m := v) h0 (by have := kV_eq; omega)
  rw [show (e + 1074 + ((kV : Nat) : Int)).toNat = (e + 65536).toNat by have := kV_eq; omega] at c
  have g1 : val (rW (v / 2 ^ n) la) * 2 ^ kV < v * 2 ^ (e + 65536).toNat := by
    rw [s1]; exact Nat.mul_lt_mul_of_pos_right (by omega) hE
  have g2 : v * 2 ^ (e + 65536).toNat < val (rW (v / 2 ^ n) la + 1) * 2 ^ kV := by
    rw [s2]; exact Nat.mul_lt_mul_of_pos_right (by omega) hE
  obtain ⟨t1, t2⟩ := near_two hk c hsl g1 g2
  refine ⟨rW (v / 2 ^ n) la, k, ek, e3, e2, ?_, t1, hsl, g1, g2⟩
  have hab : aboveD kV (v * 2 ^ (e + 65536).toNat) (rW (v / 2 ^ n) la) ↔ (2 ^ n < 2 * (v % 2 ^ n) ∨ (2 ^ n = 2 * (v % 2 ^ n) ∧ v / 2 ^ n % 2 = 1)) := by
    unfold aboveD
    rw [Nat.add_mul, s1, s2, ← Nat.add_mul, hpar, ← Nat.mul_assoc]
    generalize 2 ^ (e + 65536).toNat = E at *
    have hv2 : 2 * v = 2 * (2 ^ n * (v / 2 ^ n)) + 2 * (v % 2 ^ n) := by omega
    rw [hv2]
    generalize 2 ^ n * (v / 2 ^ n) = B at *
    generalize v % 2 ^ n = R at *
    constructor
    · rintro (h | ⟨h, h3⟩)
      · left
        have := Nat.lt_of_mul_lt_mul_right h
        omega
      · right
        have := Nat.eq_of_mul_eq_mul_right hE h
        exact ⟨by omega, h3⟩
    · rintro (h | ⟨h, h3⟩)
      · left
        exact Nat.mul_lt_mul_of_pos_right (by omega) hE
      · right
        exact ⟨by rw [show B + (B + 2 ^ n) = 2 * B + 2 * R by omega], h3⟩
  have hb := e0 _ hup
  rw [hb]
  have hx1 : 2 ^ n ≤ 2 * (v % 2 ^ n) → v % 2 ^ n / 2 ^ (n - 1) = 1 := by
    intro h
    have h5 : v % 2 ^ n / 2 ^ (n - 1) < 2 := (Nat.div_lt_iff_lt_mul hp1).2 (by omega)
    have h6 : 1 ≤ v % 2 ^ n / 2 ^ (n - 1) := (Nat.le_div_iff_mul_le hp1).2 (by omega)
    omega
  have hx0 : 2 * (v % 2 ^ n) < 2 ^ n → v % 2 ^ n / 2 ^ (n - 1) = 0 := fun h => Nat.div_eq_of_lt (by omega)
  have hone : (1 < rDr v e) ∨ n = 1 := by omega
  have htie : 2 ^ n = 2 * (v % 2 ^ n) → n = 1 := by
    intro h
    rcases (show n = 1 ∨ 1 < n by omega) with g | g
    · exact g
    · exfalso
      have h3 : 2 ^ n = 4 * 2 ^ (n - 2) := by
        have h4 : n = n - 2 + 2 := by omega
        conv => lhs; rw [h4, Nat.pow_add]
        omega
      omega
  by_cases c1 : 2 ^ n < 2 * (v % 2 ^ n)
  · rw [t2.2 (hab.2 (Or.inl c1)), hx1 (by omega)]
    have : 1 < rDr v e := by
      rcases hone with g | g
      · exact g
      · exfalso; subst g; simp at c1 hlt; omega
    rw [decide_eq_true this]
    rfl
  · by_cases c2 : 2 ^ n = 2 * (v % 2 ^ n)
    · have n1 := htie c2
      rw [hx1 (by omega), decide_eq_false (show ¬ 1 < rDr v e by omega)]
      by_cases c3 : v / 2 ^ n % 2 = 1
      · rw [t2.2 (hab.2 (Or.inr ⟨c2, c3⟩)), c3]; rfl
      · have hk2 : k ≠ rW (v / 2 ^ n) la + 1 := fun h => by
          rcases hab.1 (t2.1 h) with g | ⟨_, g⟩ <;> omega
        have c4 : v / 2 ^ n % 2 = 0 := by omega
        rw [c4]
        rcases t1 with g | g
        · rw [g]; rfl
        · exact absurd g hk2
    · have hk2 : k ≠ rW (v / 2 ^ n) la + 1 := fun h => by
        rcases hab.1 (t2.1 h) with g | ⟨g, _⟩ <;> omega
      rw [hx0 (by omega)]
      rcases t1 with g | g
      · rw [g]; rfl
      · exact absurd g hk2
/-- Where nothing is dropped. -/
theorem rnd_exact {v : Nat} {e : Int} (neg : Bool) (h0 : v ≠ 0) (he : -65536 ≤ e) (hg : (bl v : Int) + e ≤ 1024) (hd : rDr v e ≤ 0) :
    ∃ k : Nat, Ieee.double.nearest neg v e = Ieee.double.word neg k ∧ (∀ m, rSz v e m = k) ∧ k < 9218868437227405312 ∧ val k * 2 ^ kV = v * 2 ^ (e + 65536).toNat := by
  obtain ⟨k1, k2, k3, k4, k5⟩ := kept_bd h0 hg
  have hsz : ∀ m, rSz v e m = rW (shr v (rDr v e)) (rLa v e) := by
    intro m
    unfold rSz rKp
    rw [if_neg (by omega), if_neg (by omega), k1]
  obtain ⟨v1, _⟩ := rW_two k2 k5
  have hsl : rW (shr v (rDr v e)) (rLa v e) < 9218868437227405312 := by unfold rW; omega
  have hv : val (rW (shr v (rDr v e)) (rLa v e)) * 2 ^ kV = v * 2 ^ (e + 65536).toNat := by
    rw [v1]
    have hs : shr v (rDr v e) = v * 2 ^ (-(rDr v e)).toNat := by
      unfold shr
      by_cases h : 0 ≤ rDr v e
      · rw [if_pos h, show (rDr v e).toNat = 0 by omega, show (-(rDr v e)).toNat = 0 by omega]; simp
      · rw [if_neg h]
    rw [hs, Nat.mul_assoc, Nat.mul_assoc, ← Nat.pow_add, ← Nat.pow_add]
    congr 2
    unfold rDr at *
    have := kV_eq
    omega
  obtain ⟨k, ek, hk, c⟩ := near_anyD neg e kV (m := v) h0 (by have := kV_eq; omega)
  rw [show (e + 1074 + ((kV : Nat) : Int)).toNat = (e + 65536).toNat by have := kV_eq; omega] at c
  have := near_self hk c hsl hv
  subst this
  exact ⟨_, ek, hsz, hsl, hv⟩
def eInf : Nat := 2046
theorem val_top : val 9218868437227405312 = 4503599627370496 * 2 ^ eInf := by
  unfold val
  rw [if_neg (by omega), show 9218868437227405312 % 4503599627370496 = 0 by decide, show 9218868437227405312 / 4503599627370496 - 1 = eInf by decide]
/-- What is too great. -/
theorem rnd_over {v : Nat} {e : Int} (neg : Bool) (h0 : v ≠ 0) (he : -65536 ≤ e) (hg : 1024 < (bl v : Int) + e) :
    Ieee.double.nearest neg v e = Ieee.double.word neg 9218868437227405312 := by
  obtain ⟨k, ek, hk, c⟩ := near_anyD neg e kV (m := v) h0 (by have := kV_eq; omega)
  rw [show (e + 1074 + ((kV : Nat) : Int)).toNat = (e + 65536).toNat by have := kV_eq; omega] at c
  have hb := (bl_spec h0).1
  have hA : 2 ^ (bl v - 1) * 2 ^ (e + 65536).toNat ≤ v * 2 ^ (e + 65536).toNat := Nat.mul_le_mul_right _ hb
  have h1 : val 9218868437227405312 * 2 ^ kV ≤ 2 ^ (bl v - 1) * 2 ^ (e + 65536).toNat := by
    rw [val_top, show (4503599627370496 : Nat) = 2 ^ 52 by decide, ← Nat.pow_add, ← Nat.pow_add, ← Nat.pow_add]
    refine Nat.pow_le_pow_right (by omega) ?_
    have := kV_eq
    have : eInf = 2046 := rfl
    have hbl : bl v ≠ 0 := by unfold bl; split <;> omega
    omega
  have hp := Nat.two_pow_pos kV
  have h2 : val 9218868437227405311 * 2 ^ kV < val 9218868437227405312 * 2 ^ kV := Nat.mul_lt_mul_of_pos_right (val_lt (by omega)) hp
  have := above_lt c (r := 9218868437227405311) (by omega) (by rw [Nat.add_mul, show (9218868437227405311 : Nat) + 1 = 9218868437227405312 from rfl]; omega)
  rw [ek, show k = 9218868437227405312 by omega]
end Go.Proofs.YtmbcmhncicbbjaaGreatDoor
