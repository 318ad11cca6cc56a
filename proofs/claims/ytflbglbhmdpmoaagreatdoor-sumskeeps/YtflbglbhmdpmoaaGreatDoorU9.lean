/- A whole number as a float, by every way: what round's Int and the document's answer. -/
import Derived.Test.YtflbglbhmdpmoaaGreatDoorU7
import Derived.Test.YtflbglbhmdpmoaaGreatDoorU3
import Derived.Test.YtflbglbhmdpmoaaGreatDoorU2
import Derived.Test.YtflbglbhmdpmoaaGreatDoorU6
import Derived.Test.YtflbglbhmdpmoaaGreatDoorU8
import Derived.Deep.DeepCutAuto
import Derived.Test.YtflbglbhmdpmoaaGreatDoorU1
import Derived.Test.YtflbglbhmdpmoaaGreatDoorU4
namespace Go.Proofs.YtflbglbhmdpmoaaGreatDoor
open Go.RowKit

def kV : Nat := 64462
theorem kV_eq : kV = 64462 := rfl
theorem rW_two {k : Nat} {la : Int} (hk : k < 9007199254740992) (hor : la = -1074 ∨ 4503599627370496 ≤ k) : val (rW k la) = k * 2 ^ (la + 1074).toNat ∧ val (rW k la + 1) = (k + 1) * 2 ^ (la + 1074).toNat := by
  have hU : (la + 1074).toNat = 0 ∨ 4503599627370496 ≤ k := by omega
  obtain ⟨e1, e2⟩ := mg_of hk hU
  unfold rW
  refine ⟨?_, ?_⟩
  · rw [← mg_up, e1, e2]
  · rw [val_succ, e1, e2]
/-- What is k, told by the floats below. -/
theorem above_lt {K A r k : Nat} (c : ∀ r, r < 9218868437227405312 → (r < k ↔ aboveD K A r)) (hr : r < 9218868437227405312) (h : (val r + val (r + 1)) * 2 ^ K < 2 * A) : r < k := (c r hr).2 (Or.inl h)
/-- Between two floats next to each other. -/
theorem near_two {K A s k : Nat} (hk : k ≤ 9218868437227405312) (c : ∀ r, r < 9218868437227405312 → (r < k ↔ aboveD K A r)) (hs : s < 9218868437227405312) (h1 : val s * 2 ^ K < A) (h2 : A < val (s + 1) * 2 ^ K) :
    (k = s ∨ k = s + 1) ∧ (k = s + 1 ↔ aboveD K A s) := by
  have hp := Nat.two_pow_pos K
  have a1 : s ≤ k := by
    rcases Nat.eq_zero_or_pos s with h | h
    · omega
    · have hv : val (s - 1) * 2 ^ K ≤ val s * 2 ^ K := Nat.mul_le_mul_right _ (val_le_D (by omega))
      have := above_lt c (r := s - 1) (by omega) (by rw [show s - 1 + 1 = s by omega, Nat.add_mul]; omega)
      omega
  have a2 : k ≤ s + 1 := by
    rcases Nat.lt_or_ge (s + 1) 9218868437227405312 with h | h
    · rcases Nat.lt_or_ge (s + 1) k with g | g
      · exfalso
        have hb := (c (s + 1) h).1 g
        have hv : val (s + 1) * 2 ^ K ≤ val (s + 1 + 1) * 2 ^ K := Nat.mul_le_mul_right _ (val_le_D (by omega))
        unfold aboveD at hb
        rw [Nat.add_mul] at hb
        rcases hb with g | ⟨g, _⟩ <;> omega
      · exact g
    · omega
  refine ⟨by omega, ?_⟩
  rw [← c s hs]
  omega
theorem near_self {K A s k : Nat} (hk : k ≤ 9218868437227405312) (c : ∀ r, r < 9218868437227405312 → (r < k ↔ aboveD K A r)) (hs : s < 9218868437227405312) (h1 : val s * 2 ^ K = A) : k = s := by
  have hp := Nat.two_pow_pos K
  have a1 : s ≤ k := by
    rcases Nat.eq_zero_or_pos s with h | h
    · omega
    · have hv : val (s - 1) * 2 ^ K < val s * 2 ^ K := Nat.mul_lt_mul_of_pos_right (val_lt (by omega)) hp
      have := above_lt c (r := s - 1) (by omega) (by rw [show s - 1 + 1 = s by omega, Nat.add_mul]; omega)
      omega
  rcases Nat.lt_or_ge s k with g | g
  · exfalso
    have hb := (c s hs).1 g
    have hv : val s * 2 ^ K < val (s + 1) * 2 ^ K := Nat.mul_lt_mul_of_pos_right (val_step s) hp
    unfold aboveD at hb
    rw [Nat.add_mul] at hb
    rcases hb with g | ⟨g, _⟩ <;> omega
  · omega
/-- Where what is dropped is not nothing. -/
theorem rnd_mid {v : Nat} {e : Int} (neg : Bool) (hv : v % 2 = 1) (he : -65536 ≤ e) (hg : (bl v : Int) + e ≤ 1024) (hd : 0 < rDr v e) :
    ∃ s k : Nat, Ieee.double.nearest neg v e = Ieee.double.word neg k ∧ rSz v e 3 = s ∧ rSz v e 2 = s + 1 ∧ rSz v e 0 = k ∧ (k = s ∨ k = s + 1) ∧ s < 9218868437227405312 ∧
      val s * 2 ^ kV < v * 2 ^ (e + 65536).toNat ∧ v * 2 ^ (e + 65536).toNat < val (s + 1) * 2 ^ kV := by
  have h0 : v ≠ 0 := by omega
  obtain ⟨k1, k2, k3, k4, k5⟩ := kept_bd h0 hg
  generalize hla : rLa v e = la at *
  have hdr : rDr v e = la - e := by unfold rDr; rw [hla]
  generalize hdn : (rDr v e).toNat = n at *
  have hn : 0 < n := by omega
  have hsh : shr v (rDr v e) = v / 2 ^ n := by unfold shr; rw [if_pos (by omega), hdn]
  rw [hsh] at k1 k2 k5
  have hD : 0 < 2 ^ n := Nat.pow_pos (by omega)
  have hDM := Nat.div_add_mod v (2 ^ n)
  have hlt := Nat.mod_lt v hD
  have h2 : 2 ^ n = 2 * 2 ^ (n - 1) := by
    have h3 : n = n - 1 + 1 := by omega
    rw [h3, Nat.pow_succ, Nat.mul_comm, Nat.add_sub_cancel]
  have hodd : v % 2 ^ n % 2 = 1 := by
    rw [h2, Nat.mod_mul_right_mod]; exact hv
  have hR : v % 2 ^ n ≠ 0 := by intro h; rw [h] at hodd; cases hodd
  have hbit : win v (rDr v e - 1) % 2 = v / 2 ^ (n - 1) % 2 := by
    unfold win shr
    rw [if_pos (by omega), show (rDr v e - 1).toNat = n - 1 by omega]
    omega
  have hq : v / 2 ^ (n - 1) % 2 = (v % 2 ^ n) / 2 ^ (n - 1) := by
    rw [h2, Nat.mul_comm 2, Nat.mod_mul_right_div_self]
  have hp1 : 0 < 2 ^ (n - 1) := Nat.pow_pos (by omega)
  have hw : win v (rDr v e) = v / 2 ^ n := k1
  have e3 : rSz v e 3 = rW (v / 2 ^ n) la := by
    unfold rSz; rw [if_neg (by omega), hla]; unfold rKp rUp; rw [hw]; simp
  have e2 : rSz v e 2 = rW (v / 2 ^ n) la + 1 := by
    unfold rSz; rw [if_neg (by omega), hla]; unfold rKp rUp; rw [hw, if_pos ⟨hd, by simp⟩]; unfold rW; omega
  have e0 : ∀ b, rUp v (rDr v e) 0 = b → rSz v e 0 = if b then rW (v / 2 ^ n) la + 1 else rW (v / 2 ^ n) la := by
    intro b hb
    unfold rSz; rw [if_neg (by omega), hla]; unfold rKp; rw [hw, hb]
    cases b
    · simp
    · rw [if_pos ⟨hd, rfl⟩, if_pos rfl]; unfold rW; omega
  have hup : rUp v (rDr v e) 0 = ((v % 2 ^ n / 2 ^ (n - 1) == 1) && (decide (1 < rDr v e) || (v / 2 ^ n % 2 == 1))) := by
    unfold rUp; rw [if_pos rfl, hbit, hq, hw]
  have hpow : 2 ^ (la + 1074).toNat * 2 ^ kV = 2 ^ n * 2 ^ (e + 65536).toNat := by
    rw [← Nat.pow_add, ← Nat.pow_add]; congr 1; have := kV_eq; omega
  obtain ⟨v1, v2⟩ := rW_two k2 k5
  have hsl : rW (v / 2 ^ n) la < 9218868437227405312 := by unfold rW; omega
  have hpar : rW (v / 2 ^ n) la % 2 = v / 2 ^ n % 2 := by unfold rW; omega
  have hE : 0 < 2 ^ (e + 65536).toNat := Nat.two_pow_pos _
  have s1 : val (rW (v / 2 ^ n) la) * 2 ^ kV = 2 ^ n * (v / 2 ^ n) * 2 ^ (e + 65536).toNat := by
    rw [v1, Nat.mul_assoc, hpow, ← Nat.mul_assoc, Nat.mul_comm (v / 2 ^ n)]
  have s2 : val (rW (v / 2 ^ n) la + 1) * 2 ^ kV = (2 ^ n * (v / 2 ^ n) + 2 ^ n) * 2 ^ (e + 65536).toNat := by
    rw [v2, Nat.mul_assoc, hpow, ← Nat.mul_assoc, Nat.add_mul, Nat.one_mul, Nat.mul_comm (v / 2 ^ n)]
  obtain ⟨k, ek, hk, c⟩ := near_anyD neg e kV (m := v) h0 (by have := kV_eq; omega)
  rw [show (e + 1074 + ((kV : Nat) : Int)).toNat = (e + 65536).toNat by have := kV_eq; omega] at c
  have g1 : val (rW (v / 2 ^ n) la) * 2 ^ kV < v * 2 ^ (e + 65536).toNat := by
    rw [s1]; exact Nat.mul_lt_mul_of_pos_right (by omega) hE
  have g2 : v * 2 ^ (e + 65536).toNat < val (rW (v / 2 ^ n) la + 1) * 2 ^ kV := by
    rw [s2]; exact Nat.mul_lt_mul_of_pos_right (by omega) hE
  obtain ⟨t1, t2⟩ := near_two hk c hsl g1 g2
  refine ⟨rW (v / 2 ^ n) la, k, ek, e3, e2, ?_, t1, hsl, g1, g2⟩
  have hab : aboveD kV (v * 2 ^ (e + 65536).toNat) (rW (v / 2 ^ n) la) ↔ (2 ^ n < 2 * (v % 2 ^ n) ∨ (2 ^ n = 2 * (v % 2 ^ n) ∧ v / 2 ^ n % 2 = 1)) := by
    unfold aboveD
    rw [Nat.add_mul, s1, s2, ← Nat.add_mul, hpar, ← Nat.mul_assoc]
    generalize 2 ^ (e + 65536).toNat = E at *
    have hv2 : 2 * v = 2 * (2 ^ n * (v / 2 ^ n)) + 2 * (v % 2 ^ n) := by omega
    rw [hv2]
    generalize 2 ^ n * (v / 2 ^ n) = B at *
    generalize v % 2 ^ n = R at *
    constructor
    · rintro (h | ⟨h, h3⟩)
      · left
        have := Nat.lt_of_mul_lt_mul_right h
        omega
      · right
        have := Nat.eq_of_mul_eq_mul_right hE h
        exact ⟨by omega, h3⟩
    · rintro (h | ⟨h, h3⟩)
      · left
        exact Nat.mul_lt_mul_of_pos_right (by omega) hE
      · right
        exact ⟨by rw [show B + (B + 2 ^ n) = 2 * B + 2 * R by omega], h3⟩
  have hb := e0 _ hup
  rw [hb]
  have hx1 : 2 ^ n ≤ 2 * (v % 2 ^ n) → v % 2 ^ n / 2 ^ (n - 1) = 1 := by
    intro h
    have h5 : v % 2 ^ n / 2 ^ (n - 1) < 2 := (Nat.div_lt_iff_lt_mul hp1).2 (by omega)
    have h6 : 1 ≤ v % 2 ^ n / 2 ^ (n - 1) := (Nat.le_div_iff_mul_le hp1).2 (by omega)
    omega
  have hx0 : 2 * (v % 2 ^ n) < 2 ^ n → v % 2 ^ n / 2 ^ (n - 1) = 0 := fun h => Nat.div_eq_of_lt (by omega)
  have hone : (1 < rDr v e) ∨ n = 1 := by omega
  have htie : 2 ^ n = 2 * (v % 2 ^ n) → n = 1 := by
    intro h
    rcases (show n = 1 ∨ 1 < n by omega) with g | g
    · exact g
    · exfalso
      have h3 : 2 ^ n = 4 * 2 ^ (n - 2) := by
        have h4 : n = n - 2 + 2 := by omega
        conv => lhs; rw [h4, Nat.pow_add]
        omega
      omega
  by_cases c1 : 2 ^ n < 2 * (v % 2 ^ n)
  · rw [t2.2 (hab.2 (Or.inl c1)), hx1 (by omega)]
    have : 1 < rDr v e := by
      rcases hone with g | g
      · exact g
      · exfalso; subst g; simp at c1 hlt; omega
    rw [decide_eq_true this]
    rfl
  · by_cases c2 : 2 ^ n = 2 * (v % 2 ^ n)
    · have n1 := htie c2
      rw [hx1 (by omega), decide_eq_false (show ¬ 1 < rDr v e by omega)]
      by_cases c3 : v / 2 ^ n % 2 = 1
      · rw [t2.2 (hab.2 (Or.inr ⟨c2, c3⟩)), c3]; rfl
      · have hk2 : k ≠ rW (v / 2 ^ n) la + 1 := fun h => by
          rcases hab.1 (t2.1 h) with g | ⟨_, g⟩ <;> omega
        have c4 : v / 2 ^ n % 2 = 0 := by omega
        rw [c4]
        rcases t1 with g | g
        · rw [g]; rfl
        · exact absurd g hk2
    · have hk2 : k ≠ rW (v / 2 ^ n) la + 1 := fun h => by
        rcases hab.1 (t2.1 h) with g | ⟨g, _⟩ <;> omega
      rw [hx0 (by omega)]
      rcases t1 with g | g
      · rw [g]; rfl
      · exact absurd g hk2
/-- Where nothing is dropped. -/
theorem rnd_exact {v : Nat} {e : Int} (neg : Bool) (h0 : v ≠ 0) (he : -65536 ≤ e) (hg : (bl v : Int) + e ≤ 1024) (hd : rDr v e ≤ 0) :
    ∃ k : Nat, Ieee.double.nearest neg v e = Ieee.double.word neg k ∧ (∀ m, rSz v e m = k) ∧ k < 9218868437227405312 ∧ val k * 2 ^ kV = v * 2 ^ (e + 65536).toNat := by
  obtain ⟨k1, k2, k3, k4, k5⟩ := kept_bd h0 hg
  have hsz : ∀ m, rSz v e m = rW (shr v (rDr v e)) (rLa v e) := by
    intro m
    unfold rSz rKp
    rw [if_neg (by omega), if_neg (by omega), k1]
  obtain ⟨v1, _⟩ := rW_two k2 k5
  have hsl : rW (shr v (rDr v e)) (rLa v e) < 9218868437227405312 := by unfold rW; omega
  have hv : val (rW (shr v (rDr v e)) (rLa v e)) * 2 ^ kV = v * 2 ^ (e + 65536).toNat := by
    rw [v1]
    have hs : shr v (rDr v e) = v * 2 ^ (-(rDr v e)).toNat := by
      unfold shr
      by_cases h : 0 ≤ rDr v e
      · rw [if_pos h, show (rDr v e).toNat = 0 by omega, show (-(rDr v e)).toNat = 0 by omega]; simp
      · rw [if_neg h]
    rw [hs, Nat.mul_assoc, Nat.mul_assoc, ← Nat.pow_add, ← Nat.pow_add]
    congr 2
    unfold rDr at *
    have := kV_eq
    omega
  obtain ⟨k, ek, hk, c⟩ := near_anyD neg e kV (m := v) h0 (by have := kV_eq; omega)
  rw [show (e + 1074 + ((kV : Nat) : Int)).toNat = (e + 65536).toNat by have := kV_eq; omega] at c
  have := near_self hk c hsl hv
  subst this
  exact ⟨_, ek, hsz, hsl, hv⟩
def eInf : Nat := 2046
theorem val_top : val 9218868437227405312 = 4503599627370496 * 2 ^ eInf := by
  unfold val
  rw [if_neg (by omega), show 9218868437227405312 % 4503599627370496 = 0 by decide, show 9218868437227405312 / 4503599627370496 - 1 = eInf by decide]
/-- What is too great. -/
theorem rnd_over {v : Nat} {e : Int} (neg : Bool) (h0 : v ≠ 0) (he : -65536 ≤ e) (hg : 1024 < (bl v : Int) + e) :
    Ieee.double.nearest neg v e = Ieee.double.word neg 9218868437227405312 := by
  obtain ⟨k, ek, hk, c⟩ := near_anyD neg e kV (m := v) h0 (by have := kV_eq; omega)
  rw [show (e + 1074 + ((kV : Nat) : Int)).toNat = (e + 65536).toNat by have := kV_eq; omega] at c
  have hb := (bl_spec h0).1
  have hA : 2 ^ (bl v - 1) * 2 ^ (e + 65536).toNat ≤ v * 2 ^ (e + 65536).toNat := Nat.mul_le_mul_right _ hb
  have h1 : val 9218868437227405312 * 2 ^ kV ≤ 2 ^ (bl v - 1) * 2 ^ (e + 65536).toNat := by
    rw [val_top, show (4503599627370496 : Nat) = 2 ^ 52 by decide, ← Nat.pow_add, ← Nat.pow_add, ← Nat.pow_add]
    refine Nat.pow_le_pow_right (by omega) ?_
    have := kV_eq
    have : eInf = 2046 := rfl
    have hbl : bl v ≠ 0 := by unfold bl; split <;> omega
    omega
  have hp := Nat.two_pow_pos kV
  have h2 : val 9218868437227405311 * 2 ^ kV < val 9218868437227405312 * 2 ^ kV := Nat.mul_lt_mul_of_pos_right (val_lt (by omega)) hp
  have := above_lt c (r := 9218868437227405311) (by omega) (by rw [Nat.add_mul, show (9218868437227405311 : Nat) + 1 = 9218868437227405312 from rfl]; omega)
  rw [ek, show k = 9218868437227405312 by omega]
end Go.Proofs.YtflbglbhmdpmoaaGreatDoor

namespace Go.Proofs.YtflbglbhmdpmoaaGreatDoor
open Go.RowKit

/-- k is the rung that A units are rounded to. -/
def NearK (A k : Nat) : Prop := k ≤ 9218868437227405312 ∧ ∀ r, r < 9218868437227405312 → (r < k ↔ aboveD kV A r)
theorem nearK_uniq {A k j : Nat} (h : NearK A k) (g : NearK A j) : k = j := by
  rcases Nat.lt_or_ge k j with c | c
  · exfalso
    have hk := g.1
    have := (h.2 k (by omega)).2 ((g.2 k (by omega)).1 c)
    omega
  · rcases Nat.lt_or_ge j k with c2 | c2
    · exfalso
      have hk := h.1
      have := (g.2 j (by omega)).2 ((h.2 j (by omega)).1 c2)
      omega
    · omega
theorem nearK_of (s : Bool) {m : Nat} {p : Int} (hm : m ≠ 0) (hp : -65536 ≤ p) : ∃ k, Ieee.double.nearest s m p = Ieee.double.word s k ∧ NearK (m * 2 ^ (p + 65536).toNat) k := by
  obtain ⟨k, ek, hk, c⟩ := near_anyD s p kV (m := m) hm (by have := kV_eq; omega)
  rw [show (p + 1074 + ((kV : Nat) : Int)).toNat = (p + 65536).toNat by have := kV_eq; omega] at c
  exact ⟨k, ek, hk, c⟩
theorem word_k (s : Bool) {k : Nat} (hk : k < 9223372036854775808) : Ieee.double.word s k = if s then 9223372036854775808 + k else k := by
  have h := word_rung s hk
  have hl : Ieee.double.word s k < 18446744073709551616 := Ieee.double.word_lt (neg := s) hk
  have e := rung_of _ hl
  rw [h.1, h.2] at e
  rw [e]
theorem stepF_plus {k : Nat} {r : Int} (m : Int) (hk : k ≤ 9218868437227405312) (h0 : k = 0 → ¬ r < 0) (h1 : k = 9218868437227405312 → ¬ 0 < r) :
    stepF k r m = if (m = 1 ∨ m = 3) ∧ r < 0 then k - 1 else if m = 2 ∧ 0 < r then k + 1 else k := by
  have hs := (rung_pos (r := k) (by omega)).2
  unfold stepF dnB upB
  rw [hs]
  by_cases c1 : r < 0
  · have k0 : k ≠ 0 := fun h => h0 h c1
    rw [decide_eq_true c1, decide_eq_false (by omega : ¬ 0 < r)]
    rw [cpy_pos (by omega), next_less hk k0, rung_small (by omega)]
    by_cases c2 : m = 1
    · subst c2; simp [c1]
    · by_cases c3 : m = 3
      · subst c3; simp [c1]
      · simp [c2, c3]; omega
  · rw [decide_eq_false c1]
    by_cases c4 : 0 < r
    · have k1 : k < 9218868437227405312 := by
        rcases Nat.lt_or_ge k 9218868437227405312 with h | h
        · exact h
        · exact absurd c4 (h1 (by omega))
      rw [decide_eq_true c4, cpy_pos (by omega), next_plus k1, rung_small (by omega)]
      by_cases c2 : m = 2
      · subst c2; simp [c4]
      · simp [c2]; omega
    · rw [decide_eq_false c4]
      simp [c1, c4]
theorem stepF_less {k : Nat} {r : Int} (m : Int) (hk : k ≤ 9218868437227405312) (h0 : k = 0 → ¬ 0 < r) (h1 : k = 9218868437227405312 → ¬ r < 0) :
    stepF (9223372036854775808 + k) r m = 9223372036854775808 + if (m = 2 ∨ m = 3) ∧ 0 < r then k - 1 else if m = 1 ∧ r < 0 then k + 1 else k := by
  have hs := (rung_big (r := k) (by omega)).2
  unfold stepF dnB upB
  rw [hs]
  by_cases c1 : 0 < r
  · have k0 : k ≠ 0 := fun h => h0 h c1
    rw [decide_eq_true c1, decide_eq_false (by omega : ¬ r < 0)]
    rw [cpy_big (by omega), next_big_up hk k0]
    by_cases c2 : m = 2
    · subst c2; simp [c1]
    · by_cases c3 : m = 3
      · subst c3; simp [c1]
      · simp [c2, c3]; omega
  · rw [decide_eq_false c1]
    by_cases c4 : r < 0
    · have k1 : k < 9218868437227405312 := by
        rcases Nat.lt_or_ge k 9218868437227405312 with h | h
        · exact h
        · exact absurd c4 (h1 (by omega))
      rw [decide_eq_true c4, cpy_big (by omega), next_big_dn k1, (rung_big (by omega)).1]
      by_cases c2 : m = 1
      · subst c2; simp [c4]
      · simp [c2]; omega
    · rw [decide_eq_false c4]
      simp [c1, c4]
/-- On which side of its nearest float a number of A units lies. -/
def sdK (neg : Bool) (A k : Nat) : Int := if k = 9218868437227405312 then (if neg then 1 else -1) else if neg then -sgI ((A : Int) - ((val k * 2 ^ kV : Nat) : Int)) else sgI ((A : Int) - ((val k * 2 ^ kV : Nat) : Int))
theorem sgI_pos {x : Int} (h : 0 < x) : sgI x = 1 := by unfold sgI; rw [if_neg (by omega), if_neg (by omega)]
theorem sgI_neg {x : Int} (h : x < 0) : sgI x = -1 := by unfold sgI; rw [if_pos h]
theorem szm_pos (m : Int) : szm false m = if m = 1 ∨ m = 3 then 3 else if m = 2 then 2 else 0 := by
  unfold szm
  by_cases h1 : m = 1
  · subst h1; rfl
  · by_cases h2 : m = 2
    · subst h2; rfl
    · by_cases h3 : m = 3
      · subst h3; rfl
      · simp [h1, h2, h3]
theorem szm_neg (m : Int) : szm true m = if m = 2 ∨ m = 3 then 3 else if m = 1 then 2 else 0 := by
  unfold szm
  by_cases h1 : m = 1
  · subst h1; rfl
  · by_cases h2 : m = 2
    · subst h2; rfl
    · by_cases h3 : m = 3
      · subst h3; rfl
      · simp [h1, h2, h3]
theorem rSz_step {v : Nat} {e : Int} (neg : Bool) (m : Int) (hv : v % 2 = 1) (he : -65536 ≤ e) :
    ∃ k, NearK (v * 2 ^ (e + 65536).toNat) k ∧ (if neg then 9223372036854775808 + rSz v e (szm neg m) else rSz v e (szm neg m)) = stepF (Ieee.double.word neg k) (sdK neg (v * 2 ^ (e + 65536).toNat) k) m := by
  have h0 : v ≠ 0 := by omega
  obtain ⟨k, ek, hN⟩ := nearK_of neg h0 he
  obtain ⟨A, hA⟩ : ∃ A, v * 2 ^ (e + 65536).toNat = A := ⟨_, rfl⟩
  have hAp : 0 < A := by rw [← hA]; exact Nat.mul_pos (by omega) (Nat.two_pow_pos _)
  refine ⟨k, hN, ?_⟩
  have hk := hN.1
  rw [word_k neg (by omega)]
  have z0 : k = 0 → sgI ((A : Int) - ((val k * 2 ^ kV : Nat) : Int)) = 1 := by
    intro h; subst h
    rw [val_zero, Nat.zero_mul]
    exact sgI_pos (by omega)
  have fin : ∀ s : Int, sdK neg A k = s → (k = 0 → s = if neg then -1 else 1) → (k = 9218868437227405312 → s = if neg then 1 else -1) →
      (if neg = true then 9223372036854775808 + rSz v e (szm neg m) else rSz v e (szm neg m)) = (if neg then 9223372036854775808 + (if (m = 2 ∨ m = 3) ∧ 0 < s then k - 1 else if m = 1 ∧ s < 0 then k + 1 else k) else (if (m = 1 ∨ m = 3) ∧ s < 0 then k - 1 else if m = 2 ∧ 0 < s then k + 1 else k)) →
      (if neg = true then 9223372036854775808 + rSz v e (szm neg m) else rSz v e (szm neg m)) = stepF (if neg then 9223372036854775808 + k else k) (sdK neg A k) m := by
    intro s hs p1 p2 h
    rw [h, hs]
    cases neg
    · simp only [Bool.false_eq_true, if_false] at *
      rw [stepF_plus m hk (fun h => by rw [p1 h]; omega) (fun h => by rw [p2 h]; omega)]
    · simp only [if_true] at *
      rw [stepF_less m hk (fun h => by rw [p1 h]; omega) (fun h => by rw [p2 h]; omega)]
  rw [hA]
  refine fin _ rfl ?_ ?_ ?_
  · intro h
    unfold sdK
    rw [if_neg (by omega), z0 h]
  · intro h
    unfold sdK
    rw [if_pos h]
  · by_cases hg : 1024 < (bl v : Int) + e
    · have hk2 : k = 9218868437227405312 := by
        have e2 := rnd_over neg h0 he hg
        rw [ek] at e2
        have h3 := (word_rung neg (show k < 9223372036854775808 by omega)).1
        rw [e2, (word_rung neg (show 9218868437227405312 < 9223372036854775808 by omega)).1] at h3
        omega
      have hz : ∀ m, rSz v e m = if m = 3 then 9218868437227405311 else 9218868437227405312 := by
        intro m; unfold rSz; rw [if_pos hg]
      unfold sdK
      rw [if_pos hk2, hz, hk2]
      cases neg
      · rw [szm_pos]
        by_cases c1 : m = 1 ∨ m = 3
        · rw [if_pos c1]; simp [c1]
        · rw [if_neg c1]; simp [c1]; split <;> simp
      · rw [szm_neg]
        by_cases c1 : m = 2 ∨ m = 3
        · rw [if_pos c1]; simp [c1]
        · rw [if_neg c1]; simp [c1]; split <;> simp
    · by_cases hd : 0 < rDr v e
      · obtain ⟨s, k', ek', e3, e2, e0, ht, hsl, g1, g2⟩ := rnd_mid neg hv he (by omega) hd
        obtain rfl : k = k' := by
          have h3 := (word_rung neg (show k < 9223372036854775808 by omega)).1
          have h4 := (word_rung neg (show k' < 9223372036854775808 by omega)).1
          rw [← ek, ek'] at h3
          omega
        rw [hA] at g1 g2
        have hsd : sdK neg A k = if neg then (if k = s then -1 else 1) else (if k = s then 1 else -1) := by
          unfold sdK
          by_cases hi : k = 9218868437227405312
          · have hks : k ≠ s := by omega
            rw [if_pos hi]; simp only [if_neg hks]
          · rw [if_neg hi]
            rcases ht with h | h
            · have h5 : sgI ((A : Int) - ((val s * 2 ^ kV : Nat) : Int)) = 1 := sgI_pos (by omega)
              rw [h, h5]; cases neg <;> simp
            · have hks : k ≠ s := by omega
              have h5 : sgI ((A : Int) - ((val (s + 1) * 2 ^ kV : Nat) : Int)) = -1 := sgI_neg (by omega)
              simp only [if_neg hks]
              rw [h, h5]; cases neg <;> simp
        rw [hsd]
        cases neg
        · simp only [Bool.false_eq_true, if_false]
          rw [szm_pos]
          by_cases c1 : m = 1 ∨ m = 3
          · rw [if_pos c1, e3]
            have : m ≠ 2 := by omega
            rcases ht with h | h
            · rw [if_pos h]; simp [this, h]
            · rw [if_neg (show ¬ k = s by omega)]; simp [c1, h]
          · rw [if_neg c1]
            by_cases c2 : m = 2
            · rw [if_pos c2, e2]
              rcases ht with h | h
              · rw [if_pos h]; simp [c2, h]
              · rw [if_neg (show ¬ k = s by omega)]; simp [c2, h]
            · rw [if_neg c2, e0]
              simp [c1, c2]
        · simp only [if_true]
          rw [szm_neg]
          by_cases c1 : m = 2 ∨ m = 3
          · rw [if_pos c1, e3]
            have : m ≠ 1 := by omega
            rcases ht with h | h
            · rw [if_pos h]; simp [this, h]
            · rw [if_neg (show ¬ k = s by omega)]; simp [c1, h]
          · rw [if_neg c1]
            by_cases c2 : m = 1
            · rw [if_pos c2, e2]
              rcases ht with h | h
              · rw [if_pos h]; simp [c2, h]
              · rw [if_neg (show ¬ k = s by omega)]; simp [c2, h]
            · rw [if_neg c2, e0]
              simp [c1, c2]
      · obtain ⟨k', ek', ez, hkl, hval⟩ := rnd_exact neg h0 he (by omega) (by omega)
        obtain rfl : k = k' := by
          have h3 := (word_rung neg (show k < 9223372036854775808 by omega)).1
          have h4 := (word_rung neg (show k' < 9223372036854775808 by omega)).1
          rw [← ek, ek'] at h3
          omega
        rw [hA] at hval
        have hsd : sdK neg A k = 0 := by
          unfold sdK
          rw [if_neg (by omega), hval, Int.sub_self]
          cases neg <;> rfl
        rw [hsd, ez]
        simp
/-- Of a right dyad other than 0. -/
theorem rnd_step (d : Dy) (m : Int) (hL : Lm d.mag) (hR : rightB d = true) (hn : d.mag.length ≠ 0) :
    ∃ k, NearK (qd d).natAbs k ∧ d.neg = decide (qd d < 0) ∧ qd d ≠ 0 ∧ rndW d m = stepF (Ieee.double.word d.neg k) (sdK d.neg (qd d).natAbs k) m := by
  rcases right_cases hR with rfl | ⟨_, hc⟩
  · exact absurd rfl hn
  have hodd : vl d.mag % 2 = 1 := by rw [vl_odd hL hn]; exact hc.2.1
  have hq : (qd d).natAbs = vl d.mag * 2 ^ (d.exp + 65536).toNat := by
    unfold qd
    rw [Int.natAbs_mul, sv_abs, Int.natAbs_pow]
    rfl
  have hp := pow_pos_int (d.exp + 65536).toNat
  have hs : d.neg = decide (qd d < 0) := by
    rw [← sv_neg (d := d) (by omega)]
    unfold qd
    rw [Bool.eq_iff_iff]
    simp only [decide_eq_true_eq]
    constructor
    · intro h; exact Int.mul_neg_of_neg_of_pos h hp
    · intro h
      rcases Int.lt_or_le (sv d) 0 with g | g
      · exact g
      · exfalso
        have := Int.mul_nonneg g (Int.le_of_lt hp)
        omega
  have h0 : qd d ≠ 0 := by
    intro h
    rw [h] at hq
    have := Nat.mul_pos (show 0 < vl d.mag by omega) (Nat.two_pow_pos (d.exp + 65536).toNat)
    simp at hq
    omega
  obtain ⟨k, h1, h2⟩ := rSz_step d.neg m hodd hc.2.2.2.1
  rw [← hq] at h1 h2
  refine ⟨k, h1, hs, h0, ?_⟩
  rw [← h2]
  unfold rndW
  rw [if_neg hn]
end Go.Proofs.YtflbglbhmdpmoaaGreatDoor

namespace Go.Proofs.YtflbglbhmdpmoaaGreatDoor
open Go.RowKit

set_option maxRecDepth 100000 in
set_option maxHeartbeats 1000000 in
theorem plus_le (a b : Dy) (k : Nat) (ao bo : Option Addr) (cap bcap : Nat) (w : World) (hr : NS w ao cap a.mag) (hs : NS w bo bcap b.mag) (hL : Lm a.mag) (hM : Lm b.mag) (hn : a.mag.length ≤ 1000000) (hm : b.mag.length ≤ 1000000) (hza : vl a.mag ≠ 0) (hzb : vl b.mag ≠ 0) (hk : b.exp = a.exp + k) (hk2 : k ≤ 2000000) (ha1 : -1000000 ≤ a.exp) (ha2 : a.exp ≤ 1000000) :
    Calls Tryz.prog 41 #[.agg #[.bool a.neg, .slice ao a.mag.length cap, .int .i64 a.exp], .agg #[.bool b.neg, .slice bo b.mag.length bcap, .int .i64 b.exp]] w (GaveS w ao bo a b) := by
  have hZ := fun w' (h : NS w' ao cap a.mag) => zero_any a ao cap w' h hL (by omega)
  have hY := fun w' (h : NS w' bo bcap b.mag) => zero_any b bo bcap w' h hM (by omega)
  have e0 : (vl a.mag == 0) = false := by simpa using hza
  have e1 : (vl b.mag == 0) = false := by simpa using hzb
  rw [e0] at hZ
  rw [e1] at hY
  have hU := fun w' (h : NS w' bo bcap b.mag) => natUp_any b.mag bo bcap k w' h hM (by omega) (by omega)
  obtain ⟨hl1, hls, hll, hlm⟩ := plus_lens hL hM hn hm hk2
  have hA := fun o c w' (h1 : NS w' ao cap a.mag) (h2 : NS w' o c (lo (vl b.mag * 2 ^ k))) => natAdd_any a.mag (lo (vl b.mag * 2 ^ k)) ao o cap c w' h1 h2 hL (lo_lm _) (by omega) (by omega)
  have hC0 := fun o c w' (h1 : NS w' ao cap a.mag) (h2 : NS w' o c (lo (vl b.mag * 2 ^ k))) => natCmp_any a.mag (lo (vl b.mag * 2 ^ k)) ao o cap c w' h1 h2 hL (lo_lm _) (by omega) (by omega)
  have hS := fun o c w' (h1 : NS w' ao cap a.mag) (h2 : NS w' o c (lo (vl b.mag * 2 ^ k))) hle => natSub_any a.mag (lo (vl b.mag * 2 ^ k)) ao o cap c w' h1 h2 hL (lo_lm _) (by omega) (by omega) hle
  have hS' := fun o c w' (h1 : NS w' ao cap a.mag) (h2 : NS w' o c (lo (vl b.mag * 2 ^ k))) hle => natSub_any (lo (vl b.mag * 2 ^ k)) a.mag o ao c cap w' h2 h1 (lo_lm _) hL (by omega) (by omega) hle
  rw [vl_lo] at hA hC0 hS hS'
  have hVs := @plus_same a.neg a.mag b.mag a.exp b.exp k hk
  have hVl := @plus_less a.neg b.neg a.mag b.mag a.exp b.exp k hk
  have hVm := @plus_more a.neg b.neg a.mag b.mag a.exp b.exp k hk
  obtain ⟨n1, xs, ex⟩ := a
  obtain ⟨n2, ys, ey⟩ := b
  simp only at *
  subst hk
  have hsub : ex + (k : Int) - ex = (k : Int) := by omega
  have hwr : IntKind.i64.wrap (ex + (k : Int) - ex) = (k : Int) := by rw [hsub, IntKind.wrap_i64]; omega
  have hwr2 : IntKind.i64.wrap (k : Int) = (k : Int) := by rw [IntKind.wrap_i64]; omega
  obtain ⟨X, hX⟩ : ∃ X, vl xs = X := ⟨_, rfl⟩
  obtain ⟨V, hV⟩ : ∃ V, vl ys * 2 ^ k = V := ⟨_, rfl⟩
  rw [hV] at hU hl1 hA hC0 hS hS' hVs hVl hVm hls hll hlm
  rw [hX] at hA hC0 hS hS' hVs hVl hVm hls hll hlm
  obtain ⟨U, hUU⟩ : ∃ U, lo V = U := ⟨_, rfl⟩
  rw [hUU] at hU hl1 hA hC0 hS hS'
  have hgt : ¬ ex + (k : Int) < ex := by omega
  clear hza hzb e0 e1 hV hX hUU hL hM
  by_cases hnn : n1 = n2
  · subst hnn
    obtain ⟨L, hL⟩ : ∃ L, lo (X + V) = L := ⟨_, rfl⟩
    rw [hL] at hVs hls hA
    have hlen : Hid _ := hls
    clear hls
    have ebb : (n1 == n1) = true := by simp
    clear hVl hVm hll hlm hS hS' hC0 hL
    go_enter Tryz.func41, Tryz.ntmps41
    go_wp2_with (first
      | (go_at_call_of 68 (Value.agg #[.bool n1, .slice ao xs.length cap, .int .i64 ex]); refine (hZ _ (hr.below al3)).mono ?_; rintro e w1 ⟨rfl, b1⟩; obtain ⟨⟨c0, c1, c2⟩, ⟨d0, d1, d2⟩, ⟨e0, e1, e2⟩, ⟨k0, k1, k2⟩, hB0⟩ := bx3 b1)
      | (go_at_call_of 68 (Value.agg #[.bool n1, .slice bo ys.length bcap, .int .i64 (ex + (k : Int))]); refine (hY _ (hs.below hB0)).mono ?_; rintro e w2 ⟨rfl, b2⟩; have B2 := b1.trans (b2.mono b1.size); clear c0 c1 c2 d0 d1 d2 e0 e1 e2 k0 k1 k2; obtain ⟨⟨c0, c1, c2⟩, ⟨d0, d1, d2⟩, ⟨e0, e1, e2⟩, ⟨k0, k1, k2⟩, hB2⟩ := bx3 B2))
    go_region_held3 (fun w' => w'.cell? ⟨w.heap.size, 0, none⟩ = some (.bool n1) ∧ w'.cell? ⟨w.heap.size, 1, none⟩ = some (.slice ao xs.length cap) ∧ w'.cell? ⟨w.heap.size, 2, none⟩ = some (.int .i64 ex) ∧ w'.cell? ⟨w.heap.size + 1, 0, none⟩ = some (.bool n1) ∧ w'.cell? ⟨w.heap.size + 1, 1, none⟩ = some (.slice bo ys.length bcap) ∧ w'.cell? ⟨w.heap.size + 1, 2, none⟩ = some (.int .i64 (ex + (k : Int)))) (go_keep)
      (first | (go_at_call 69; refine (hU _ (hs.below hB2.drew)).mono ?_; rintro e w3 ⟨ao3, cap3, rfl, u3, f3, b3⟩; have B3 := B2.trans ((undrew b3).mono B2.size); clear c0 c1 c2 d0 d1 d2 e0 e1 e2 k0 k1 k2; obtain ⟨⟨c0, c1, c2⟩, ⟨d0, d1, d2⟩, ⟨e0, e1, e2⟩, ⟨k0, k1, k2⟩, hB3⟩ := bx3 B3))
    go_wp2
    have q1 : ¬ w.heap.size + 1 + 1 = w.heap.size := by omega
    have q2 : ¬ w.heap.size = w.heap.size + 1 + 1 := by omega
    go_region_held3 (fun w' => w'.cell? ⟨w.heap.size, 0, none⟩ = some (.bool n1) ∧ w'.cell? ⟨w.heap.size, 2, none⟩ = some (.int .i64 ex)) (go_keep)
      (first | (go_at_call 70; refine (hA _ _ w3.drew (hr.below hB3.drew) u3).mono ?_; rintro e w5 ⟨ao5, cap5, rfl, u5, f5, b5⟩; have B5 := B3.trans ((undrew b5).mono B3.size); clear c0 c1 c2 d0 d1 d2 e0 e1 e2 k0 k1 k2; obtain ⟨⟨c0, c1, c2⟩, ⟨d0, d1, d2⟩, ⟨e0, e1, e2⟩, ⟨k0, k1, k2⟩, hB5⟩ := bx3 B5))
    clear c0 c1 c2 d0 d1 d2
    have hs5 := B3.size
    simp at hs5
    have hfr2 : Frs (w.heap.size + 3) ao5 := f5.mono (by have h : w.heap.size + 3 ≤ w3.heap.size := (by omega); exact h)
    go_wp2
    refine bodyPost_ret (v := .agg #[.bool n1, .slice ao5 L.length cap5, .int .i64 ex]) (by simp [results, Tryz.results41, go_sem, e0, e1, e2]) rfl ⟨⟨n1, L, ex⟩, ao5, cap5, rfl, hVs, ⟨hlen.out.1, Or.inl ⟨hlen.out.2, hfr2.mono (by omega)⟩⟩, fun N h1 h2 p e _ => Or.inr (by have h := hfr2 p e; omega), ?_, ((hB5.setCell (by simp; omega) _).setCell (by simp; omega) _).setCell (by simp; omega) _⟩
    exact ⟨((u5.1.box hfr2 (by omega) _ _).box hfr2 (by omega) _ _).box hfr2 (by omega) _ _, u5.2⟩
  · have ebb : (n1 == n2) = false := by simpa using hnn
    have q1 : ¬ w.heap.size + 1 + 1 = w.heap.size := by omega
    have q2 : ¬ w.heap.size = w.heap.size + 1 + 1 := by omega
    by_cases hle : V ≤ X
    · obtain ⟨L, hL⟩ : ∃ L, lo (X - V) = L := ⟨_, rfl⟩
      have hVl := hVl hnn hle
      have hS := fun o c w' h1 h2 => hS o c w' h1 h2 hle
      rw [hL] at hVl hll hS
      have hlen : Hid _ := hll
      clear hll
      obtain ⟨g, hg⟩ : ∃ g, sgI ((X : Int) - (V : Int)) = g := ⟨_, rfl⟩
      have hg0 : 0 ≤ g := by rw [← hg]; unfold sgI; split <;> (try split) <;> omega
      rw [hg] at hC0
      clear hVs hVm hls hlm hS' hA hL hg
      go_enter Tryz.func41, Tryz.ntmps41
      go_wp2_with (first
        | (go_at_call_of 68 (Value.agg #[.bool n1, .slice ao xs.length cap, .int .i64 ex]); refine (hZ _ (hr.below al3)).mono ?_; rintro e w1 ⟨rfl, b1⟩; obtain ⟨⟨c0, c1, c2⟩, ⟨d0, d1, d2⟩, ⟨e0, e1, e2⟩, ⟨k0, k1, k2⟩, hB0⟩ := bx3 b1)
        | (go_at_call_of 68 (Value.agg #[.bool n2, .slice bo ys.length bcap, .int .i64 (ex + (k : Int))]); refine (hY _ (hs.below hB0)).mono ?_; rintro e w2 ⟨rfl, b2⟩; have B2 := b1.trans (b2.mono b1.size); clear c0 c1 c2 d0 d1 d2 e0 e1 e2 k0 k1 k2; obtain ⟨⟨c0, c1, c2⟩, ⟨d0, d1, d2⟩, ⟨e0, e1, e2⟩, ⟨k0, k1, k2⟩, hB2⟩ := bx3 B2))
      go_region_held3 (fun w' => w'.cell? ⟨w.heap.size, 0, none⟩ = some (.bool n1) ∧ w'.cell? ⟨w.heap.size, 1, none⟩ = some (.slice ao xs.length cap) ∧ w'.cell? ⟨w.heap.size, 2, none⟩ = some (.int .i64 ex) ∧ w'.cell? ⟨w.heap.size + 1, 0, none⟩ = some (.bool n2) ∧ w'.cell? ⟨w.heap.size + 1, 1, none⟩ = some (.slice bo ys.length bcap) ∧ w'.cell? ⟨w.heap.size + 1, 2, none⟩ = some (.int .i64 (ex + (k : Int)))) (go_keep)
        (first | (go_at_call 69; refine (hU _ (hs.below hB2.drew)).mono ?_; rintro e w3 ⟨ao3, cap3, rfl, u3, f3, b3⟩; have B3 := B2.trans ((undrew b3).mono B2.size); clear c0 c1 c2 d0 d1 d2 e0 e1 e2 k0 k1 k2; obtain ⟨⟨c0, c1, c2⟩, ⟨d0, d1, d2⟩, ⟨e0, e1, e2⟩, ⟨k0, k1, k2⟩, hB3⟩ := bx3 B3))
      go_wp2_with (first
        | (go_at_call 71; refine (hC0 _ _ _ (hr.below hB3) u3).mono ?_; rintro e w4 ⟨rfl, b4⟩; have B4 := B3.trans (b4.mono B3.size); clear c0 c1 c2 d0 d1 d2 e0 e1 e2 k0 k1 k2; obtain ⟨⟨c0, c1, c2⟩, ⟨d0, d1, d2⟩, ⟨e0, e1, e2⟩, ⟨k0, k1, k2⟩, hB4⟩ := bx3 B4))
      go_region_held3 (fun w' => w'.cell? ⟨w.heap.size, 0, none⟩ = some (.bool n1) ∧ w'.cell? ⟨w.heap.size, 2, none⟩ = some (.int .i64 ex)) (go_keep)
        (first | (go_at_call 72; refine (hS _ _ w4.drew (hr.below hB4.drew) (u3.below b4.drew)).mono ?_; rintro e w5 ⟨ao5, cap5, rfl, u5, f5, b5⟩; have B5 := B4.trans ((undrew b5).mono B4.size); clear c0 c1 c2 d0 d1 d2 e0 e1 e2 k0 k1 k2; obtain ⟨⟨c0, c1, c2⟩, ⟨d0, d1, d2⟩, ⟨e0, e1, e2⟩, ⟨k0, k1, k2⟩, hB5⟩ := bx3 B5))
      clear c0 c1 c2 d0 d1 d2
      have hs5 := B4.size
      simp at hs5
      have hfr2 : Frs (w.heap.size + 3) ao5 := f5.mono (by have h : w.heap.size + 3 ≤ w4.heap.size := (by omega); exact h)
      go_wp2
      refine bodyPost_ret (v := .agg #[.bool n1, .slice ao5 L.length cap5, .int .i64 ex]) (by simp [results, Tryz.results41, go_sem, e0, e1, e2]) rfl ⟨⟨n1, L, ex⟩, ao5, cap5, rfl, hVl, ⟨hlen.out.1, Or.inl ⟨hlen.out.2, hfr2.mono (by omega)⟩⟩, fun N h1 h2 p e _ => Or.inr (by have h := hfr2 p e; omega), ?_, ((hB5.setCell (by simp; omega) _).setCell (by simp; omega) _).setCell (by simp; omega) _⟩
      exact ⟨((u5.1.box hfr2 (by omega) _ _).box hfr2 (by omega) _ _).box hfr2 (by omega) _ _, u5.2⟩
    · obtain ⟨L, hL⟩ : ∃ L, lo (V - X) = L := ⟨_, rfl⟩
      have hVm := hVm hnn (by omega)
      have hS' := fun o c w' h1 h2 => hS' o c w' h1 h2 (by omega)
      rw [hL] at hVm hlm hS'
      have hlen : Hid _ := hlm
      clear hlm
      obtain ⟨g, hg⟩ : ∃ g, sgI ((X : Int) - (V : Int)) = g := ⟨_, rfl⟩
      have hg0 : ¬ 0 ≤ g := by rw [← hg]; unfold sgI; rw [if_pos (by omega)]; omega
      rw [hg] at hC0
      clear hVs hVl hls hll hS hA hL hg
      go_enter Tryz.func41, Tryz.ntmps41
      go_wp2_with (first
        | (go_at_call_of 68 (Value.agg #[.bool n1, .slice ao xs.length cap, .int .i64 ex]); refine (hZ _ (hr.below al3)).mono ?_; rintro e w1 ⟨rfl, b1⟩; obtain ⟨⟨c0, c1, c2⟩, ⟨d0, d1, d2⟩, ⟨e0, e1, e2⟩, ⟨k0, k1, k2⟩, hB0⟩ := bx3 b1)
        | (go_at_call_of 68 (Value.agg #[.bool n2, .slice bo ys.length bcap, .int .i64 (ex + (k : Int))]); refine (hY _ (hs.below hB0)).mono ?_; rintro e w2 ⟨rfl, b2⟩; have B2 := b1.trans (b2.mono b1.size); clear c0 c1 c2 d0 d1 d2 e0 e1 e2 k0 k1 k2; obtain ⟨⟨c0, c1, c2⟩, ⟨d0, d1, d2⟩, ⟨e0, e1, e2⟩, ⟨k0, k1, k2⟩, hB2⟩ := bx3 B2))
      go_region_held3 (fun w' => w'.cell? ⟨w.heap.size, 0, none⟩ = some (.bool n1) ∧ w'.cell? ⟨w.heap.size, 1, none⟩ = some (.slice ao xs.length cap) ∧ w'.cell? ⟨w.heap.size, 2, none⟩ = some (.int .i64 ex) ∧ w'.cell? ⟨w.heap.size + 1, 0, none⟩ = some (.bool n2) ∧ w'.cell? ⟨w.heap.size + 1, 1, none⟩ = some (.slice bo ys.length bcap) ∧ w'.cell? ⟨w.heap.size + 1, 2, none⟩ = some (.int .i64 (ex + (k : Int)))) (go_keep)
        (first | (go_at_call 69; refine (hU _ (hs.below hB2.drew)).mono ?_; rintro e w3 ⟨ao3, cap3, rfl, u3, f3, b3⟩; have B3 := B2.trans ((undrew b3).mono B2.size); clear c0 c1 c2 d0 d1 d2 e0 e1 e2 k0 k1 k2; obtain ⟨⟨c0, c1, c2⟩, ⟨d0, d1, d2⟩, ⟨e0, e1, e2⟩, ⟨k0, k1, k2⟩, hB3⟩ := bx3 B3))
      go_wp2_with (first
        | (go_at_call 71; refine (hC0 _ _ _ (hr.below hB3) u3).mono ?_; rintro e w4 ⟨rfl, b4⟩; have B4 := B3.trans (b4.mono B3.size); clear c0 c1 c2 d0 d1 d2 e0 e1 e2 k0 k1 k2; obtain ⟨⟨c0, c1, c2⟩, ⟨d0, d1, d2⟩, ⟨e0, e1, e2⟩, ⟨k0, k1, k2⟩, hB4⟩ := bx3 B4))
      go_region_held3 (fun w' => w'.cell? ⟨w.heap.size + 1, 0, none⟩ = some (.bool n2) ∧ w'.cell? ⟨w.heap.size, 2, none⟩ = some (.int .i64 ex)) (go_keep)
        (first | (go_at_call 72; refine (hS' _ _ w4.drew (hr.below hB4.drew) (u3.below b4.drew)).mono ?_; rintro e w5 ⟨ao5, cap5, rfl, u5, f5, b5⟩; have B5 := B4.trans ((undrew b5).mono B4.size); clear c0 c1 c2 d0 d1 d2 e0 e1 e2 k0 k1 k2; obtain ⟨⟨c0, c1, c2⟩, ⟨d0, d1, d2⟩, ⟨e0, e1, e2⟩, ⟨k0, k1, k2⟩, hB5⟩ := bx3 B5))
      clear c0 c1 c2 d0 d1 d2
      have hs5 := B4.size
      simp at hs5
      have hfr2 : Frs (w.heap.size + 3) ao5 := f5.mono (by have h : w.heap.size + 3 ≤ w4.heap.size := (by omega); exact h)
      go_wp2
      refine bodyPost_ret (v := .agg #[.bool n2, .slice ao5 L.length cap5, .int .i64 ex]) (by simp [results, Tryz.results41, go_sem, e0, e1, e2]) rfl ⟨⟨n2, L, ex⟩, ao5, cap5, rfl, hVm, ⟨hlen.out.1, Or.inl ⟨hlen.out.2, hfr2.mono (by omega)⟩⟩, fun N h1 h2 p e _ => Or.inr (by have h := hfr2 p e; omega), ?_, ((hB5.setCell (by simp; omega) _).setCell (by simp; omega) _).setCell (by simp; omega) _⟩
      exact ⟨((u5.1.box hfr2 (by omega) _ _).box hfr2 (by omega) _ _).box hfr2 (by omega) _ _, u5.2⟩
end Go.Proofs.YtflbglbhmdpmoaaGreatDoor

namespace Go.Proofs.YtflbglbhmdpmoaaGreatDoor
open Go.RowKit

theorem row_blk {w : World} {ao : Option Addr} {xs : List Nat} (h : LRow w ao xs) {p : Addr} (e : ao = some p) (h0 : ¬ xs.length = 0) : p.block < w.heap.size := by
  rcases h with h | ⟨b', off', e', hc⟩
  · exact absurd h h0
  · rw [e] at e'
    cases e'
    exact World.block_lt_of_cell? w _ (hc 0 (by omega))
set_option maxHeartbeats 2000000 in
theorem plus_gt (a b : Dy) (k : Nat) (ao bo : Option Addr) (cap bcap : Nat) (w : World) (hr : NS w ao cap a.mag) (hs : NS w bo bcap b.mag) (hL : Lm a.mag) (hM : Lm b.mag) (hn : a.mag.length ≤ 1000000) (hm : b.mag.length ≤ 1000000) (hza : vl a.mag ≠ 0) (hzb : vl b.mag ≠ 0) (hk : a.exp = b.exp + k) (hk0 : 0 < k) (hk2 : k ≤ 2000000) (ha1 : -1000000 ≤ b.exp) (ha2 : b.exp ≤ 1000000) :
    Calls Tryz.prog 41 #[.agg #[.bool a.neg, .slice ao a.mag.length cap, .int .i64 a.exp], .agg #[.bool b.neg, .slice bo b.mag.length bcap, .int .i64 b.exp]] w (GaveS w ao bo a b) := by
  have hZ := fun w' (h : NS w' ao cap a.mag) => zero_any a ao cap w' h hL (by omega)
  have hY := fun w' (h : NS w' bo bcap b.mag) => zero_any b bo bcap w' h hM (by omega)
  have e0 : (vl a.mag == 0) = false := by simpa using hza
  have e1 : (vl b.mag == 0) = false := by simpa using hzb
  rw [e0] at hZ
  rw [e1] at hY
  have hP := fun w' (h1 : NS w' bo bcap b.mag) (h2 : NS w' ao cap a.mag) => plus_le b a k bo ao bcap cap w' h1 h2 hM hL hm hn hzb hza hk hk2 ha1 ha2
  have HS : Hid (∀ z, PlusV b a z → PlusV a b z) := fun z h => plusV_swap h
  have q1 : ∀ p, ao = some p → p.block < w.heap.size := fun p e => row_blk hr.1 e (fun h => hza (by rw [List.eq_nil_of_length_eq_zero h]; rfl))
  have q2 : ∀ p, bo = some p → p.block < w.heap.size := fun p e => row_blk hs.1 e (fun h => hzb (by rw [List.eq_nil_of_length_eq_zero h]; rfl))
  obtain ⟨n1, xs, ex⟩ := a
  obtain ⟨n2, ys, ey⟩ := b
  simp only at *
  have hgt : ey < ex := by omega
  clear hza hzb e0 e1 hk
  go_enter Tryz.func41, Tryz.ntmps41
  go_wp2_with (first
    | (go_at_call_of 68 (Value.agg #[.bool n1, .slice ao xs.length cap, .int .i64 ex]); refine (hZ _ (hr.below al3)).mono ?_; rintro e w1 ⟨rfl, b1⟩; obtain ⟨⟨c0, c1, c2⟩, ⟨d0, d1, d2⟩, ⟨e0, e1, e2⟩, ⟨k0, k1, k2⟩, hB0⟩ := bx3 b1)
    | (go_at_call_of 68 (Value.agg #[.bool n2, .slice bo ys.length bcap, .int .i64 ey]); refine (hY _ (hs.below hB0)).mono ?_; rintro e w2 ⟨rfl, b2⟩; have B2 := b1.trans (b2.mono b1.size); clear c0 c1 c2 d0 d1 d2 e0 e1 e2 k0 k1 k2; obtain ⟨⟨c0, c1, c2⟩, ⟨d0, d1, d2⟩, ⟨e0, e1, e2⟩, ⟨k0, k1, k2⟩, hB2⟩ := bx3 B2)
    | (go_at_call 41; refine (hP _ (hs.below hB2) (hr.below hB2)).mono ?_; rintro e w3 ⟨⟨zn, zm, ze⟩, ao3, cap3, rfl, hv, hzl, hbk, u3, b3⟩; have B3 := B2.trans (b3.mono B2.size); clear c0 c1 c2 d0 d1 d2 e0 e1 e2 k0 k1 k2; obtain ⟨⟨c0, c1, c2⟩, ⟨d0, d1, d2⟩, ⟨e0, e1, e2⟩, ⟨k0, k1, k2⟩, hB3⟩ := bx3 B3))
  refine bodyPost_ret (v := .agg #[.bool zn, .slice ao3 zm.length cap3, .int .i64 ze]) (by simp [results, Tryz.results41, go_sem, e0, e1, e2]) rfl ⟨⟨zn, zm, ze⟩, ao3, cap3, rfl, HS.out _ hv, ⟨by have := hzl.1; simp only at this ⊢; omega, hzl.2.imp (fun h => ⟨h.1, h.2.mono (by have := hB2.size; omega)⟩) Or.symm⟩, ?_, ?_, ((hB3.setCell (by simp; omega) _).setCell (by simp; omega) _).setCell (by simp; omega) _⟩
  · intro N g1 g2 p e hl
    rcases hbk N g2 g1 p e hl with h | h
    · exact Or.inl h
    · exact Or.inr (by have := hB2.size; omega)
  · have hne : ∀ x off, ao3 = some ⟨x, off, none⟩ → zm.length ≠ 0 → x ≠ w.heap.size + 1 + 1 := fun x off e hl => by
      have hs2 := B2.size
      simp at hs2
      rcases hbk w.heap.size (fun p e _ => q2 p e) (fun p e _ => q1 p e) _ e hl with h | h
      · show x ≠ _
        have h' : x < w.heap.size := h
        omega
      · show x ≠ _
        have h' : w2.heap.size ≤ x := h
        omega
    exact ⟨((u3.1.setCell _ hne).setCell _ hne).setCell _ hne, u3.2⟩
theorem plus_any (a b : Dy) (ao bo : Option Addr) (cap bcap : Nat) (w : World) (hr : NS w ao cap a.mag) (hs : NS w bo bcap b.mag) (hL : Lm a.mag) (hM : Lm b.mag) (hn : a.mag.length ≤ 1000000) (hm : b.mag.length ≤ 1000000) (ha1 : -1000000 ≤ a.exp) (ha2 : a.exp ≤ 1000000) (hb1 : -1000000 ≤ b.exp) (hb2 : b.exp ≤ 1000000) :
    Calls Tryz.prog 41 #[.agg #[.bool a.neg, .slice ao a.mag.length cap, .int .i64 a.exp], .agg #[.bool b.neg, .slice bo b.mag.length bcap, .int .i64 b.exp]] w (GaveS w ao bo a b) := by
  by_cases hza : vl a.mag = 0
  · exact plus_zero a b ao bo cap bcap w hr hs hL hM hn hm (Or.inl hza)
  · by_cases hzb : vl b.mag = 0
    · exact plus_zero a b ao bo cap bcap w hr hs hL hM hn hm (Or.inr hzb)
    · by_cases hle : a.exp ≤ b.exp
      · exact plus_le a b (b.exp - a.exp).toNat ao bo cap bcap w hr hs hL hM hn hm hza hzb (by omega) (by omega) ha1 ha2
      · exact plus_gt a b (a.exp - b.exp).toNat ao bo cap bcap w hr hs hL hM hn hm hza hzb (by omega) (by omega) (by omega) hb1 hb2
end Go.Proofs.YtflbglbhmdpmoaaGreatDoor

namespace Go.Proofs.YtflbglbhmdpmoaaGreatDoor
open Go.RowKit

set_option maxRecDepth 100000 in
set_option maxHeartbeats 2000000 in
theorem less_blk (x y : Dy) (ao bo : Option Addr) (cap bcap : Nat) (w : World) (hr : NS w ao cap x.mag) (hs : NS w bo bcap y.mag) (hL : Lm x.mag) (hM : Lm y.mag) (hn : x.mag.length ≤ 1000000) (hm : y.mag.length ≤ 1000000) (hx1 : -65536 ≤ x.exp) (hx2 : x.exp ≤ 65536) (hy1 : -65536 ≤ y.exp) (hy2 : y.exp ≤ 65536) :
    Calls Tryz.prog 111 #[.agg #[.bool x.neg, .slice ao x.mag.length cap, .int .i64 x.exp], .agg #[.bool y.neg, .slice bo y.mag.length bcap, .int .i64 y.exp]] w fun e w' => ∃ z zo c, e = .returned (.agg #[.bool z.neg, .slice zo z.mag.length c, .int .i64 z.exp]) ∧ PlusV x ⟨!y.neg, y.mag, y.exp⟩ z ∧ z.mag.length ≤ x.mag.length + y.mag.length + 40000 ∧ NS w' zo c z.mag ∧ Below w.heap.size w w' := by
  have q1 : ∀ p, ao = some p → x.mag.length ≠ 0 → p.block < w.heap.size := fun p e h => row_blk hr.1 e h
  have q2 : ∀ p, bo = some p → y.mag.length ≠ 0 → p.block < w.heap.size := fun p e h => row_blk hs.1 e h
  have hMi := fun w' => minus_any y bo bcap w'
  have hP := fun w' (h1 : NS w' ao cap x.mag) (h2 : NS w' bo bcap y.mag) => plus_any x ⟨!y.neg, y.mag, y.exp⟩ ao bo cap bcap w' h1 h2 hL hM hn hm (by omega) (by omega) (by simp only; omega) (by simp only; omega)
  obtain ⟨n1, xs, ex⟩ := x
  obtain ⟨n2, ys, ey⟩ := y
  simp only at *
  clear hx1 hx2 hy1 hy2 hn hm hL hM
  have u1 : ¬ w.heap.size + 1 + 1 = w.heap.size := by omega
  have u2 : ¬ w.heap.size = w.heap.size + 1 + 1 := by omega
  go_enter Tryz.func111, Tryz.ntmps111
  go_upto_region 1 with fail
  have base : Below (((w.alloc (.cells #[.bool n1, .slice ao xs.length cap, .int .i64 ex] 53)).alloc (.cells #[.bool n2, .slice bo ys.length bcap, .int .i64 ey] 53)).alloc (.cells #[.bool false, .slice none 0 0, .int .i64 0] 53)).heap.size (((w.alloc (.cells #[.bool n1, .slice ao xs.length cap, .int .i64 ex] 53)).alloc (.cells #[.bool n2, .slice bo ys.length bcap, .int .i64 ey] 53)).alloc (.cells #[.bool false, .slice none 0 0, .int .i64 0] 53)) (((w.alloc (.cells #[.bool n1, .slice ao xs.length cap, .int .i64 ex] 53)).alloc (.cells #[.bool n2, .slice bo ys.length bcap, .int .i64 ey] 53)).alloc (.cells #[.bool false, .slice none 0 0, .int .i64 0] 53)) := Below.refl _ _
  obtain ⟨⟨c0, c1, c2⟩, ⟨d0, d1, d2⟩, ⟨e0, e1, e2⟩, ⟨k0, k1, k2⟩, hB0⟩ := bx3 base
  have hr2 : NS (((w.alloc (.cells #[.bool n1, .slice ao xs.length cap, .int .i64 ex] 53)).alloc (.cells #[.bool n2, .slice bo ys.length bcap, .int .i64 ey] 53)).alloc (.cells #[.bool false, .slice none 0 0, .int .i64 0] 53)).drew ao cap xs := hr.below hB0.drew
  have hs2 : NS (((w.alloc (.cells #[.bool n1, .slice ao xs.length cap, .int .i64 ex] 53)).alloc (.cells #[.bool n2, .slice bo ys.length bcap, .int .i64 ey] 53)).alloc (.cells #[.bool false, .slice none 0 0, .int .i64 0] 53)).drew bo bcap ys := hs.below hB0.drew
  go_region_held3 (fun w' => w'.cell? ⟨w.heap.size, 0, none⟩ = some (.bool n1) ∧ w'.cell? ⟨w.heap.size, 1, none⟩ = some (.slice ao xs.length cap) ∧ w'.cell? ⟨w.heap.size, 2, none⟩ = some (.int .i64 ex) ∧ w'.cell? ⟨w.heap.size + 1, 0, none⟩ = some (.bool n2) ∧ w'.cell? ⟨w.heap.size + 1, 1, none⟩ = some (.slice bo ys.length bcap) ∧ w'.cell? ⟨w.heap.size + 1, 2, none⟩ = some (.int .i64 ey)) (go_keep)
    (first
      | (go_at_call 137; refine (hMi _).mono ?_; rintro e wm ⟨rfl, bm⟩; have Bm := base.trans ((undrew bm).mono base.size); clear c0 c1 c2 d0 d1 d2 e0 e1 e2 k0 k1 k2; obtain ⟨⟨c0, c1, c2⟩, ⟨d0, d1, d2⟩, ⟨e0, e1, e2⟩, ⟨k0, k1, k2⟩, hBm⟩ := bx3 Bm)
      | (go_at_call 41; refine (hP _ (hr2.below bm) (hs2.below bm)).mono ?_; rintro e wp ⟨⟨zn, zm, ze⟩, zo, zc, rfl, hv, hzl, hbk, up, bp⟩; have Bp := Bm.trans (bp.mono Bm.size); clear c0 c1 c2 d0 d1 d2 e0 e1 e2 k0 k1 k2; obtain ⟨⟨c0, c1, c2⟩, ⟨d0, d1, d2⟩, ⟨e0, e1, e2⟩, ⟨k0, k1, k2⟩, hBp⟩ := bx3 Bp))
  clear c0 c1 c2 d0 d1 d2
  go_wp2
  refine bodyPost_ret (v := .agg #[.bool zn, .slice zo zm.length zc, .int .i64 ze]) (by simp [results, Tryz.results111, go_sem, e0, e1, e2]) rfl ⟨⟨zn, zm, ze⟩, zo, zc, rfl, hv, hzl.1, ?_, ((hBp.setCell (by simp; omega) _).setCell (by simp; omega) _).setCell (by simp; omega) _⟩
  have hne : ∀ x off, zo = some ⟨x, off, none⟩ → zm.length ≠ 0 → x ≠ w.heap.size + 1 + 1 := fun x off e hl => by
    have hs2 := Bm.size
    simp at hs2
    rcases hbk w.heap.size q1 q2 _ e hl with h | h
    · show x ≠ _
      have h' : x < w.heap.size := h
      omega
    · show x ≠ _
      have h' : wm.heap.size ≤ x := h
      omega
  exact ⟨((up.1.setCell _ hne).setCell _ hne).setCell _ hne, up.2⟩
theorem less_any (x y : Dy) (ao bo : Option Addr) (cap bcap : Nat) (w : World) (hr : NS w ao cap x.mag) (hs : NS w bo bcap y.mag) (hL : Lm x.mag) (hM : Lm y.mag) (hn : x.mag.length ≤ 1000000) (hm : y.mag.length ≤ 1000000) (_hza : vl x.mag ≠ 0) (_hzb : vl y.mag ≠ 0) (hx1 : -65536 ≤ x.exp) (hx2 : x.exp ≤ 65536) (hy1 : -65536 ≤ y.exp) (hy2 : y.exp ≤ 65536) :
    Calls Tryz.prog 111 #[.agg #[.bool x.neg, .slice ao x.mag.length cap, .int .i64 x.exp], .agg #[.bool y.neg, .slice bo y.mag.length bcap, .int .i64 y.exp]] w fun e w' => ∃ z zo c, e = .returned (.agg #[.bool z.neg, .slice zo z.mag.length c, .int .i64 z.exp]) ∧ PlusV x ⟨!y.neg, y.mag, y.exp⟩ z ∧ z.mag.length ≤ 3000000 ∧ NS w' zo c z.mag ∧ Below w.heap.size w w' := by
  refine (less_blk x y ao bo cap bcap w hr hs hL hM hn hm hx1 hx2 hy1 hy2).mono ?_
  rintro e w' ⟨z, zo, c, h1, h2, h3, h4⟩
  exact ⟨z, zo, c, h1, h2, by omega, h4⟩
end Go.Proofs.YtflbglbhmdpmoaaGreatDoor

namespace Go.Proofs.YtflbglbhmdpmoaaGreatDoor
open Go.RowKit

theorem sg_of {a b : Int} (h : a < b) : sgI (a - b) = -1 := by unfold sgI; rw [if_pos (by omega)]
theorem sg_of' {a b : Int} (h : b < a) : sgI (a - b) = 1 := by unfold sgI; rw [if_neg (by omega), if_neg (by omega)]
theorem qd_pos {d : Dy} : (0 < sv d → 0 < qd d) ∧ (sv d < 0 → qd d < 0) ∧ (sv d = 0 → qd d = 0) := by
  have hp := pow_pos_int (d.exp + 65536).toNat
  unfold qd
  exact ⟨fun h => Int.mul_pos h hp, fun h => Int.mul_neg_of_neg_of_pos h hp, fun h => by rw [h, Int.zero_mul]⟩
theorem sgI_range (x : Int) : -1 ≤ sgI x ∧ sgI x ≤ 1 := by unfold sgI; split <;> (try split) <;> omega
theorem cmp_signs {x y : Dy} : (sgI (sv x) < sgI (sv y) → sgI (qd x - qd y) = -1) ∧ (sgI (sv y) < sgI (sv x) → sgI (qd x - qd y) = 1) ∧ (sgI (sv x) = 0 → sgI (sv y) = 0 → sgI (qd x - qd y) = 0) := by
  obtain ⟨p1, p2, p3⟩ := qd_pos (d := x)
  obtain ⟨q1, q2, q3⟩ := qd_pos (d := y)
  have hx : (sgI (sv x) = -1 ∧ sv x < 0) ∨ (sgI (sv x) = 0 ∧ sv x = 0) ∨ (sgI (sv x) = 1 ∧ 0 < sv x) := by unfold sgI; split <;> (try split) <;> omega
  have hy : (sgI (sv y) = -1 ∧ sv y < 0) ∨ (sgI (sv y) = 0 ∧ sv y = 0) ∨ (sgI (sv y) = 1 ∧ 0 < sv y) := by unfold sgI; split <;> (try split) <;> omega
  rcases hx with ⟨e1, h1⟩ | ⟨e1, h1⟩ | ⟨e1, h1⟩ <;> rcases hy with ⟨e2, h2⟩ | ⟨e2, h2⟩ | ⟨e2, h2⟩ <;> rw [e1, e2] <;>
    refine ⟨fun h => ?_, fun h => ?_, fun h g => ?_⟩ <;> first
    | omega
    | (apply sg_of; first | (have := p1 h1; have := q1 h2; omega) | (have := p1 h1; have := q2 h2; omega) | (have := p1 h1; have := q3 h2; omega) | (have := p2 h1; have := q1 h2; omega) | (have := p2 h1; have := q3 h2; omega) | (have := p3 h1; have := q1 h2; omega))
    | (apply sg_of'; first | (have := p1 h1; have := q2 h2; omega) | (have := p1 h1; have := q3 h2; omega) | (have := p3 h1; have := q2 h2; omega))
    | (have a := p3 h1; have b := q3 h2; rw [a, b]; rfl)
theorem cmp_tops {x y : Dy} (hx : vl x.mag ≠ 0) (hy : vl y.mag ≠ 0) (h1 : -65536 ≤ x.exp) (h2 : -65536 ≤ y.exp) (hs : sgI (sv x) = sgI (sv y)) (ht : x.exp + (bl (vl x.mag) : Int) < y.exp + (bl (vl y.mag) : Int)) : sgI (qd x - qd y) = -sgI (sv x) ∧ sgI (qd y - qd x) = sgI (sv x) := by
  have bx := (bl_spec hx).2.1
  have by_ := (bl_spec hy).1
  have bp := bl_pos hy
  have key : vl x.mag * 2 ^ (x.exp + 65536).toNat < vl y.mag * 2 ^ (y.exp + 65536).toNat := by
    calc vl x.mag * 2 ^ (x.exp + 65536).toNat < 2 ^ bl (vl x.mag) * 2 ^ (x.exp + 65536).toNat := (Nat.mul_lt_mul_right (Nat.two_pow_pos _)).2 bx
      _ = 2 ^ (bl (vl x.mag) + (x.exp + 65536).toNat) := by rw [← Nat.pow_add]
      _ ≤ 2 ^ (bl (vl y.mag) - 1 + (y.exp + 65536).toNat) := Nat.pow_le_pow_right (by omega) (by omega)
      _ = 2 ^ (bl (vl y.mag) - 1) * 2 ^ (y.exp + 65536).toNat := by rw [Nat.pow_add]
      _ ≤ vl y.mag * 2 ^ (y.exp + 65536).toNat := Nat.mul_le_mul_right _ by_
  have k2 : (vl x.mag : Int) * 2 ^ (x.exp + 65536).toNat < (vl y.mag : Int) * 2 ^ (y.exp + 65536).toNat := by
    rw [← up_cast, ← up_cast]; omega
  have k0 : 0 ≤ (vl x.mag : Int) * 2 ^ (x.exp + 65536).toNat := Int.mul_nonneg (by omega) (Int.le_of_lt (pow_pos_int _))
  have qx : qd x = if x.neg then -((vl x.mag : Int) * 2 ^ (x.exp + 65536).toNat) else (vl x.mag : Int) * 2 ^ (x.exp + 65536).toNat := by
    unfold qd sv; cases x.neg <;> simp [Int.neg_mul]
  have qy : qd y = if y.neg then -((vl y.mag : Int) * 2 ^ (y.exp + 65536).toNat) else (vl y.mag : Int) * 2 ^ (y.exp + 65536).toNat := by
    unfold qd sv; cases y.neg <;> simp [Int.neg_mul]
  have sx : sgI (sv x) = if x.neg then -1 else 1 := by unfold sgI sv; cases x.neg <;> simp <;> omega
  have sy : sgI (sv y) = if y.neg then -1 else 1 := by unfold sgI sv; cases y.neg <;> simp <;> omega
  rw [sx, sy] at hs
  rw [qx, qy, sx]
  generalize (vl x.mag : Int) * 2 ^ (x.exp + 65536).toNat = P at *
  generalize (vl y.mag : Int) * 2 ^ (y.exp + 65536).toNat = Q at *
  cases hnx : x.neg <;> cases hny : y.neg <;> rw [hnx, hny] at hs <;> simp only [Bool.false_eq_true, if_false, if_true] at hs ⊢
  · exact ⟨sg_of k2, sg_of' k2⟩
  · omega
  · omega
  · exact ⟨sg_of' (by omega), sg_of (by omega)⟩
/-- The two boxes that Compare lays. -/
def W2 (w : World) (n1 n2 : Bool) (xs ys : List Nat) (ao bo : Option Addr) (cap bcap : Nat) (ex ey : Int) : World := (w.alloc (.cells #[.bool n1, .slice ao xs.length cap, .int .i64 ex] 53)).alloc (.cells #[.bool n2, .slice bo ys.length bcap, .int .i64 ey] 53)
theorem plus_cmp {x y z : Dy} (h1 : -65536 ≤ x.exp) (h2 : -65536 ≤ y.exp) (h : PlusV x ⟨!y.neg, y.mag, y.exp⟩ z) : sgI (sv z) = sgI (qd x - qd y) := by
  obtain ⟨_, he, hv⟩ := h
  have e := hv (-65536) h1 (by simp only; omega)
  have sy : sv ⟨!y.neg, y.mag, y.exp⟩ = -sv y := by unfold sv; cases y.neg <;> simp
  rw [sy] at e
  simp only at e
  have e2 : sv z * 2 ^ (z.exp - -65536).toNat = qd x - qd y := by
    rw [e, Int.neg_mul]; rfl
  rw [← e2, sg_mul]
set_option maxHeartbeats 4000000 in
theorem compare_any (x y : Dy) (ao bo : Option Addr) (cap bcap : Nat) (w : World) (hr : NS w ao cap x.mag) (hs : NS w bo bcap y.mag) (hL : Lm x.mag) (hM : Lm y.mag) (hn : x.mag.length ≤ 1000000) (hm : y.mag.length ≤ 1000000) (hx1 : -65536 ≤ x.exp) (hx2 : x.exp ≤ 65536) (hy1 : -65536 ≤ y.exp) (hy2 : y.exp ≤ 65536) :
    Calls Tryz.prog 78 #[.agg #[.bool x.neg, .slice ao x.mag.length cap, .int .i64 x.exp], .agg #[.bool y.neg, .slice bo y.mag.length bcap, .int .i64 y.exp]] w fun e w' => e = .returned (.int .i64 (sgI (qd x - qd y))) ∧ Below w.heap.size w w' := by
  have hSx := fun w' (h : NS w' ao cap x.mag) => nsign_any x ao cap w' h hL (by omega)
  have hSy := fun w' (h : NS w' bo bcap y.mag) => nsign_any y bo bcap w' h hM (by omega)
  have hTx := fun w' (h : NS w' ao cap x.mag) => ntop_any x ao cap w' h hL (by omega) (by omega)
  have hTy := fun w' (h : NS w' bo bcap y.mag) => ntop_any y bo bcap w' h hM (by omega) (by omega)
  have hP := fun w' (h1 : NS w' ao cap x.mag) (h2 : NS w' bo bcap y.mag) hza hzb => less_any x y ao bo cap bcap w' h1 h2 hL hM hn hm hza hzb hx1 hx2 hy1 hy2
  have HZ : Hid (∀ z, PlusV x ⟨!y.neg, y.mag, y.exp⟩ z → sgI (sv z) = sgI (qd x - qd y)) := fun z h => plus_cmp hx1 hy1 h
  obtain ⟨C1, C2, C3⟩ := cmp_signs (x := x) (y := y)
  have hbx := sgI_range (sv x)
  have hby := sgI_range (sv y)
  have D1 := fun h1 h2 hs ht => (cmp_tops (x := x) (y := y) h1 h2 hx1 hy1 hs ht).1
  have D2 := fun h1 h2 hs ht => (cmp_tops (x := y) (y := x) h1 h2 hy1 hx1 hs ht).2
  have hnz : ∀ d : Dy, sgI (sv d) ≠ 0 → vl d.mag ≠ 0 := fun d h e => h (by rw [sv_zero e]; rfl)
  have nzx := hnz x
  have nzy := hnz y
  clear hnz
  obtain ⟨g, hg⟩ : ∃ g, sgI (qd x - qd y) = g := ⟨_, rfl⟩
  rw [hg] at C1 C2 C3 HZ ⊢
  have D1' : vl x.mag ≠ 0 → vl y.mag ≠ 0 → sgI (sv x) = sgI (sv y) → x.exp + (bl (vl x.mag) : Int) < y.exp + (bl (vl y.mag) : Int) → g = -sgI (sv x) := fun h1 h2 hs ht => by rw [← hg]; exact D1 h1 h2 hs ht
  have D2' : vl x.mag ≠ 0 → vl y.mag ≠ 0 → sgI (sv x) = sgI (sv y) → y.exp + (bl (vl y.mag) : Int) < x.exp + (bl (vl x.mag) : Int) → g = sgI (sv x) := fun h1 h2 hs ht => by rw [← hg, D2 h2 h1 hs.symm ht, hs]
  clear D1 D2 hg
  obtain ⟨tx, htx⟩ : ∃ tx, x.exp + (bl (vl x.mag) : Int) = tx := ⟨_, rfl⟩
  obtain ⟨ty, hty⟩ : ∃ ty, y.exp + (bl (vl y.mag) : Int) = ty := ⟨_, rfl⟩
  rw [htx] at hTx D1' D2'
  rw [hty] at hTy D1' D2'
  obtain ⟨a, ha⟩ : ∃ a, sgI (sv x) = a := ⟨_, rfl⟩
  obtain ⟨b, hb⟩ : ∃ b, sgI (sv y) = b := ⟨_, rfl⟩
  rw [ha] at hSx C1 C2 C3 D1' D2' hbx nzx
  rw [hb] at hSy C1 C2 C3 D1' D2' hby nzy
  clear htx hty ha hb
  obtain ⟨n1, xs, ex⟩ := x
  obtain ⟨n2, ys, ey⟩ := y
  simp only at *
  go_enter Tryz.func78, Tryz.ntmps78
  go_upto_region 1 with fail
  go_cut [7, 8, 9, 10, 5, 6] (fun _ _ _ _ s5 s6 wx => s5 = .int .i64 a ∧ s6 = .int .i64 b ∧ Below (W2 w n1 n2 xs ys ao bo cap bcap ex ey).heap.size (W2 w n1 n2 xs ys ao bo cap bcap ex ey) wx)
  case first =>
    as_aux_lemma =>
      have base : Below (W2 w n1 n2 xs ys ao bo cap bcap ex ey).heap.size (W2 w n1 n2 xs ys ao bo cap bcap ex ey) (W2 w n1 n2 xs ys ao bo cap bcap ex ey) := Below.refl _ _
      obtain ⟨⟨c0, c1, c2⟩, ⟨d0, d1, d2⟩, _⟩ := box2 base
      clear D1' D2' C1 C2 C3 HZ
      go_region_held3 (fun w' => w'.cell? ⟨w.heap.size, 0, none⟩ = some (.bool n1) ∧ w'.cell? ⟨w.heap.size, 1, none⟩ = some (.slice ao xs.length cap) ∧ w'.cell? ⟨w.heap.size, 2, none⟩ = some (.int .i64 ex) ∧ w'.cell? ⟨w.heap.size + 1, 0, none⟩ = some (.bool n2) ∧ w'.cell? ⟨w.heap.size + 1, 1, none⟩ = some (.slice bo ys.length bcap) ∧ w'.cell? ⟨w.heap.size + 1, 2, none⟩ = some (.int .i64 ey)) (go_keep)
        (first
          | (go_at_call_of 74 (Value.agg #[.bool n1, .slice ao xs.length cap, .int .i64 ex]); refine (hSx _ (hr.below (box2_old base).drew)).mono ?_; rintro e wa ⟨rfl, ba⟩; have Ba := base.trans ((undrew ba).mono base.size); clear c0 c1 c2 d0 d1 d2; obtain ⟨⟨c0, c1, c2⟩, ⟨d0, d1, d2⟩, _⟩ := box2 Ba)
          | (go_at_call_of 74 (Value.agg #[.bool n2, .slice bo ys.length bcap, .int .i64 ey]); refine (hSy _ (hs.below (box2_old Ba))).mono ?_; rintro e wb ⟨rfl, bb⟩; have Bb := Ba.trans (bb.mono Ba.size); clear c0 c1 c2 d0 d1 d2; obtain ⟨⟨c0, c1, c2⟩, ⟨d0, d1, d2⟩, _⟩ := box2 Bb))
      go_wp2
      go_meet
      exact ⟨rfl, rfl, Bb⟩
  obtain ⟨rfl, rfl, B1⟩ := hcut
  obtain ⟨wq, hwq⟩ : ∃ wq, wq = wc := ⟨_, rfl⟩
  subst hwq
  obtain ⟨⟨c0, c1, c2⟩, ⟨d0, d1, d2⟩, _⟩ := box2 B1
  by_cases h1 : a < b
  · have HE : Hid (g = -1) := C1 h1
    clear C1 C2 C3 D1' D2' HZ nzx nzy
    go_wp2
    go_ret
    exact ⟨retI HE.out.symm, box2_old B1⟩
  · by_cases h2 : b < a
    · have HE : Hid (g = 1) := C2 h2
      clear C1 C2 C3 D1' D2' HZ nzx nzy
      go_wp2
      go_ret
      exact ⟨retI HE.out.symm, box2_old B1⟩
    · obtain rfl : a = b := by omega
      by_cases h0 : a = 0
      · have HE : Hid (g = 0) := C3 h0 h0
        have t2 : (a == 0) = true := by simpa using h0
        clear C1 C2 C3 D1' D2' HZ nzx nzy h0
        go_wp2
        go_ret
        exact ⟨retI HE.out.symm, box2_old B1⟩
      · have t2 : (a == 0) = false := by simpa using h0
        have zx := nzx h0
        have zy := nzy h0
        by_cases h4 : tx < ty
        · have HE : Hid (g = -a) := D1' zx zy rfl h4
          clear C1 C2 C3 D1' D2' nzx nzy zx zy HZ h0 hP
          go_wp2
          go_region_held3 (fun w' => w'.cell? ⟨w.heap.size, 0, none⟩ = some (.bool n1) ∧ w'.cell? ⟨w.heap.size, 1, none⟩ = some (.slice ao xs.length cap) ∧ w'.cell? ⟨w.heap.size, 2, none⟩ = some (.int .i64 ex) ∧ w'.cell? ⟨w.heap.size + 1, 0, none⟩ = some (.bool n2) ∧ w'.cell? ⟨w.heap.size + 1, 1, none⟩ = some (.slice bo ys.length bcap) ∧ w'.cell? ⟨w.heap.size + 1, 2, none⟩ = some (.int .i64 ey)) (go_keep)
            (first
              | (go_at_call_of 109 (Value.agg #[.bool n1, .slice ao xs.length cap, .int .i64 ex]); refine (hTx _ (hr.below (box2_old B1).drew)).mono ?_; rintro e wa2 ⟨rfl, ba⟩; have Ba := B1.trans ((undrew ba).mono B1.size); clear c0 c1 c2 d0 d1 d2; obtain ⟨⟨c0, c1, c2⟩, ⟨d0, d1, d2⟩, _⟩ := box2 Ba)
              | (go_at_call_of 109 (Value.agg #[.bool n2, .slice bo ys.length bcap, .int .i64 ey]); refine (hTy _ (hs.below (box2_old Ba))).mono ?_; rintro e wb2 ⟨rfl, bb⟩; have B2 := Ba.trans (bb.mono Ba.size); clear c0 c1 c2 d0 d1 d2; obtain ⟨⟨c0, c1, c2⟩, ⟨d0, d1, d2⟩, _⟩ := box2 B2))
          go_wp2
          go_ret
          exact ⟨retI (by rw [HE.out]), box2_old B2⟩
        · by_cases h5 : ty < tx
          · have HE : Hid (g = a) := D2' zx zy rfl h5
            clear C1 C2 C3 D1' D2' nzx nzy zx zy HZ h0 hP
            go_wp2
            go_region_held3 (fun w' => w'.cell? ⟨w.heap.size, 0, none⟩ = some (.bool n1) ∧ w'.cell? ⟨w.heap.size, 1, none⟩ = some (.slice ao xs.length cap) ∧ w'.cell? ⟨w.heap.size, 2, none⟩ = some (.int .i64 ex) ∧ w'.cell? ⟨w.heap.size + 1, 0, none⟩ = some (.bool n2) ∧ w'.cell? ⟨w.heap.size + 1, 1, none⟩ = some (.slice bo ys.length bcap) ∧ w'.cell? ⟨w.heap.size + 1, 2, none⟩ = some (.int .i64 ey)) (go_keep)
              (first
                | (go_at_call_of 109 (Value.agg #[.bool n1, .slice ao xs.length cap, .int .i64 ex]); refine (hTx _ (hr.below (box2_old B1).drew)).mono ?_; rintro e wa2 ⟨rfl, ba⟩; have Ba := B1.trans ((undrew ba).mono B1.size); clear c0 c1 c2 d0 d1 d2; obtain ⟨⟨c0, c1, c2⟩, ⟨d0, d1, d2⟩, _⟩ := box2 Ba)
                | (go_at_call_of 109 (Value.agg #[.bool n2, .slice bo ys.length bcap, .int .i64 ey]); refine (hTy _ (hs.below (box2_old Ba))).mono ?_; rintro e wb2 ⟨rfl, bb⟩; have B2 := Ba.trans (bb.mono Ba.size); clear c0 c1 c2 d0 d1 d2; obtain ⟨⟨c0, c1, c2⟩, ⟨d0, d1, d2⟩, _⟩ := box2 B2))
            go_wp2
            go_region_held3 (fun w' => w'.cell? ⟨w.heap.size, 0, none⟩ = some (.bool n1) ∧ w'.cell? ⟨w.heap.size, 1, none⟩ = some (.slice ao xs.length cap) ∧ w'.cell? ⟨w.heap.size, 2, none⟩ = some (.int .i64 ex) ∧ w'.cell? ⟨w.heap.size + 1, 0, none⟩ = some (.bool n2) ∧ w'.cell? ⟨w.heap.size + 1, 1, none⟩ = some (.slice bo ys.length bcap) ∧ w'.cell? ⟨w.heap.size + 1, 2, none⟩ = some (.int .i64 ey)) (go_keep)
              (first
                | (go_at_call_of 109 (Value.agg #[.bool n1, .slice ao xs.length cap, .int .i64 ex]); refine (hTx _ (hr.below (box2_old B2).drew)).mono ?_; rintro e wa3 ⟨rfl, ba⟩; have Ba := B2.trans ((undrew ba).mono B2.size); clear c0 c1 c2 d0 d1 d2; obtain ⟨⟨c0, c1, c2⟩, ⟨d0, d1, d2⟩, _⟩ := box2 Ba)
                | (go_at_call_of 109 (Value.agg #[.bool n2, .slice bo ys.length bcap, .int .i64 ey]); refine (hTy _ (hs.below (box2_old Ba))).mono ?_; rintro e wb3 ⟨rfl, bb⟩; have B3 := Ba.trans (bb.mono Ba.size); clear c0 c1 c2 d0 d1 d2; obtain ⟨⟨c0, c1, c2⟩, ⟨d0, d1, d2⟩, _⟩ := box2 B3))
            go_wp2
            go_ret
            exact ⟨retI (by rw [HE.out]), box2_old B3⟩
          · have hP := fun w' p q => hP w' p q zx zy
            clear C1 C2 C3 D1' D2' nzx nzy zx zy h0
            go_wp2
            go_region_held3 (fun w' => w'.cell? ⟨w.heap.size, 0, none⟩ = some (.bool n1) ∧ w'.cell? ⟨w.heap.size, 1, none⟩ = some (.slice ao xs.length cap) ∧ w'.cell? ⟨w.heap.size, 2, none⟩ = some (.int .i64 ex) ∧ w'.cell? ⟨w.heap.size + 1, 0, none⟩ = some (.bool n2) ∧ w'.cell? ⟨w.heap.size + 1, 1, none⟩ = some (.slice bo ys.length bcap) ∧ w'.cell? ⟨w.heap.size + 1, 2, none⟩ = some (.int .i64 ey)) (go_keep)
              (first
                | (go_at_call_of 109 (Value.agg #[.bool n1, .slice ao xs.length cap, .int .i64 ex]); refine (hTx _ (hr.below (box2_old B1).drew)).mono ?_; rintro e wa2 ⟨rfl, ba⟩; have Ba := B1.trans ((undrew ba).mono B1.size); clear c0 c1 c2 d0 d1 d2; obtain ⟨⟨c0, c1, c2⟩, ⟨d0, d1, d2⟩, _⟩ := box2 Ba)
                | (go_at_call_of 109 (Value.agg #[.bool n2, .slice bo ys.length bcap, .int .i64 ey]); refine (hTy _ (hs.below (box2_old Ba))).mono ?_; rintro e wb2 ⟨rfl, bb⟩; have B2 := Ba.trans (bb.mono Ba.size); clear c0 c1 c2 d0 d1 d2; obtain ⟨⟨c0, c1, c2⟩, ⟨d0, d1, d2⟩, _⟩ := box2 B2))
            go_wp2
            go_region_held3 (fun w' => w'.cell? ⟨w.heap.size, 0, none⟩ = some (.bool n1) ∧ w'.cell? ⟨w.heap.size, 1, none⟩ = some (.slice ao xs.length cap) ∧ w'.cell? ⟨w.heap.size, 2, none⟩ = some (.int .i64 ex) ∧ w'.cell? ⟨w.heap.size + 1, 0, none⟩ = some (.bool n2) ∧ w'.cell? ⟨w.heap.size + 1, 1, none⟩ = some (.slice bo ys.length bcap) ∧ w'.cell? ⟨w.heap.size + 1, 2, none⟩ = some (.int .i64 ey)) (go_keep)
              (first
                | (go_at_call_of 109 (Value.agg #[.bool n1, .slice ao xs.length cap, .int .i64 ex]); refine (hTx _ (hr.below (box2_old B2).drew)).mono ?_; rintro e wa3 ⟨rfl, ba⟩; have Ba := B2.trans ((undrew ba).mono B2.size); clear c0 c1 c2 d0 d1 d2; obtain ⟨⟨c0, c1, c2⟩, ⟨d0, d1, d2⟩, _⟩ := box2 Ba)
                | (go_at_call_of 109 (Value.agg #[.bool n2, .slice bo ys.length bcap, .int .i64 ey]); refine (hTy _ (hs.below (box2_old Ba))).mono ?_; rintro e wb3 ⟨rfl, bb⟩; have B3 := Ba.trans (bb.mono Ba.size); clear c0 c1 c2 d0 d1 d2; obtain ⟨⟨c0, c1, c2⟩, ⟨d0, d1, d2⟩, _⟩ := box2 B3))
            go_wp2_with (first
              | (go_at_call 111; refine (hP _ (hr.below (box2_old B3)) (hs.below (box2_old B3))).mono ?_; rintro e wp ⟨⟨zn, zm, ze⟩, zo, zc, rfl, hv, hzl, up, bp⟩; have Bp := B3.trans (bp.mono B3.size))
              | (go_at_call 74; refine (nsign_any ⟨zn, zm, ze⟩ zo zc _ up hv.1 (by simp only at hzl ⊢; omega)).mono ?_; rw [HZ.out _ hv]; rintro e ws ⟨rfl, bs⟩; have Bs := Bp.trans (bs.mono Bp.size)))
            go_ret
            exact ⟨rfl, box2_old Bs⟩
end Go.Proofs.YtflbglbhmdpmoaaGreatDoor

namespace Go.Proofs.YtflbglbhmdpmoaaGreatDoor
open Go.RowKit

theorem fbox {w w1 : World} {x0 x1 x2 : Value} {s : TypeId} (hb : Below (w.alloc (.cells #[x0, x1, x2] s)).heap.size (w.alloc (.cells #[x0, x1, x2] s)) w1) :
    (w1.cell? ⟨w.heap.size, 0, none⟩ = some x0 ∧ w1.cell? ⟨w.heap.size, 1, none⟩ = some x1 ∧ w1.cell? ⟨w.heap.size, 2, none⟩ = some x2) ∧
    (w1.frozen? ⟨w.heap.size, 0, none⟩ = false ∧ w1.frozen? ⟨w.heap.size, 1, none⟩ = false ∧ w1.frozen? ⟨w.heap.size, 2, none⟩ = false) ∧ Below w.heap.size w w1 := by
  have h := fun (o : Nat) => hb.cell (p := ⟨w.heap.size, o, none⟩) (by simp)
  have g := fun (o : Nat) => hb.frozen (p := ⟨w.heap.size, o, none⟩) (by simp)
  refine ⟨⟨?_, ?_, ?_⟩, ⟨?_, ?_, ?_⟩, ((Below.refl _ _).alloc (Nat.le_refl _) _).trans (hb.mono (by go_simp))⟩
  · rw [h]; simp [go_sem]
  · rw [h]; simp [go_sem]
  · rw [h]; simp [go_sem]
  · rw [g]; simp [go_sem]
  · rw [g]; simp [go_sem]
  · rw [g]; simp [go_sem]
theorem top_bit {x : Nat} (hx : x < 18446744073709551616) : ((x : Int) / 9223372036854775808 == 1) = sgn x := by
  unfold sgn
  rw [Bool.eq_iff_iff]; simp; omega
theorem low_bits (x : Nat) : (x : Int).tmod 4503599627370496 = (frc x : Int) := by
  rw [Int.tmod_eq_emod_of_nonneg (by omega)]
  unfold frc rung; omega
theorem flt_parts {x : Nat} : (rung x / 4503599627370496 = 0 → mg (rung x) = frc x ∧ up (rung x) = 0) ∧ (rung x / 4503599627370496 ≠ 0 → mg (rung x) = frc x + 4503599627370496 ∧ up (rung x) = rung x / 4503599627370496 - 1) := by
  refine ⟨fun h => ?_, fun h => ?_⟩
  · unfold mg up frc
    rw [if_pos (by omega), if_pos (by omega)]
    exact ⟨by omega, rfl⟩
  · unfold mg up frc
    rw [if_neg (by omega), if_neg (by omega)]
    exact ⟨by omega, rfl⟩
set_option maxRecDepth 100000 in
set_option maxHeartbeats 1000000 in
theorem float00_any (x : Nat) (hx : x < 18446744073709551616) (w : World) :
    Calls Tryz.prog 67 #[.float .f64 x] w (GaveM w ⟨sgn x, lo (mg (rung x)), -1074 + (up (rung x) : Int)⟩) := by
  have fb := run_fbits x
  have he := expo_wrap hx
  have hm := low_bits x
  have ht := top_bit hx
  have hf : frc x < 4503599627370496 := by unfold frc; omega
  obtain ⟨p1, p2⟩ := flt_parts (x := x)
  have er := expo_rung hx
  by_cases h0 : rung x / 4503599627370496 = 0
  · obtain ⟨m1, u1⟩ := p1 h0
    rw [m1, u1]
    have hz : ((expo x : Int) == 0) = true := by rw [er, h0]; rfl
    have hN := fun w => natOf_any (frc x) (by omega) w
    clear p1 p2 er h0 m1 u1
    go_enter Tryz.func67, Tryz.ntmps67
    go_wp2_with (go_at_call 102; refine (hN _).mono ?_; rintro e w1 ⟨ao, cap, rfl, r1, f1, b1⟩; obtain ⟨⟨c0, c1, c2⟩, ⟨g0, g1, g2⟩, B1⟩ := fbox b1)
    refine bodyPost_ret (v := .agg #[.bool (sgn x), .slice ao (lo (frc x)).length cap, .int .i64 (-1074)]) (by simp [results, Tryz.results67, go_sem, c0, c1, c2]) rfl ⟨ao, cap, rfl, ?_, f1.mono (by simp), ((B1.setCell (Nat.le_refl _) _).setCell (Nat.le_refl _) _).setCell (Nat.le_refl _) _⟩
    have hfr : Frs (w.heap.size + 1) ao := f1.mono (by simp)
    exact ⟨((r1.1.box hfr (by omega) _ _).box hfr (by omega) _ _).box hfr (by omega) _ _, r1.2⟩
  · obtain ⟨m1, u1⟩ := p2 h0
    rw [m1, u1]
    have hz : ((expo x : Int) == 0) = false := by rw [er]; simp; omega
    have hN := fun w => natOf_any (frc x + 4503599627370496) (by omega) w
    have hc : ((frc x + 4503599627370496 : Nat) : Int) = (frc x : Int) + 4503599627370496 := by omega
    have hlt : rung x / 4503599627370496 < 2048 := by have := rung_lt x; omega
    have hx2 : -1074 + ((rung x / 4503599627370496 - 1 : Nat) : Int) = (expo x : Int) - 1075 := by rw [er]; omega
    rw [hx2]
    rw [hc] at hN
    have hel : expo x < 2048 := by rw [er]; exact hlt
    clear p1 p2 er h0 m1 u1 hx2 hlt hc
    go_enter Tryz.func67, Tryz.ntmps67
    go_wp2_with (go_at_call 102; refine (hN _).mono ?_; rintro e w1 ⟨ao, cap, rfl, r1, f1, b1⟩; obtain ⟨⟨c0, c1, c2⟩, ⟨g0, g1, g2⟩, B1⟩ := fbox b1)
    refine bodyPost_ret (v := .agg #[.bool (sgn x), .slice ao (lo (frc x + 4503599627370496)).length cap, .int .i64 ((expo x : Int) - 1075)]) (by simp [results, Tryz.results67, go_sem, c0, c1, c2]) rfl ⟨ao, cap, rfl, ?_, f1.mono (by simp), ((B1.setCell (Nat.le_refl _) _).setCell (Nat.le_refl _) _).setCell (Nat.le_refl _) _⟩
    have hfr : Frs (w.heap.size + 1) ao := f1.mono (by simp)
    exact ⟨((r1.1.box hfr (by omega) _ _).box hfr (by omega) _ _).box hfr (by omega) _ _, r1.2⟩
end Go.Proofs.YtflbglbhmdpmoaaGreatDoor

namespace Go.Proofs.YtflbglbhmdpmoaaGreatDoor
open Go.RowKit

/-- A finite float's number. -/
def flD (x : Nat) : Dy := ⟨sgn x, lo (mg (rung x)), -1074 + (up (rung x) : Int)⟩
set_option maxHeartbeats 800000 in
theorem exact00_any (x : Nat) (hx : x < 18446744073709551616) (w : World) :
    Calls Tryz.prog 40 #[.float .f64 x] w (GaveM w (flD x)) := by
  have hF := fun w => float00_any x hx w
  rw [show (⟨sgn x, lo (mg (rung x)), -1074 + (up (rung x) : Int)⟩ : Dy) = flD x from rfl] at hF
  generalize flD x = d at *
  obtain ⟨n, ms, e⟩ := d
  go_enter Tryz.func40, Tryz.ntmps40
  go_wp2_with (go_at_call 67; refine (hF _).mono ?_; rintro e w1 ⟨ao, cap, rfl, r1, f1, b1⟩; obtain ⟨⟨c0, c1, c2⟩, ⟨g0, g1, g2⟩, B1⟩ := fbox b1)
  refine bodyPost_ret (v := .agg #[.bool n, .slice ao ms.length cap, .int .i64 e]) (by simp [results, Tryz.results40, go_sem, c0, c1, c2]) rfl ⟨ao, cap, rfl, ?_, f1.mono (by simp), ((B1.setCell (Nat.le_refl _) _).setCell (Nat.le_refl _) _).setCell (Nat.le_refl _) _⟩
  have hfr : Frs (w.heap.size + 1) ao := f1.mono (by simp)
  exact ⟨((r1.1.box hfr (by omega) _ _).box hfr (by omega) _ _).box hfr (by omega) _ _, r1.2⟩
def midB (x : Nat) : Bool := decide (553942754166571008 ≤ rung x ∧ rung x ≤ 8660422083433463808)
set_option maxHeartbeats 400000 in
theorem middle_any (x : Nat) (hx : x < 18446744073709551616) (hn : nanB x = false) (w : World) :
    Calls Tryz.prog 89 #[.float .f64 x] w fun e w' => e = .returned (.bool (midB x)) ∧ w' = w := by
  have hr : rung x ≤ 9218868437227405312 := by unfold nanB at hn; simpa using hn
  have HE : Hid (midB x = (decide (553942754166571008 ≤ rung x) && decide (rung x ≤ 8660422083433463808))) := by
    show _ = _
    unfold midB
    rw [Bool.decide_and]
  have o1 : (FloatKind.f64.format.order (rung x) 553942754166571008 == some .gt || FloatKind.f64.format.order (rung x) 553942754166571008 == some .eq) = decide (553942754166571008 ≤ rung x) := by
    rw [gt_num (by omega) (by omega) (nan_small (by omega)) (by decide), eq_num (by omega) (by omega) (nan_small (by omega)) (by decide), place_small (by omega), place_small (by omega), Bool.eq_iff_iff]
    simp; omega
  have o2 : (FloatKind.f64.format.order (rung x) 8660422083433463808 == some .lt || FloatKind.f64.format.order (rung x) 8660422083433463808 == some .eq) = decide (rung x ≤ 8660422083433463808) := by
    rw [lt_num (by omega) (by omega) (nan_small (by omega)) (by decide), eq_num (by omega) (by omega) (nan_small (by omega)) (by decide), place_small (by omega), place_small (by omega), Bool.eq_iff_iff]
    simp; omega
  have ca := abs_any x hx
  cases q1 : decide (553942754166571008 ≤ rung x) <;> rw [q1] at o1 <;> cases q2 : decide (rung x ≤ 8660422083433463808) <;> rw [q2] at o2 <;>
    (go_enter Tryz.func89, Tryz.ntmps89
     go_wp2_with (go_at_call 49; refine (ca _).mono ?_; rintro e w' ⟨rfl, rfl⟩)
     go_ret
     exact ⟨end_bool (by rw [HE.out, q1, q2]; rfl), rfl⟩)
end Go.Proofs.YtflbglbhmdpmoaaGreatDoor

namespace Go.Proofs.YtflbglbhmdpmoaaGreatDoor
open Go.RowKit

def pwH : Nat := 63388
def pwL : Nat := 64462
theorem mg_lt53 (r : Nat) : mg r < 9007199254740992 := by unfold mg; split <;> omega
theorem sv_fl (x : Nat) : sv (flD x) * 2 ^ up (rung x) = vI x := by
  have e : ((2 : Int) ^ up (rung x)) = ((2 ^ up (rung x) : Nat) : Int) := by push_cast; rfl
  unfold sv flD vI
  simp only
  rw [vl_lo, ← mg_up, e]
  cases sgn x <;> simp [Int.neg_mul]
theorem qd_fl (x : Nat) : qd (flD x) = vI x * 2 ^ pwL := by
  have e : ((flD x).exp + 65536).toNat = up (rung x) + pwL := by unfold flD pwL; simp only; omega
  unfold qd
  rw [e, Int.pow_add, ← Int.mul_assoc, sv_fl]
/-- The product of two floats' numbers. -/
def tmD (x y : Nat) : Dy := ⟨sgn x != sgn y, lo (vl (lo (mg (rung x))) * vl (lo (mg (rung y)))), -1074 + (up (rung x) : Int) + (-1074 + (up (rung y) : Int))⟩
theorem qd_tm (x y : Nat) : qd (tmD x y) = vI x * vI y * 2 ^ pwH := by
  have e : ((tmD x y).exp + 65536).toNat = up (rung x) + up (rung y) + pwH := by unfold tmD pwH; simp only; omega
  unfold qd
  rw [e, Int.pow_add, ← Int.mul_assoc, ← sv_fl x, ← sv_fl y]
  congr 1
  unfold sv tmD flD
  simp only [vl_lo]
  rw [Int.pow_add]
  generalize (2 : Int) ^ up (rung x) = P
  generalize (2 : Int) ^ up (rung y) = Q
  generalize mg (rung x) = a
  generalize mg (rung y) = b
  have hc : ((a * b : Nat) : Int) = (a : Int) * b := by push_cast; rfl
  rw [hc]
  cases sgn x <;> cases sgn y <;> simp [Int.neg_mul, Int.mul_neg] <;> ac_rfl
theorem vI_neg {x : Nat} (hx : x < 18446744073709551616) : vI (negW x) = -vI x := by
  obtain ⟨r1, r2⟩ := neg_rung hx
  unfold vI
  rw [r1, r2]
  cases sgn x <;> simp
theorem cmp_prod {a b q : Nat} (hq : q < 18446744073709551616) : sgI (qd (tmD a b) - qd (flD q)) = sgI (exX a b (negW q)) := by
  have e : qd (tmD a b) - qd (flD q) = exX a b (negW q) * 2 ^ pwH := by
    rw [qd_tm, qd_fl, exX_un (L := twP) rfl, vI_neg hq, show pwL = twP + pwH from rfl, Int.pow_add, Int.add_mul, Int.neg_mul, Int.neg_mul, ← Int.mul_assoc]
    omega
  rw [e, sg_mul]
theorem fl_len (x : Nat) : (lo (mg (rung x))).length ≤ 1000 := by
  rw [lo_length]
  refine Nat.le_trans (nl_le (n := 1) ?_) (by omega)
  have := mg_lt53 (rung x)
  omega
theorem tm_len (x y : Nat) : (lo (vl (lo (mg (rung x))) * vl (lo (mg (rung y))))).length ≤ 1000 := by
  rw [lo_length, vl_lo, vl_lo]
  refine Nat.le_trans (nl_le (n := 2) ?_) (by omega)
  have h1 := mg_lt53 (rung x)
  have h2 := mg_lt53 (rung y)
  have := Nat.mul_le_mul (Nat.le_of_lt h1) (Nat.le_of_lt h2)
  omega
theorem up_le46 {x : Nat} (hf : finB x = true) : up (rung x) ≤ 2046 := by
  have := fin_rung hf
  unfold up; split <;> omega
/-- side at a nought. -/
theorem side_zero (x : Nat) (r m : Int) (hx : x < 18446744073709551616) (h0 : rung x = 0) (w : World) :
    Calls Tryz.prog 77 #[.float .f64 x, .int .i64 r, .int .i8 m] w fun e w' => e = .returned (.float .f64 (sideR x r m)) ∧ w' = w := by
  have hn : nanB x = false := by unfold nanB; rw [h0]; rfl
  have hz := zero_ne hx
  have hz' : (rung x != 0) = false := by rw [h0]; rfl
  rw [hz'] at hz
  have HE : Hid (sideR x r m = if decide (r < 0) && (m == 1) then downR x else if decide (0 < r) && (m == 2) then upR x else x) := by
    show _ = _
    unfold sideR
    rw [hz']
    simp
  have cg := signbit_any x hx
  obtain ⟨s, hs⟩ : ∃ s, sgn x = s := ⟨_, rfl⟩
  rw [hs] at cg
  clear h0 hz' hs
  cases e1 : (m == 1) <;> cases e2 : (m == 2) <;> cases e3 : (m == 3) <;> cases s <;> by_cases h1 : r < 0 <;> by_cases h2 : 0 < r <;>
    first
    | (exfalso; simp at e1 e2 e3; omega)
    | (go_enter Tryz.func77, Tryz.ntmps77
       go_wp2_with (first
         | (go_at_call 87; refine (cg _).mono ?_; rintro e w' ⟨rfl, rfl⟩)
         | (go_at_call 115; refine (dup_any _ hx hn _).mono ?_; rintro e w' ⟨rfl, rfl⟩)
         | (go_at_call 114; refine (ddown_any _ hx hn _).mono ?_; rintro e w' ⟨rfl, rfl⟩))
       go_ret
       exact ⟨end_flt (by rw [HE.out]; simp [e1, e2, h1, h2]; try (intro _; omega)), rfl⟩)
theorem step_zero {x : Nat} (r m : Int) (hx : x < 18446744073709551616) (h0 : rung x = 0) (hr : r = if sgn x then -1 else 1) : stepF x r m = sideR x r m := by
  have h := rung_of x hx
  rw [h0] at h
  have c1 : cpy (nextF 0 true) 0 = 1 := by kernel_rfl
  have c2 : cpy (nextF 9223372036854775808 false) 9223372036854775808 = 9223372036854775809 := by kernel_rfl
  have c3 : upR 0 = 1 := by kernel_rfl
  have c4 : downR 9223372036854775808 = 9223372036854775809 := by kernel_rfl
  cases hs : sgn x <;> rw [hs] at h hr
  · have e : x = 0 := by simpa using h
    subst e
    rw [hr]
    unfold stepF sideR dnB upB
    simp [c1, c3, hs, h0]
  · have e : x = 9223372036854775808 := by simpa using h
    subst e
    rw [hr]
    unfold stepF sideR dnB upB
    simp [c2, c4, hs, h0]
end Go.Proofs.YtflbglbhmdpmoaaGreatDoor

namespace Go.Proofs.YtflbglbhmdpmoaaGreatDoor
open Go.RowKit

theorem dfin_all (a : Nat) (ha : a < 18446744073709551616) (w : World) :
    Calls Tryz.prog 53 #[.float .f64 a] w fun e w' => e = .returned (.bool (finB a)) ∧ Below w.heap.size w w' := by
  cases hf : finB a
  · refine (dfin_no a ha hf w).mono ?_
    rintro e w' ⟨rfl, rfl⟩
    exact ⟨rfl, (Below.refl _ _).drew⟩
  · refine (dfin_yes a ha hf w).mono ?_
    rintro e w' ⟨rfl, rfl⟩
    exact ⟨rfl, Below.refl _ _⟩
/-- What side answers at a finite float, by the sign of the exact number less it. -/
theorem side_all (x : Nat) (r m : Int) (hx : x < 18446744073709551616) (fx : finB x = true) (hr : rung x = 0 → r = if sgn x then -1 else 1) (w : World) :
    Calls Tryz.prog 77 #[.float .f64 x, .int .i64 r, .int .i8 m] w fun e w' => e = .returned (.float .f64 (stepF x r m)) ∧ w' = w := by
  have hf := fin_rung fx
  by_cases h0 : rung x = 0
  · rw [step_zero r m hx h0 (hr h0)]
    exact side_zero x r m hx h0 w
  · rw [step_side r m hx hf h0]
    exact side_any x r m hx (rung_nan (by omega)) h0 w
theorem mul_sgn {a b q : Nat} (ha : a < 18446744073709551616) (hb : b < 18446744073709551616) (sa : someB a = true) (sb : someB b = true) (hq : floatBits .mul .f64 a b = some q) (hql : q < 18446744073709551616) (h0 : rung q = 0) : sgI (exX a b (negW q)) = if sgn q then -1 else 1 := by
  obtain ⟨fa, a0⟩ := some_rung sa
  obtain ⟨fb, b0⟩ := some_rung sb
  have a0' : rung a ≠ 0 := by simpa using a0
  have b0' : rung b ≠ 0 := by simpa using b0
  have hs : sgn q = (sgn a ^^ sgn b) := by
    rw [(fbits_map a b).2.2.1, read_fin ha fa, read_fin hb fb] at hq
    simp only [Ieee.Datum.product, Option.map_some, Ieee.Format.write, Option.some.injEq] at hq
    obtain ⟨k, hk, e⟩ := nearest_bd (sgn a ^^ sgn b) (mg (rung a) * mg (rung b)) (-1074 + ((up (rung a) : Nat) : Int) + (-1074 + ((up (rung b) : Nat) : Int)))
    rw [← hq, e, (word_rung _ (show k < 9223372036854775808 by omega)).2]
  have vq : vI (negW q) = 0 := by
    rw [vI_neg hql]
    unfold vI
    rw [h0]
    cases sgn q <;> rfl
  have hv : ∀ r, r ≠ 0 → 0 < (val r : Int) := fun r h => by
    have := val_lt (show 0 < r by omega)
    rw [val_zero] at this
    omega
  rw [exX_un (L := twP) rfl, vq, Int.zero_mul, Int.add_zero, hs]
  unfold vI
  have va := hv _ a0'
  have vb := hv _ b0'
  have vab := Int.mul_pos va vb
  unfold sgI
  cases sgn a <;> cases sgn b <;> simp [Int.neg_mul, Int.mul_neg] <;> omega
set_option maxRecDepth 100000 in
set_option maxHeartbeats 2000000 in
theorem dmul_any (a b : Nat) (m : Int) (ha : a < 18446744073709551616) (hb : b < 18446744073709551616) (sa : someB a = true) (sb : someB b = true) (hq0 : floatBits .mul .f64 a b = some (pQ a b)) (w : World) :
    Calls Tryz.prog 52 #[.float .f64 a, .float .f64 b, .int .i8 m] w fun e w' => e = .returned (.float .f64 (stepF (pQ a b) (pS a b) m)) ∧ Below w.heap.size w w' := by
  have fa := (some_rung sa).1
  have fb := (some_rung sb).1
  have eS : pS a b = if finB (pQ a b) then sgI (exX a b (negW (pQ a b))) else if sgn (pQ a b) then 1 else -1 := rfl
  obtain ⟨q, hqe⟩ : ∃ q, pQ a b = q := ⟨_, rfl⟩
  rw [hqe] at hq0 eS ⊢
  rw [eS]
  obtain ⟨q1, q2⟩ := op_word (op := .mul) (Or.inr (Or.inr (Or.inl rfl))) hq0
  have nq : nanB q = false := rung_nan q2
  have h1 := fun w => run_float_arith (P := Tryz.prog) w .mul 26 .f64 _ _ _ hq0
  have hcv := conv64 q
  have ca := dfin_all a ha
  have cb := dfin_all b hb
  have cq := dfin_all q q1
  rw [fa] at ca
  rw [fb] at cb
  have za := zero_eq ha
  have zb := zero_eq hb
  rw [(some_rung sa).2] at za
  rw [(some_rung sb).2] at zb
  obtain ⟨r1, r2⟩ := neg_rung q1
  have hN := negW_lt q1
  cases fq : finB q <;> rw [fq] at cq
  · have iq : rung q = 9218868437227405312 := by unfold finB at fq; simp at fq; omega
    have cg := great_any q m q1 nq (by omega)
    rw [← step_great m q1 iq] at cg
    simp only [Bool.false_eq_true, if_false]
    generalize stepF q (if sgn q = true then 1 else -1) m = v at *
    clear hq0 eS hqe iq fq q2 r1 r2
    go_enter Tryz.func52, Tryz.ntmps52
    go_wp2_with (first
      | (go_at_call_of 53 (Value.float FloatKind.f64 a); refine (ca _).mono ?_; rintro e w1 ⟨rfl, b1⟩)
      | (go_at_call_of 53 (Value.float FloatKind.f64 b); refine (cb _).mono ?_; rintro e w2 ⟨rfl, b2⟩; have bz := b1.trans (b2.mono b1.size))
      | (go_at_call_of 53 (Value.float FloatKind.f64 q); refine (cq _).mono ?_; rintro e w3 ⟨rfl, b3⟩; have bz := bz.trans (b3.mono bz.size))
      | (go_at_call 76; refine (cg _).mono ?_; rintro e w' ⟨rfl, rfl⟩))
    go_ret
    exact ⟨rfl, bz⟩
  · simp only [if_true]
    have hsz : rung q = 0 → sgI (exX a b (negW q)) = if sgn q then -1 else 1 := fun h => mul_sgn ha hb sa sb hq0 q1 h
    have cside := side_all q (sgI (exX a b (negW q))) m q1 fq hsz
    have cm := middle_any q q1 nq
    cases hm : midB q <;> rw [hm] at cm
    · have eA := fun w => exact00_any a ha w
      have eB := fun w => exact00_any b hb w
      have eQ := fun w => exact00_any q q1 w
      have ua := up_le46 fa
      have ub := up_le46 fb
      have uq := up_le46 fq
      have hT := fun ao bo cap bcap w (p1 : NS w ao cap (flD a).mag) (p2 : NS w bo bcap (flD b).mag) => times_any (flD a) (flD b) ao bo cap bcap w p1 p2 (lo_lm _) (lo_lm _) (by have := fl_len a; unfold flD; simp only; omega) (by have := fl_len b; unfold flD; simp only; omega) (by unfold flD; simp only; omega) (by unfold flD; simp only; omega)
      have hC := fun ao bo cap bcap w (p1 : NS w ao cap (tmD a b).mag) (p2 : NS w bo bcap (flD q).mag) => compare_any (tmD a b) (flD q) ao bo cap bcap w p1 p2 (lo_lm _) (lo_lm _) (by have := tm_len a b; unfold tmD; simp only; omega) (by have := fl_len q; unfold flD; simp only; omega) (by unfold tmD; simp only; omega) (by unfold tmD; simp only; omega) (by unfold flD; simp only; omega) (by unfold flD; simp only; omega)
      rw [cmp_prod q1] at hC
      have etm : (⟨(flD a).neg != (flD b).neg, lo (vl (flD a).mag * vl (flD b).mag), (flD a).exp + (flD b).exp⟩ : Dy) = tmD a b := rfl
      rw [etm] at hT
      clear hq0 eS hqe fq q2 r1 r2 hsz ua ub uq etm
      generalize flD a = A at *
      generalize flD b = B at *
      generalize flD q = Q at *
      generalize tmD a b = T at *
      generalize sgI (exX a b (negW q)) = s at *
      go_enter Tryz.func52, Tryz.ntmps52
      go_wp2_with (first
        | (go_at_call_of 53 (Value.float FloatKind.f64 a); refine (ca _).mono ?_; rintro e w1 ⟨rfl, b1⟩)
        | (go_at_call_of 53 (Value.float FloatKind.f64 b); refine (cb _).mono ?_; rintro e w2 ⟨rfl, b2⟩; have bz := b1.trans (b2.mono b1.size))
        | (go_at_call_of 53 (Value.float FloatKind.f64 q); refine (cq _).mono ?_; rintro e w3 ⟨rfl, b3⟩; have bz := bz.trans (b3.mono bz.size))
        | (go_at_call 89; refine (cm _).mono ?_; rintro e w' ⟨rfl, rfl⟩)
        | (go_at_call_of 40 (Value.float FloatKind.f64 a); refine (eA _).mono ?_; rintro e w4 ⟨oa, na, rfl, n4, _, b4⟩; have bz := bz.trans (b4.mono bz.size))
        | (go_at_call_of 40 (Value.float FloatKind.f64 b); refine (eB _).mono ?_; rintro e w5 ⟨ob, nb, rfl, n5, _, b5⟩; have bz := bz.trans (b5.mono bz.size))
        | (go_at_call 42; refine (hT _ _ _ _ _ (n4.below b5) n5).mono ?_; rintro e w6 ⟨ot, nt, rfl, n6, _, b6⟩; have bz := bz.trans (b6.mono bz.size))
        | (go_at_call_of 40 (Value.float FloatKind.f64 q); refine (eQ _).mono ?_; rintro e w7 ⟨oq, nqq, rfl, n7, _, b7⟩; have bz := bz.trans (b7.mono bz.size))
        | (go_at_call 78; refine (hC _ _ _ _ _ (n6.below b7) n7).mono ?_; rintro e w8 ⟨rfl, b8⟩; have bz := bz.trans (b8.mono bz.size))
        | (go_at_call 77; refine (cside _).mono ?_; rintro e w' ⟨rfl, rfl⟩))
      go_ret
      exact ⟨rfl, bz⟩
    · obtain ⟨g1, g2⟩ : 553942754166571008 ≤ rung q ∧ rung q ≤ 8660422083433463808 := by unfold midB at hm; simpa using hm
      obtain ⟨f, hf⟩ := fma_told2 ha hb hN fa fb (by rw [r1]; exact q2)
      have hs := fma_sign ha hb hN fa fb ((neg_fin q1).trans fq) hf (exX_big (mul_places ha hb sa sb hq0 g1))
      have hfm := run_fma a b (negW q) f hf
      have csg := dsign_any f (fma_word hf).1
      rw [hs] at csg
      have hu := run_negf
      clear hq0 eS hqe fq q2 r1 r2 hsz hf hs g1 g2
      generalize sgI (exX a b (negW q)) = s at *
      go_enter Tryz.func52, Tryz.ntmps52
      go_wp2_with (first
        | (go_at_call_of 53 (Value.float FloatKind.f64 a); refine (ca _).mono ?_; rintro e w1 ⟨rfl, b1⟩)
        | (go_at_call_of 53 (Value.float FloatKind.f64 b); refine (cb _).mono ?_; rintro e w2 ⟨rfl, b2⟩; have bz := b1.trans (b2.mono b1.size))
        | (go_at_call_of 53 (Value.float FloatKind.f64 q); refine (cq _).mono ?_; rintro e w3 ⟨rfl, b3⟩; have bz := bz.trans (b3.mono bz.size))
        | (go_at_call 89; refine (cm _).mono ?_; rintro e w' ⟨rfl, rfl⟩)
        | (go_at_call 88; refine (csg _).mono ?_; rintro e w' ⟨rfl, rfl⟩)
        | (go_at_call 77; refine (cside _).mono ?_; rintro e w' ⟨rfl, rfl⟩))
      go_ret
      exact ⟨rfl, bz⟩
end Go.Proofs.YtflbglbhmdpmoaaGreatDoor

namespace Go.Proofs.YtflbglbhmdpmoaaGreatDoor
open Go.RowKit

theorem cmp_quot {a b q : Nat} (hq : q < 18446744073709551616) : sgI (qd (flD a) - qd (tmD q b)) = sgI (exX (negW q) b a) := by
  have e : qd (flD a) - qd (tmD q b) = exX (negW q) b a * 2 ^ pwH := by
    rw [qd_tm, qd_fl, exX_un (L := twP) rfl, vI_neg hq, show pwL = twP + pwH from rfl, Int.pow_add, Int.add_mul, Int.neg_mul, Int.neg_mul, ← Int.mul_assoc]
    omega
  rw [e, sg_mul]
theorem div_sgn {a b q : Nat} (ha : a < 18446744073709551616) (hb : b < 18446744073709551616) (sa : someB a = true) (sb : someB b = true) (hq : floatBits .quo .f64 a b = some q) (hql : q < 18446744073709551616) (h0 : rung q = 0) : (if sgn b then -sgI (exX (negW q) b a) else sgI (exX (negW q) b a)) = if sgn q then -1 else 1 := by
  obtain ⟨fa, a0⟩ := some_rung sa
  obtain ⟨fb, b0⟩ := some_rung sb
  have a0' : rung a ≠ 0 := by simpa using a0
  have b0' : rung b ≠ 0 := by simpa using b0
  have m2 : mg (rung b) ≠ 0 := by unfold mg; split <;> omega
  have hs : sgn q = (sgn a ^^ sgn b) := by
    rw [(fbits_map a b).2.2.2, read_fin ha fa, read_fin hb fb] at hq
    simp only [Ieee.Datum.quotient] at hq
    rw [if_neg m2] at hq
    simp only [Option.map_some, Ieee.Format.write, Option.some.injEq] at hq
    obtain ⟨k, hk, e⟩ := nearest_bd (sgn a ^^ sgn b) (2 * (mg (rung a) <<< (54 + (mg (rung b)).log2 - (mg (rung a)).log2) / mg (rung b)) + (mg (rung a) <<< (54 + (mg (rung b)).log2 - (mg (rung a)).log2) % mg (rung b) != 0).toNat) (-1074 + ((up (rung a) : Nat) : Int) - (-1074 + ((up (rung b) : Nat) : Int)) - ((54 + (mg (rung b)).log2 - (mg (rung a)).log2 : Nat) : Int) - 1)
    rw [← hq, e, (word_rung _ (show k < 9223372036854775808 by omega)).2]
  have vq : vI (negW q) = 0 := by
    rw [vI_neg hql]
    unfold vI
    rw [h0]
    cases sgn q <;> rfl
  have va : 0 < (val (rung a) : Int) := by
    have := val_lt (show 0 < rung a by omega)
    rw [val_zero] at this
    omega
  have hx : exX (negW q) b a = vI a * 2 ^ twP := by rw [exX_un (L := twP) rfl, vq, Int.zero_mul, Int.zero_add]
  rw [hx, sg_mul, hs]
  unfold vI sgI
  cases sgn a <;> cases sgn b <;> simp <;> omega
theorem sign_some {b : Nat} (sb : someB b = true) : signF b = if sgn b then -1 else 1 := by
  obtain ⟨fb, b0⟩ := some_rung sb
  have b0' : rung b ≠ 0 := by simpa using b0
  have hr := fin_rung fb
  unfold signF place nanB
  rw [decide_eq_false (by omega)]
  cases sgn b <;> simp <;> omega
end Go.Proofs.YtflbglbhmdpmoaaGreatDoor

namespace Go.Proofs.YtflbglbhmdpmoaaGreatDoor
open Go.RowKit

def pX : Nat := 65536
theorem pX_eq : pX = kV + twP := rfl
theorem int_sv (n : Int) : sv ⟨decide (n < 0), [n.natAbs], 0⟩ = n := by
  unfold sv
  simp only [vl]
  by_cases h : n < 0
  · rw [decide_eq_true h]; simp; omega
  · rw [decide_eq_false h]; simp; omega
theorem bl_small {v : Nat} (h : v ≤ 9223372036854775808) : bl v ≤ 64 := bl_le_iff.2 (by omega)
theorem int_facts {n : Int} (h1 : -9223372036854775808 ≤ n) (h2 : n ≤ 9223372036854775807) : rightB (intD n) = true ∧ Lm (intD n).mag ∧ qd (intD n) = n * 2 ^ pX := by
  have e : intD n = (nrm n 0).1 := by unfold intD normD; rw [int_sv]
  have ht : (nrm n 0).2 = 0 := nrm_told (by have := bl_small (v := n.natAbs) (by omega); omega) (by omega) (by omega)
  obtain ⟨r1, r2⟩ := nrm_ok ht
  rw [e]
  refine ⟨r1, nrm_lm n 0, ?_⟩
  have h := r2 (-65536) (by omega) (by omega)
  unfold qd
  rw [show (nrm n 0).1.exp - -65536 = (nrm n 0).1.exp + 65536 by omega] at h
  rw [h, show ((0 : Int) - -65536).toNat = pX from rfl]
theorem int_none {n : Int} (h1 : -9223372036854775808 ≤ n) (h2 : n ≤ 9223372036854775807) (h0 : n ≠ 0) : (intD n).mag.length ≠ 0 := by
  intro hl
  obtain ⟨_, _, q⟩ := int_facts h1 h2
  have : vl (intD n).mag = 0 := by
    rw [List.eq_nil_of_length_eq_zero hl]; rfl
  have hz : qd (intD n) = 0 := by
    unfold qd sv
    rw [this]
    simp
  rw [hz] at q
  rcases Int.mul_eq_zero.1 q.symm with h | h
  · exact h0 h
  · have := pow_pos_int pX
    omega
theorem cut_zero (s : Bool) {J : Nat} (D : Nat) (hJ : J ≠ 0) : Ieee.Toward.zero.cut s (J * 2 ^ D) D = J := by
  have hl : (J * 2 ^ D).log2 = J.log2 + D := log2_mul hJ
  unfold Ieee.Toward.cut
  simp only [Bool.toNat_false, Nat.add_zero]
  rw [hl, show min D (J.log2 + D + 2) = D by omega, Nat.shiftLeft_eq, Nat.one_mul]
  exact Nat.mul_div_cancel _ (Nat.two_pow_pos D)
/-- What a float that is a whole number is cut to. -/
theorem whole_cut {k J : Nat} (s : Bool) (hJ : J ≠ 0) (hv : val k = J * 2 ^ twP) : (Ieee.Datum.number s (mg k) (-1074 + (up k : Int))).toInt .zero = some (if s then -(J : Int) else (J : Int)) := by
  have hm : mg k <<< (-1074 + (up k : Int)).toNat = J * 2 ^ (-(-1074 + (up k : Int))).toNat := by
    rw [Nat.shiftLeft_eq]
    rw [← mg_up] at hv
    rcases Nat.lt_or_ge (up k) 1074 with h | h
    · rw [show (-1074 + (up k : Int)).toNat = 0 by omega, show (-(-1074 + (up k : Int))).toNat = 1074 - up k by omega, Nat.pow_zero, Nat.mul_one]
      have e : (2 : Nat) ^ twP = 2 ^ (1074 - up k) * 2 ^ up k := by rw [← Nat.pow_add]; congr 1; unfold twP; omega
      rw [e, ← Nat.mul_assoc] at hv
      exact Nat.eq_of_mul_eq_mul_right (Nat.two_pow_pos _) hv
    · rw [show (-1074 + (up k : Int)).toNat = up k - 1074 by omega, show (-(-1074 + (up k : Int))).toNat = 0 by omega, Nat.pow_zero, Nat.mul_one]
      have e : (2 : Nat) ^ up k = 2 ^ (up k - 1074) * 2 ^ twP := by rw [← Nat.pow_add]; congr 1; unfold twP; omega
      rw [e, ← Nat.mul_assoc] at hv
      exact Nat.eq_of_mul_eq_mul_right (Nat.two_pow_pos _) hv
  unfold Ieee.Datum.toInt Ieee.Datum.integral
  simp only
  rw [hm, cut_zero s _ hJ]
  unfold Ieee.signed
  cases s <;> simp
theorem val_r0 : val 4845873199050653696 = 9007199254740992 * 2 ^ twP := by
  unfold val
  rw [if_neg (by omega), show 4845873199050653696 % 4503599627370496 = 0 by decide, show 4845873199050653696 / 4503599627370496 - 1 = twP + 1 by decide, Nat.pow_succ]
  generalize 2 ^ twP = t
  omega
theorem val_r1 : val 4890909195324358656 = 9223372036854775808 * 2 ^ twP := by
  unfold val
  rw [if_neg (by omega), show 4890909195324358656 % 4503599627370496 = 0 by decide, show 4890909195324358656 / 4503599627370496 - 1 = 11 + twP by decide, Nat.pow_add]
  generalize 2 ^ twP = t
  omega
/-- The float that a whole number is rounded to is a whole number. -/
theorem int_whole {n : Int} {k : Nat} (h1 : -9223372036854775808 ≤ n) (h2 : n ≤ 9223372036854775807) (h0 : n ≠ 0) (hN : NearK (n.natAbs * 2 ^ pX) k) :
    ∃ J, J ≠ 0 ∧ val k = J * 2 ^ twP ∧ J ≤ 9223372036854775808 ∧ (k = 4890909195324358656 ↔ J = 9223372036854775808) ∧ k ≤ 4890909195324358656 := by
  have hp := Nat.two_pow_pos kV
  have ht := Nat.two_pow_pos twP
  have hA : n.natAbs * 2 ^ pX = n.natAbs * 2 ^ twP * 2 ^ kV := by rw [pX_eq, Nat.add_comm, Nat.pow_add, Nat.mul_assoc]
  rw [hA] at hN
  have hk1 : k ≤ 4890909195324358656 := by
    rcases Nat.lt_or_ge 4890909195324358656 k with h | h
    · exfalso
      have hb := (hN.2 4890909195324358656 (by omega)).1 h
      have hv := val_step 4890909195324358656
      have hle : n.natAbs * 2 ^ twP ≤ val 4890909195324358656 := by rw [val_r1]; exact Nat.mul_le_mul_right _ (by omega)
      have g1 := Nat.mul_le_mul_right (2 ^ kV) hle
      have g2 := Nat.mul_lt_mul_of_pos_right hv hp
      unfold aboveD at hb
      rw [Nat.add_mul] at hb
      rcases hb with g | ⟨g, _⟩ <;> omega
    · exact h
  have hJ : ∃ J, val k = J * 2 ^ twP := by
    rcases Nat.lt_or_ge n.natAbs 9007199254740992 with h | h
    · have hbl : bl n.natAbs ≤ 53 := bl_le_iff.2 (by omega)
      obtain ⟨k', ek, _, _, hval⟩ := rnd_exact (v := n.natAbs) (e := 0) false (by omega) (by omega) (by omega) (by unfold rDr rLa; omega)
      obtain ⟨k'', ek2, hN2⟩ := nearK_of false (m := n.natAbs) (p := 0) (by omega) (by omega)
      rw [show ((0 : Int) + 65536).toNat = pX from rfl, hA] at hN2 hval
      have e3 := nearK_uniq hN hN2
      subst e3
      have e4 : k = k' := by
        have q1 := (word_rung false (show k < 9223372036854775808 by omega)).1
        rw [← ek2, ek, (word_rung false (show k' < 9223372036854775808 by
          rcases Nat.lt_or_ge k' 9223372036854775808 with g | g
          · exact g
          · omega)).1] at q1
        omega
      subst e4
      exact ⟨_, Nat.eq_of_mul_eq_mul_right hp hval⟩
    · have hk0 : 4845873199050653696 ≤ k := by
        rcases Nat.lt_or_ge 4845873199050653695 k with g | g
        · omega
        · exfalso
          refine absurd ((hN.2 4845873199050653695 (by omega)).2 (Or.inl ?_)) (by omega)
          have hv := val_step 4845873199050653695
          rw [show (4845873199050653695 : Nat) + 1 = 4845873199050653696 from rfl] at hv ⊢
          have hle : val 4845873199050653696 ≤ n.natAbs * 2 ^ twP := by rw [val_r0]; exact Nat.mul_le_mul_right _ h
          have g1 := Nat.mul_le_mul_right (2 ^ kV) hle
          have g2 := Nat.mul_lt_mul_of_pos_right hv hp
          rw [Nat.add_mul]
          omega
      have hu : twP ≤ up k := by unfold up twP; rw [if_neg (by omega)]; omega
      refine ⟨mg k * 2 ^ (up k - twP), ?_⟩
      have e : 2 ^ (up k - twP) * 2 ^ twP = 2 ^ up k := by rw [← Nat.pow_add, Nat.sub_add_cancel hu]
      rw [← mg_up, Nat.mul_assoc, e]
  obtain ⟨J, hJ⟩ := hJ
  have kp : k ≠ 0 := by
    have : 0 < k := (hN.2 0 (by omega)).2 (by
      left
      rw [show val 0 + val (0 + 1) = 1 by decide, Nat.one_mul]
      have g3 : 1 * 2 ^ kV ≤ n.natAbs * 2 ^ twP * 2 ^ kV := Nat.mul_le_mul_right _ (Nat.mul_pos (by omega) ht)
      omega)
    omega
  refine ⟨J, ?_, hJ, ?_, ?_, hk1⟩
  · intro h
    rw [h, Nat.zero_mul] at hJ
    have := val_lt (show 0 < k by omega)
    omega
  · have := val_le_D hk1
    rw [hJ, val_r1] at this
    exact Nat.le_of_mul_le_mul_right this ht
  · constructor
    · intro h
      rw [h, val_r1] at hJ
      exact (Nat.eq_of_mul_eq_mul_right ht hJ).symm
    · intro h
      rw [h, ← val_r1] at hJ
      rcases Nat.lt_or_ge k 4890909195324358656 with g | g
      · have := val_lt g; omega
      · omega
/-- The nearest float of a whole number, and that rounded number on each side. -/
theorem int_told {n : Int} (m : Int) (h1 : -9223372036854775808 ≤ n) (h2 : n ≤ 9223372036854775807) (h0 : n ≠ 0) :
    ∃ k J : Nat, floatOfInt .f64 n = (if n < 0 then 9223372036854775808 + k else k) ∧ k ≠ 0 ∧ k ≤ 4890909195324358656 ∧ (k = 4890909195324358656 ↔ J = 9223372036854775808) ∧ J ≤ 9223372036854775808 ∧
      (Ieee.double.read (if n < 0 then 9223372036854775808 + k else k)).toInt .zero = some (if n < 0 then -(J : Int) else (J : Int)) ∧
      rndW (intD n) m = stepF (if n < 0 then 9223372036854775808 + k else k) (sgI (n - (if n < 0 then -(J : Int) else (J : Int)))) m := by
  obtain ⟨r1, r2, r3⟩ := int_facts h1 h2
  obtain ⟨k, hN, hs, _, hr⟩ := rnd_step (intD n) m r2 r1 (int_none h1 h2 h0)
  have hpx := pow_pos_int pX
  have hlt : decide (qd (intD n) < 0) = decide (n < 0) := by
    rw [r3, Bool.eq_iff_iff]
    simp only [decide_eq_true_eq]
    constructor
    · intro h
      rcases Int.lt_or_le n 0 with g | g
      · exact g
      · exfalso
        have := Int.mul_nonneg g (Int.le_of_lt hpx)
        omega
    · intro h; exact Int.mul_neg_of_neg_of_pos h hpx
  rw [hlt] at hs
  have hab : (qd (intD n)).natAbs = n.natAbs * 2 ^ pX := by rw [r3, Int.natAbs_mul, Int.natAbs_pow, show (2 : Int).natAbs = 2 from rfl]
  rw [hab, hs] at hr
  rw [hab] at hN
  obtain ⟨J, j0, hJ, jl, ji, kl⟩ := int_whole h1 h2 h0 hN
  have k0 : k ≠ 0 := by
    intro h
    rw [h, val_zero] at hJ
    have := Nat.mul_pos (Nat.pos_of_ne_zero j0) (Nat.two_pow_pos twP)
    omega
  obtain ⟨k2, ek, hN2⟩ := nearK_of (decide (n < 0)) (m := n.natAbs) (p := 0) (by omega) (by omega)
  rw [show ((0 : Int) + 65536).toNat = pX from rfl] at hN2
  have e3 := nearK_uniq hN2 hN
  subst e3
  rw [word_k _ (by omega)] at ek hr
  simp only [decide_eq_true_eq] at ek hr
  refine ⟨k2, J, ek, k0, kl, ji, jl, ?_, ?_⟩
  · have hfin : finB (if n < 0 then 9223372036854775808 + k2 else k2) = true := by
      unfold finB
      split
      · rw [(rung_big (by omega)).1]; exact decide_eq_true (by omega)
      · rw [(rung_pos (by omega)).1]; exact decide_eq_true (by omega)
    rw [read_fin (by split <;> omega) hfin]
    have e5 : rung (if n < 0 then 9223372036854775808 + k2 else k2) = k2 := by
      split
      · exact (rung_big (by omega)).1
      · exact (rung_pos (by omega)).1
    have e6 : sgn (if n < 0 then 9223372036854775808 + k2 else k2) = decide (n < 0) := by
      by_cases h : n < 0
      · rw [if_pos h, decide_eq_true h]; exact (rung_big (by omega)).2
      · rw [if_neg h, decide_eq_false h]; exact (rung_pos (by omega)).2
    rw [e5, e6, whole_cut _ j0 hJ]
    simp
  · rw [hr]
    congr 1
    unfold sdK
    rw [if_neg (by omega)]
    have e7 : ((n.natAbs * 2 ^ pX : Nat) : Int) - ((val k2 * 2 ^ kV : Nat) : Int) = ((n.natAbs : Int) - (J : Int)) * 2 ^ pX := by
      rw [hJ, Nat.mul_assoc, ← Nat.pow_add, Nat.add_comm twP kV, ← pX_eq, Int.sub_mul]
      push_cast
      rfl
    rw [e7, sg_mul]
    by_cases h : n < 0
    · rw [if_pos (by simpa using h), if_pos h]
      unfold sgI
      (repeat' split) <;> omega
    · rw [if_neg (by simpa using h), if_neg h, show (n.natAbs : Int) = n by omega]
end Go.Proofs.YtflbglbhmdpmoaaGreatDoor
