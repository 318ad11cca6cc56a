/- A whole number as a float, by every way: what round's Int and the document's answer. -/
import Derived.Test.YtlhoidkfphellaaDoorZw
import Derived.Test.YtlhoidkfphellaaDoorZo
import Derived.Test.YtlhoidkfphellaaDoorY8
import Derived.Test.YtlhoidkfphellaaDoorSk
import Derived.Test.YtlhoidkfphellaaDoorSh
import Derived.Test.YtlhoidkfphellaaDoorZs
namespace Go.Proofs.YtlhoidkfphellaaDoor
open Go.RowKit

def kV : Nat := 64462
theorem kV_eq : kV = 64462 := rfl
theorem rW_two {k : Nat} {la : Int} (hk : k < 9007199254740992) (hor : la = -1074 ∨ 4503599627370496 ≤ k) : val (rW k la) = k * 2 ^ (la + 1074).toNat ∧ val (rW k la + 1) = (k + 1) * 2 ^ (la + 1074).toNat := by
  have hU : (la + 1074).toNat = 0 ∨ 4503599627370496 ≤ k := by omega
  obtain ⟨e1, e2⟩ := mg_of hk hU
  unfold rW
  refine ⟨?_, ?_⟩
  · rw [← mg_up, e1, e2]
  · rw [val_succ, e1, e2]
/-- What is k, told by the floats below. -/
theorem above_lt {K A r k : Nat} (c : ∀ r, r < 9218868437227405312 → (r < k ↔ aboveD K A r)) (hr : r < 9218868437227405312) (h : (val r + val (r + 1)) * 2 ^ K < 2 * A) : r < k := (c r hr).2 (Or.inl h)
/-- Between two floats next to each other. -/
theorem near_two {K A s k : Nat} (hk : k ≤ 9218868437227405312) (c : ∀ r, r < 9218868437227405312 → (r < k ↔ aboveD K A r)) (hs : s < 9218868437227405312) (h1 : val s * 2 ^ K < A) (h2 : A < val (s + 1) * 2 ^ K) :
    (k = s ∨ k = s + 1) ∧ (k = s + 1 ↔ aboveD K A s) := by
  have hp := Nat.two_pow_pos K
  have a1 : s ≤ k := by
    rcases Nat.eq_zero_or_pos s with h | h
    · omega
    · have hv : val (s - 1) * 2 ^ K ≤ val s * 2 ^ K := Nat.mul_le_mul_right _ (val_le_D (by omega))
      have := above_lt c (r := s - 1) (by omega) (by rw [show s - 1 + 1 = s by omega, Nat.add_mul]; omega)
      omega
  have a2 : k ≤ s + 1 := by
    rcases Nat.lt_or_ge (s + 1) 9218868437227405312 with h | h
    · rcases Nat.lt_or_ge (s + 1) k with g | g
      · exfalso
        have hb := (c (s + 1) h).1 g
        have hv : val (s + 1) * 2 ^ K ≤ val (s + 1 + 1) * 2 ^ K := Nat.mul_le_mul_right _ (val_le_D (by omega))
        unfold aboveD at hb
        rw [Nat.add_mul] at hb
        rcases hb with g | ⟨g, _⟩ <;> omega
      · exact g
    · omega
  refine ⟨by omega, ?_⟩
  rw [← c s hs]
  omega
theorem near_self {K A s k : Nat} (hk : k ≤ 9218868437227405312) (c : ∀ r, r < 9218868437227405312 → (r < k ↔ aboveD K A r)) (hs : s < 9218868437227405312) (h1 : val s * 2 ^ K = A) : k = s := by
  have hp := Nat.two_pow_pos K
  have a1 : s ≤ k := by
    rcases Nat.eq_zero_or_pos s with h | h
    · omega
    · have hv : val (s - 1) * 2 ^ K < val s * 2 ^ K := Nat.mul_lt_mul_of_pos_right (val_lt (by omega)) hp
      have := above_lt c (r := s - 1) (by omega) (by rw [show s - 1 + 1 = s by omega, Nat.add_mul]; omega)
      omega
  rcases Nat.lt_or_ge s k with g | g
  · exfalso
    have hb := (c s hs).1 g
    have hv : val s * 2 ^ K < val (s + 1) * 2 ^ K := Nat.mul_lt_mul_of_pos_right (val_step s) hp
    unfold aboveD at hb
    rw [Nat.add_mul] at hb
    rcases hb with g | ⟨g, _⟩ <;> omega
  · omega
/-- Where what is dropped is not nothing. -/
theorem rnd_mid {v : Nat} {e : Int} (neg : Bool) (hv : v % 2 = 1) (he : -65536 ≤ e) (hg : (bl v : Int) + e ≤ 1024) (hd : 0 < rDr v e) :
    ∃ s k : Nat, Ieee.double.nearest neg v e = Ieee.double.word neg k ∧ rSz v e 3 = s ∧ rSz v e 2 = s + 1 ∧ rSz v e 0 = k ∧ (k = s ∨ k = s + 1) ∧ s < 9218868437227405312 ∧
      val s * 2 ^ kV < v * 2 ^ (e + 65536).toNat ∧ v * 2 ^ (e + 65536).toNat < val (s + 1) * 2 ^ kV := by
  have h0 : v ≠ 0 := by omega
  obtain ⟨k1, k2, k3, k4, k5⟩ := kept_bd h0 hg
  generalize hla : rLa v e = la at *
  have hdr : rDr v e = la - e := by unfold rDr; rw [hla]
  generalize hdn : (rDr v e).toNat = n at *
  have hn : 0 < n := by omega
  have hsh : shr v (rDr v e) = v / 2 ^ n := by unfold shr; rw [if_pos (by omega), hdn]
  rw [hsh] at k1 k2 k5
  have hD : 0 < 2 ^ n := Nat.pow_pos (by omega)
  have hDM := Nat.div_add_mod v (2 ^ n)
  have hlt := Nat.mod_lt v hD
  have h2 : 2 ^ n = 2 * 2 ^ (n - 1) := by
    have h3 : n = n - 1 + 1 := by omega
    rw [h3, Nat.pow_succ, Nat.mul_comm, Nat.add_sub_cancel]
  have hodd : v % 2 ^ n % 2 = 1 := by
    rw [h2, Nat.mod_mul_right_mod]; exact hv
  have hR : v % 2 ^ n ≠ 0 := by intro h; rw [h] at hodd; cases hodd
  have hbit : win v (rDr v e - 1) % 2 = v / 2 ^ (n - 1) % 2 := by
    unfold win shr
    rw [if_pos (by omega), show (rDr v e - 1).toNat = n - 1 by omega]
    omega
  have hq : v / 2 ^ (n - 1) % 2 = (v % 2 ^ n) / 2 ^ (n - 1) := by
    rw [h2, Nat.mul_comm 2, Nat.mod_mul_right_div_self]
  have hp1 : 0 < 2 ^ (n - 1) := Nat.pow_pos (by omega)
  have hw : win v (rDr v e) = v / 2 ^ n := k1
  have e3 : rSz v e 3 = rW (v / 2 ^ n) la := by
    unfold rSz; rw [if_neg (by omega), hla]; unfold rKp rUp; rw [hw]; simp
  have e2 : rSz v e 2 = rW (v / 2 ^ n) la + 1 := by
    unfold rSz; rw [if_neg (by omega), hla]; unfold rKp rUp; rw [hw, if_pos ⟨hd, by simp⟩]; unfold rW; omega
  have e0 : ∀ b, rUp v (rDr v e) 0 = b → rSz v e 0 = if b then rW (v / 2 ^ n) la + 1 else rW (v / 2 ^ n) la := by
    intro b hb
    unfold rSz; rw [if_neg (by omega), hla]; unfold rKp; rw [hw, hb]
    cases b
    · simp
    · rw [if_pos ⟨hd, rfl⟩, if_pos rfl]; unfold rW; omega
  have hup : rUp v (rDr v e) 0 = ((v % 2 ^ n / 2 ^ (n - 1) == 1) && (decide (1 < rDr v e) || (v / 2 ^ n % 2 == 1))) := by
    unfold rUp; rw [if_pos rfl, hbit, hq, hw]
  have hpow : 2 ^ (la + 1074).toNat * 2 ^ kV = 2 ^ n * 2 ^ (e + 65536).toNat := by
    rw [← Nat.pow_add, ← Nat.pow_add]; congr 1; have := kV_eq; omega
  obtain ⟨v1, v2⟩ := rW_two k2 k5
  have hsl : rW (v / 2 ^ n) la < 9218868437227405312 := by unfold rW; omega
  have hpar : rW (v / 2 ^ n) la % 2 = v / 2 ^ n % 2 := by unfold rW; omega
  have hE : 0 < 2 ^ (e + 65536).toNat := Nat.two_pow_pos _
  have s1 : val (rW (v / 2 ^ n) la) * 2 ^ kV = 2 ^ n * (v / 2 ^ n) * 2 ^ (e + 65536).toNat := by
    rw [v1, Nat.mul_assoc, hpow, ← Nat.mul_assoc, Nat.mul_comm (v / 2 ^ n)]
  have s2 : val (rW (v / 2 ^ n) la + 1) * 2 ^ kV = (2 ^ n * (v / 2 ^ n) + 2 ^ n) * 2 ^ (e + 65536).toNat := by
    rw [v2, Nat.mul_assoc, hpow, ← Nat.mul_assoc, Nat.add_mul, Nat.one_mul, Nat.mul_comm (v / 2 ^ n)]
  obtain ⟨k, ek, hk, c⟩ := near_anyD neg e kV (m := v) h0 (by have := kV_eq; omega)
  rw [show (e + 1074 + ((kV : Nat) : Int)).toNat = (e + 65536).toNat by have := kV_eq; omega] at c
  have g1 : val (rW (v / 2 ^ n) la) * 2 ^ kV < v * 2 ^ (e + 65536).toNat := by
    rw [s1]; exact Nat.mul_lt_mul_of_pos_right (by omega) hE
  have g2 : v * 2 ^ (e + 65536).toNat < val (rW (v / 2 ^ n) la + 1) * 2 ^ kV := by
    rw [s2]; exact Nat.mul_lt_mul_of_pos_right (by omega) hE
  obtain ⟨t1, t2⟩ := near_two hk c hsl g1 g2
  refine ⟨rW (v / 2 ^ n) la, k, ek, e3, e2, ?_, t1, hsl, g1, g2⟩
  have hab : aboveD kV (v * 2 ^ (e + 65536).toNat) (rW (v / 2 ^ n) la) ↔ (2 ^ n < 2 * (v % 2 ^ n) ∨ (2 ^ n = 2 * (v % 2 ^ n) ∧ v / 2 ^ n % 2 = 1)) := by
    unfold aboveD
    rw [Nat.add_mul, s1, s2, ← Nat.add_mul, hpar, ← Nat.mul_assoc]
    generalize 2 ^ (e + 65536).toNat = E at *
    have hv2 : 2 * v = 2 * (2 ^ n * (v / 2 ^ n)) + 2 * (v % 2 ^ n) := by omega
    rw [hv2]
    generalize 2 ^ n * (v / 2 ^ n) = B at *
    generalize v % 2 ^ n = R at *
    constructor
    · rintro (h | ⟨h, h3⟩)
      · left
        have := Nat.lt_of_mul_lt_mul_right h
        omega
      · right
        have := Nat.eq_of_mul_eq_mul_right hE h
        exact ⟨by omega, h3⟩
    · rintro (h | ⟨h, h3⟩)
      · left
        exact Nat.mul_lt_mul_of_pos_right (by omega) hE
      · right
        exact ⟨by rw [show B + (B + 2 ^ n) = 2 * B + 2 * R by omega], h3⟩
  have hb := e0 _ hup
  rw [hb]
  have hx1 : 2 ^ n ≤ 2 * (v % 2 ^ n) → v % 2 ^ n / 2 ^ (n - 1) = 1 := by
    intro h
    have h5 : v % 2 ^ n / 2 ^ (n - 1) < 2 := (Nat.div_lt_iff_lt_mul hp1).2 (by omega)
    have h6 : 1 ≤ v % 2 ^ n / 2 ^ (n - 1) := (Nat.le_div_iff_mul_le hp1).2 (by omega)
    omega
  have hx0 : 2 * (v % 2 ^ n) < 2 ^ n → v % 2 ^ n / 2 ^ (n - 1) = 0 := fun h => Nat.div_eq_of_lt (by omega)
  have hone : (1 < rDr v e) ∨ n = 1 := by omega
  have htie : 2 ^ n = 2 * (v % 2 ^ n) → n = 1 := by
    intro h
    rcases (show n = 1 ∨ 1 < n by omega) with g | g
    · exact g
    · exfalso
      have h3 : 2 ^ n = 4 * 2 ^ (n - 2) := by
        have h4 : n = n - 2 + 2 := by omega
        conv => lhs; rw [h4, Nat.pow_add]
        omega
      omega
  by_cases c1 : 2 ^ n < 2 * (v % 2 ^ n)
  · rw [t2.2 (hab.2 (Or.inl c1)), hx1 (by omega)]
    have : 1 < rDr v e := by
      rcases hone with g | g
      · exact g
      · exfalso; subst g; simp at c1 hlt; omega
    rw [decide_eq_true this]
    rfl
  · by_cases c2 : 2 ^ n = 2 * (v % 2 ^ n)
    · have n1 := htie c2
      rw [hx1 (by omega), decide_eq_false (show ¬ 1 < rDr v e by omega)]
      by_cases c3 : v / 2 ^ n % 2 = 1
      · rw [t2.2 (hab.2 (Or.inr ⟨c2, c3⟩)), c3]; rfl
      · have hk2 : k ≠ rW (v / 2 ^ n) la + 1 := fun h => by
          rcases hab.1 (t2.1 h) with g | ⟨_, g⟩ <;> omega
        have c4 : v / 2 ^ n % 2 = 0 := by omega
        rw [c4]
        rcases t1 with g | g
        · rw [g]; rfl
        · exact absurd g hk2
    · have hk2 : k ≠ rW (v / 2 ^ n) la + 1 := fun h => by
        rcases hab.1 (t2.1 h) with g | ⟨g, _⟩ <;> omega
      rw [hx0 (by omega)]
      rcases t1 with g | g
      · rw [g]; rfl
      · exact absurd g hk2
/-- Where nothing is dropped. -/
theorem rnd_exact {v : Nat} {e : Int} (neg : Bool) (h0 : v ≠ 0) (he : -65536 ≤ e) (hg : (bl v : Int) + e ≤ 1024) (hd : rDr v e ≤ 0) :
    ∃ k : Nat, Ieee.double.nearest neg v e = Ieee.double.word neg k ∧ (∀ m, rSz v e m = k) ∧ k < 9218868437227405312 ∧ val k * 2 ^ kV = v * 2 ^ (e + 65536).toNat := by
  obtain ⟨k1, k2, k3, k4, k5⟩ := kept_bd h0 hg
  have hsz : ∀ m, rSz v e m = rW (shr v (rDr v e)) (rLa v e) := by
    intro m
    unfold rSz rKp
    rw [if_neg (by omega), if_neg (by omega), k1]
  obtain ⟨v1, _⟩ := rW_two k2 k5
  have hsl : rW (shr v (rDr v e)) (rLa v e) < 9218868437227405312 := by unfold rW; omega
  have hv : val (rW (shr v (rDr v e)) (rLa v e)) * 2 ^ kV = v * 2 ^ (e + 65536).toNat := by
    rw [v1]
    have hs : shr v (rDr v e) = v * 2 ^ (-(rDr v e)).toNat := by
      unfold shr
      by_cases h : 0 ≤ rDr v e
      · rw [if_pos h, show (rDr v e).toNat = 0 by omega, show (-(rDr v e)).toNat = 0 by omega]; simp
      · rw [if_neg h]
    rw [hs, Nat.mul_assoc, Nat.mul_assoc, ← Nat.pow_add, ← Nat.pow_add]
    congr 2
    unfold rDr at *
    have := kV_eq
    omega
  obtain ⟨k, ek, hk, c⟩ := near_anyD neg e kV (m := v) h0 (by have := kV_eq; omega)
  rw [show (e + 1074 + ((kV : Nat) : Int)).toNat = (e + 65536).toNat by have := kV_eq; omega] at c
  have := near_self hk c hsl hv
  subst this
  exact ⟨_, ek, hsz, hsl, hv⟩
def eInf : Nat := 2046
theorem val_top : val 9218868437227405312 = 4503599627370496 * 2 ^ eInf := by
  unfold val
  rw [if_neg (by omega), show 9218868437227405312 % 4503599627370496 = 0 by decide, show 9218868437227405312 / 4503599627370496 - 1 = eInf by decide]
/-- What is too great. -/
theorem rnd_over {v : Nat} {e : Int} (neg : Bool) (h0 : v ≠ 0) (he : -65536 ≤ e) (hg : 1024 < (bl v : Int) + e) :
    Ieee.double.nearest neg v e = Ieee.double.word neg 9218868437227405312 := by
  obtain ⟨k, ek, hk, c⟩ := near_anyD neg e kV (m := v) h0 (by have := kV_eq; omega)
  rw [show (e + 1074 + ((kV : Nat) : Int)).toNat = (e + 65536).toNat by have := kV_eq; omega] at c
  have hb := (bl_spec h0).1
  have hA : 2 ^ (bl v - 1) * 2 ^ (e + 65536).toNat ≤ v * 2 ^ (e + 65536).toNat := Nat.mul_le_mul_right _ hb
  have h1 : val 9218868437227405312 * 2 ^ kV ≤ 2 ^ (bl v - 1) * 2 ^ (e + 65536).toNat := by
    rw [val_top, show (4503599627370496 : Nat) = 2 ^ 52 by decide, ← Nat.pow_add, ← Nat.pow_add, ← Nat.pow_add]
    refine Nat.pow_le_pow_right (by omega) ?_
    have := kV_eq
    have : eInf = 2046 := rfl
    have hbl : bl v ≠ 0 := by unfold bl; split <;> omega
    omega
  have hp := Nat.two_pow_pos kV
  have h2 : val 9218868437227405311 * 2 ^ kV < val 9218868437227405312 * 2 ^ kV := Nat.mul_lt_mul_of_pos_right (val_lt (by omega)) hp
  have := above_lt c (r := 9218868437227405311) (by omega) (by rw [Nat.add_mul, show (9218868437227405311 : Nat) + 1 = 9218868437227405312 from rfl]; omega)
  rw [ek, show k = 9218868437227405312 by omega]
end Go.Proofs.YtlhoidkfphellaaDoor

namespace Go.Proofs.YtlhoidkfphellaaDoor
open Go.RowKit

/-- k is the rung that A units are rounded to. -/
def NearK (A k : Nat) : Prop := k ≤ 9218868437227405312 ∧ ∀ r, r < 9218868437227405312 → (r < k ↔ aboveD kV A r)
theorem nearK_uniq {A k j : Nat} (h : NearK A k) (g : NearK A j) : k = j := by
  rcases Nat.lt_or_ge k j with c | c
  · exfalso
    have hk := g.1
    have := (h.2 k (by omega)).2 ((g.2 k (by omega)).1 c)
    omega
  · rcases Nat.lt_or_ge j k with c2 | c2
    · exfalso
      have hk := h.1
      have := (g.2 j (by omega)).2 ((h.2 j (by omega)).1 c2)
      omega
    · omega
theorem nearK_of (s : Bool) {m : Nat} {p : Int} (hm : m ≠ 0) (hp : -65536 ≤ p) : ∃ k, Ieee.double.nearest s m p = Ieee.double.word s k ∧ NearK (m * 2 ^ (p + 65536).toNat) k := by
  obtain ⟨k, ek, hk, c⟩ := near_anyD s p kV (m := m) hm (by have := kV_eq; omega)
  rw [show (p + 1074 + ((kV : Nat) : Int)).toNat = (p + 65536).toNat by have := kV_eq; omega] at c
  exact ⟨k, ek, hk, c⟩
theorem word_k (s : Bool) {k : Nat} (hk : k < 9223372036854775808) : Ieee.double.word s k = if s then 9223372036854775808 + k else k := by
  have h := word_rung s hk
  have hl : Ieee.double.word s k < 18446744073709551616 := Ieee.double.word_lt (neg := s) hk
  have e := rung_of _ hl
  rw [h.1, h.2] at e
  rw [e]
theorem stepF_plus {k : Nat} {r : Int} (m : Int) (hk : k ≤ 9218868437227405312) (h0 : k = 0 → ¬ r < 0) (h1 : k = 9218868437227405312 → ¬ 0 < r) :
    stepF k r m = if (m = 1 ∨ m = 3) ∧ r < 0 then k - 1 else if m = 2 ∧ 0 < r then k + 1 else k := by
  have hs := (rung_pos (r := k) (by omega)).2
  unfold stepF dnB upB
  rw [hs]
  by_cases c1 : r < 0
  · have k0 : k ≠ 0 := fun h => h0 h c1
    rw [decide_eq_true c1, decide_eq_false (by omega : ¬ 0 < r)]
    rw [cpy_pos (by omega), next_less hk k0, rung_small (by omega)]
    by_cases c2 : m = 1
    · subst c2; simp [c1]
    · by_cases c3 : m = 3
      · subst c3; simp [c1]
      · simp [c2, c3]; omega
  · rw [decide_eq_false c1]
    by_cases c4 : 0 < r
    · have k1 : k < 9218868437227405312 := by
        rcases Nat.lt_or_ge k 9218868437227405312 with h | h
        · exact h
        · exact absurd c4 (h1 (by omega))
      rw [decide_eq_true c4, cpy_pos (by omega), next_plus k1, rung_small (by omega)]
      by_cases c2 : m = 2
      · subst c2; simp [c4]
      · simp [c2]; omega
    · rw [decide_eq_false c4]
      simp [c1, c4]
theorem stepF_less {k : Nat} {r : Int} (m : Int) (hk : k ≤ 9218868437227405312) (h0 : k = 0 → ¬ 0 < r) (h1 : k = 9218868437227405312 → ¬ r < 0) :
    stepF (9223372036854775808 + k) r m = 9223372036854775808 + if (m = 2 ∨ m = 3) ∧ 0 < r then k - 1 else if m = 1 ∧ r < 0 then k + 1 else k := by
  have hs := (rung_big (r := k) (by omega)).2
  unfold stepF dnB upB
  rw [hs]
  by_cases c1 : 0 < r
  · have k0 : k ≠ 0 := fun h => h0 h c1
    rw [decide_eq_true c1, decide_eq_false (by omega : ¬ r < 0)]
    rw [cpy_big (by omega), next_big_up hk k0]
    by_cases c2 : m = 2
    · subst c2; simp [c1]
    · by_cases c3 : m = 3
      · subst c3; simp [c1]
      · simp [c2, c3]; omega
  · rw [decide_eq_false c1]
    by_cases c4 : r < 0
    · have k1 : k < 9218868437227405312 := by
        rcases Nat.lt_or_ge k 9218868437227405312 with h | h
        · exact h
        · exact absurd c4 (h1 (by omega))
      rw [decide_eq_true c4, cpy_big (by omega), next_big_dn k1, (rung_big (by omega)).1]
      by_cases c2 : m = 1
      · subst c2; simp [c4]
      · simp [c2]; omega
    · rw [decide_eq_false c4]
      simp [c1, c4]
/-- On which side of its nearest float a number of A units lies. -/
def sdK (neg : Bool) (A k : Nat) : Int := if k = 9218868437227405312 then (if neg then 1 else -1) else if neg then -sgI ((A : Int) - ((val k * 2 ^ kV : Nat) : Int)) else sgI ((A : Int) - ((val k * 2 ^ kV : Nat) : Int))
theorem sgI_pos {x : Int} (h : 0 < x) : sgI x = 1 := by unfold sgI; rw [if_neg (by omega), if_neg (by omega)]
theorem sgI_neg {x : Int} (h : x < 0) : sgI x = -1 := by unfold sgI; rw [if_pos h]
theorem szm_pos (m : Int) : szm false m = if m = 1 ∨ m = 3 then 3 else if m = 2 then 2 else 0 := by
  unfold szm
  by_cases h1 : m = 1
  · subst h1; rfl
  · by_cases h2 : m = 2
    · subst h2; rfl
    · by_cases h3 : m = 3
      · subst h3; rfl
      · simp [h1, h2, h3]
theorem szm_neg (m : Int) : szm true m = if m = 2 ∨ m = 3 then 3 else if m = 1 then 2 else 0 := by
  unfold szm
  by_cases h1 : m = 1
  · subst h1; rfl
  · by_cases h2 : m = 2
    · subst h2; rfl
    · by_cases h3 : m = 3
      · subst h3; rfl
      · simp [h1, h2, h3]
theorem rSz_step {v : Nat} {e : Int} (neg : Bool) (m : Int) (hv : v % 2 = 1) (he : -65536 ≤ e) :
    ∃ k, NearK (v * 2 ^ (e + 65536).toNat) k ∧ (if neg then 9223372036854775808 + rSz v e (szm neg m) else rSz v e (szm neg m)) = stepF (Ieee.double.word neg k) (sdK neg (v * 2 ^ (e + 65536).toNat) k) m := by
  have h0 : v ≠ 0 := by omega
  obtain ⟨k, ek, hN⟩ := nearK_of neg h0 he
  obtain ⟨A, hA⟩ : ∃ A, v * 2 ^ (e + 65536).toNat = A := ⟨_, rfl⟩
  have hAp : 0 < A := by rw [← hA]; exact Nat.mul_pos (by omega) (Nat.two_pow_pos _)
  refine ⟨k, hN, ?_⟩
  have hk := hN.1
  rw [word_k neg (by omega)]
  have z0 : k = 0 → sgI ((A : Int) - ((val k * 2 ^ kV : Nat) : Int)) = 1 := by
    intro h; subst h
    rw [val_zero, Nat.zero_mul]
    exact sgI_pos (by omega)
  have fin : ∀ s : Int, sdK neg A k = s → (k = 0 → s = if neg then -1 else 1) → (k = 9218868437227405312 → s = if neg then 1 else -1) →
      (if neg = true then 9223372036854775808 + rSz v e (szm neg m) else rSz v e (szm neg m)) = (if neg then 9223372036854775808 + (if (m = 2 ∨ m = 3) ∧ 0 < s then k - 1 else if m = 1 ∧ s < 0 then k + 1 else k) else (if (m = 1 ∨ m = 3) ∧ s < 0 then k - 1 else if m = 2 ∧ 0 < s then k + 1 else k)) →
      (if neg = true then 9223372036854775808 + rSz v e (szm neg m) else rSz v e (szm neg m)) = stepF (if neg then 9223372036854775808 + k else k) (sdK neg A k) m := by
    intro s hs p1 p2 h
    rw [h, hs]
    cases neg
    · simp only [Bool.false_eq_true, if_false] at *
      rw [stepF_plus m hk (fun h => by rw [p1 h]; omega) (fun h => by rw [p2 h]; omega)]
    · simp only [if_true] at *
      rw [stepF_less m hk (fun h => by rw [p1 h]; omega) (fun h => by rw [p2 h]; omega)]
  rw [hA]
  refine fin _ rfl ?_ ?_ ?_
  · intro h
    unfold sdK
    rw [if_neg (by omega), z0 h]
  · intro h
    unfold sdK
    rw [if_pos h]
  · by_cases hg : 1024 < (bl v : Int) + e
    · have hk2 : k = 9218868437227405312 := by
        have e2 := rnd_over neg h0 he hg
        rw [ek] at e2
        have h3 := (word_rung neg (show k < 9223372036854775808 by omega)).1
        rw [e2, (word_rung neg (show 9218868437227405312 < 9223372036854775808 by omega)).1] at h3
        omega
      have hz : ∀ m, rSz v e m = if m = 3 then 9218868437227405311 else 9218868437227405312 := by
        intro m; unfold rSz; rw [if_pos hg]
      unfold sdK
      rw [if_pos hk2, hz, hk2]
      cases neg
      · rw [szm_pos]
        by_cases c1 : m = 1 ∨ m = 3
        · rw [if_pos c1]; simp [c1]
        · rw [if_neg c1]; simp [c1]; split <;> simp
      · rw [szm_neg]
        by_cases c1 : m = 2 ∨ m = 3
        · rw [if_pos c1]; simp [c1]
        · rw [if_neg c1]; simp [c1]; split <;> simp
    · by_cases hd : 0 < rDr v e
      · obtain ⟨s, k', ek', e3, e2, e0, ht, hsl, g1, g2⟩ := rnd_mid neg hv he (by omega) hd
        obtain rfl : k = k' := by
          have h3 := (word_rung neg (show k < 9223372036854775808 by omega)).1
          have h4 := (word_rung neg (show k' < 9223372036854775808 by omega)).1
          rw [← ek, ek'] at h3
          omega
        rw [hA] at g1 g2
        have hsd : sdK neg A k = if neg then (if k = s then -1 else 1) else (if k = s then 1 else -1) := by
          unfold sdK
          by_cases hi : k = 9218868437227405312
          · have hks : k ≠ s := by omega
            rw [if_pos hi]; simp only [if_neg hks]
          · rw [if_neg hi]
            rcases ht with h | h
            · have h5 : sgI ((A : Int) - ((val s * 2 ^ kV : Nat) : Int)) = 1 := sgI_pos (by omega)
              rw [h, h5]; cases neg <;> simp
            · have hks : k ≠ s := by omega
              have h5 : sgI ((A : Int) - ((val (s + 1) * 2 ^ kV : Nat) : Int)) = -1 := sgI_neg (by omega)
              simp only [if_neg hks]
              rw [h, h5]; cases neg <;> simp
        rw [hsd]
        cases neg
        · simp only [Bool.false_eq_true, if_false]
          rw [szm_pos]
          by_cases c1 : m = 1 ∨ m = 3
          · rw [if_pos c1, e3]
            have : m ≠ 2 := by omega
            rcases ht with h | h
            · rw [if_pos h]; simp [this, h]
            · rw [if_neg (show ¬ k = s by omega)]; simp [c1, h]
          · rw [if_neg c1]
            by_cases c2 : m = 2
            · rw [if_pos c2, e2]
              rcases ht with h | h
              · rw [if_pos h]; simp [c2, h]
              · rw [if_neg (show ¬ k = s by omega)]; simp [c2, h]
            · rw [if_neg c2, e0]
              simp [c1, c2]
        · simp only [if_true]
          rw [szm_neg]
          by_cases c1 : m = 2 ∨ m = 3
          · rw [if_pos c1, e3]
            have : m ≠ 1 := by omega
            rcases ht with h | h
            · rw [if_pos h]; simp [this, h]
            · rw [if_neg (show ¬ k = s by omega)]; simp [c1, h]
          · rw [if_neg c1]
            by_cases c2 : m = 1
            · rw [if_pos c2, e2]
              rcases ht with h | h
              · rw [if_pos h]; simp [c2, h]
              · rw [if_neg (show ¬ k = s by omega)]; simp [c2, h]
            · rw [if_neg c2, e0]
              simp [c1, c2]
      · obtain ⟨k', ek', ez, hkl, hval⟩ := rnd_exact neg h0 he (by omega) (by omega)
        obtain rfl : k = k' := by
          have h3 := (word_rung neg (show k < 9223372036854775808 by omega)).1
          have h4 := (word_rung neg (show k' < 9223372036854775808 by omega)).1
          rw [← ek, ek'] at h3
          omega
        rw [hA] at hval
        have hsd : sdK neg A k = 0 := by
          unfold sdK
          rw [if_neg (by omega), hval, Int.sub_self]
          cases neg <;> rfl
        rw [hsd, ez]
        simp
/-- Of a right dyad other than 0. -/
theorem rnd_step (d : Dy) (m : Int) (hL : Lm d.mag) (hR : rightB d = true) (hn : d.mag.length ≠ 0) :
    ∃ k, NearK (qd d).natAbs k ∧ d.neg = decide (qd d < 0) ∧ qd d ≠ 0 ∧ rndW d m = stepF (Ieee.double.word d.neg k) (sdK d.neg (qd d).natAbs k) m := by
  rcases right_cases hR with rfl | ⟨_, hc⟩
  · exact absurd rfl hn
  have hodd : vl d.mag % 2 = 1 := by rw [vl_odd hL hn]; exact hc.2.1
  have hq : (qd d).natAbs = vl d.mag * 2 ^ (d.exp + 65536).toNat := by
    unfold qd
    rw [Int.natAbs_mul, sv_abs, Int.natAbs_pow]
    rfl
  have hp := pow_pos_int (d.exp + 65536).toNat
  have hs : d.neg = decide (qd d < 0) := by
    rw [← sv_neg (d := d) (by omega)]
    unfold qd
    rw [Bool.eq_iff_iff]
    simp only [decide_eq_true_eq]
    constructor
    · intro h; exact Int.mul_neg_of_neg_of_pos h hp
    · intro h
      rcases Int.lt_or_le (sv d) 0 with g | g
      · exact g
      · exfalso
        have := Int.mul_nonneg g (Int.le_of_lt hp)
        omega
  have h0 : qd d ≠ 0 := by
    intro h
    rw [h] at hq
    have := Nat.mul_pos (show 0 < vl d.mag by omega) (Nat.two_pow_pos (d.exp + 65536).toNat)
    simp at hq
    omega
  obtain ⟨k, h1, h2⟩ := rSz_step d.neg m hodd hc.2.2.2.1
  rw [← hq] at h1 h2
  refine ⟨k, h1, hs, h0, ?_⟩
  rw [← h2]
  unfold rndW
  rw [if_neg hn]
end Go.Proofs.YtlhoidkfphellaaDoor

namespace Go.Proofs.YtlhoidkfphellaaDoor
open Go.RowKit

def pX : Nat := 65536
theorem pX_eq : pX = kV + twP := rfl
theorem int_sv (n : Int) : sv ⟨decide (n < 0), [n.natAbs], 0⟩ = n := by
  unfold sv
  simp only [vl]
  by_cases h : n < 0
  · rw [decide_eq_true h]; simp; omega
  · rw [decide_eq_false h]; simp; omega
theorem bl_small {v : Nat} (h : v ≤ 9223372036854775808) : bl v ≤ 64 := bl_le_iff.2 (by omega)
theorem int_facts {n : Int} (h1 : -9223372036854775808 ≤ n) (h2 : n ≤ 9223372036854775807) : rightB (intD n) = true ∧ Lm (intD n).mag ∧ qd (intD n) = n * 2 ^ pX := by
  have e : intD n = (nrm n 0).1 := by unfold intD normD; rw [int_sv]
  have ht : (nrm n 0).2 = 0 := nrm_told (by have := bl_small (v := n.natAbs) (by omega); omega) (by omega) (by omega)
  obtain ⟨r1, r2⟩ := nrm_ok ht
  rw [e]
  refine ⟨r1, nrm_lm n 0, ?_⟩
  have h := r2 (-65536) (by omega) (by omega)
  unfold qd
  rw [show (nrm n 0).1.exp - -65536 = (nrm n 0).1.exp + 65536 by omega] at h
  rw [h, show ((0 : Int) - -65536).toNat = pX from rfl]
theorem int_none {n : Int} (h1 : -9223372036854775808 ≤ n) (h2 : n ≤ 9223372036854775807) (h0 : n ≠ 0) : (intD n).mag.length ≠ 0 := by
  intro hl
  obtain ⟨_, _, q⟩ := int_facts h1 h2
  have : vl (intD n).mag = 0 := by
    rw [List.eq_nil_of_length_eq_zero hl]; rfl
  have hz : qd (intD n) = 0 := by
    unfold qd sv
    rw [this]
    simp
  rw [hz] at q
  rcases Int.mul_eq_zero.1 q.symm with h | h
  · exact h0 h
  · have := pow_pos_int pX
    omega
theorem cut_zero (s : Bool) {J : Nat} (D : Nat) (hJ : J ≠ 0) : Ieee.Toward.zero.cut s (J * 2 ^ D) D = J := by
  have hl : (J * 2 ^ D).log2 = J.log2 + D := log2_mul hJ
  unfold Ieee.Toward.cut
  simp only [Bool.toNat_false, Nat.add_zero]
  rw [hl, show min D (J.log2 + D + 2) = D by omega, Nat.shiftLeft_eq, Nat.one_mul]
  exact Nat.mul_div_cancel _ (Nat.two_pow_pos D)
/-- What a float that is a whole number is cut to. -/
theorem whole_cut {k J : Nat} (s : Bool) (hJ : J ≠ 0) (hv : val k = J * 2 ^ twP) : (Ieee.Datum.number s (mg k) (-1074 + (up k : Int))).toInt .zero = some (if s then -(J : Int) else (J : Int)) := by
  have hm : mg k <<< (-1074 + (up k : Int)).toNat = J * 2 ^ (-(-1074 + (up k : Int))).toNat := by
    rw [Nat.shiftLeft_eq]
    rw [← mg_up] at hv
    rcases Nat.lt_or_ge (up k) 1074 with h | h
    · rw [show (-1074 + (up k : Int)).toNat = 0 by omega, show (-(-1074 + (up k : Int))).toNat = 1074 - up k by omega, Nat.pow_zero, Nat.mul_one]
      have e : (2 : Nat) ^ twP = 2 ^ (1074 - up k) * 2 ^ up k := by rw [← Nat.pow_add]; congr 1; unfold twP; omega
      rw [e, ← Nat.mul_assoc] at hv
      exact Nat.eq_of_mul_eq_mul_right (Nat.two_pow_pos _) hv
    · rw [show (-1074 + (up k : Int)).toNat = up k - 1074 by omega, show (-(-1074 + (up k : Int))).toNat = 0 by omega, Nat.pow_zero, Nat.mul_one]
      have e : (2 : Nat) ^ up k = 2 ^ (up k - 1074) * 2 ^ twP := by rw [← Nat.pow_add]; congr 1; unfold twP; omega
      rw [e, ← Nat.mul_assoc] at hv
      exact Nat.eq_of_mul_eq_mul_right (Nat.two_pow_pos _) hv
  unfold Ieee.Datum.toInt Ieee.Datum.integral
  simp only
  rw [hm, cut_zero s _ hJ]
  unfold Ieee.signed
  cases s <;> simp
theorem val_r0 : val 4845873199050653696 = 9007199254740992 * 2 ^ twP := by
  unfold val
  rw [if_neg (by omega), show 4845873199050653696 % 4503599627370496 = 0 by decide, show 4845873199050653696 / 4503599627370496 - 1 = twP + 1 by decide, Nat.pow_succ]
  generalize 2 ^ twP = t
  omega
theorem val_r1 : val 4890909195324358656 = 9223372036854775808 * 2 ^ twP := by
  unfold val
  rw [if_neg (by omega), show 4890909195324358656 % 4503599627370496 = 0 by decide, show 4890909195324358656 / 4503599627370496 - 1 = 11 + twP by decide, Nat.pow_add]
  generalize 2 ^ twP = t
  omega
/-- The float that a whole number is rounded to is a whole number. -/
theorem int_whole {n : Int} {k : Nat} (h1 : -9223372036854775808 ≤ n) (h2 : n ≤ 9223372036854775807) (h0 : n ≠ 0) (hN : NearK (n.natAbs * 2 ^ pX) k) :
    ∃ J, J ≠ 0 ∧ val k = J * 2 ^ twP ∧ J ≤ 9223372036854775808 ∧ (k = 4890909195324358656 ↔ J = 9223372036854775808) ∧ k ≤ 4890909195324358656 := by
  have hp := Nat.two_pow_pos kV
  have ht := Nat.two_pow_pos twP
  have hA : n.natAbs * 2 ^ pX = n.natAbs * 2 ^ twP * 2 ^ kV := by rw [pX_eq, Nat.add_comm, Nat.pow_add, Nat.mul_assoc]
  rw [hA] at hN
  have hk1 : k ≤ 4890909195324358656 := by
    rcases Nat.lt_or_ge 4890909195324358656 k with h | h
    · exfalso
      have hb := (hN.2 4890909195324358656 (by omega)).1 h
      have hv := val_step 4890909195324358656
      have hle : n.natAbs * 2 ^ twP ≤ val 4890909195324358656 := by rw [val_r1]; exact Nat.mul_le_mul_right _ (by omega)
      have g1 := Nat.mul_le_mul_right (2 ^ kV) hle
      have g2 := Nat.mul_lt_mul_of_pos_right hv hp
      unfold aboveD at hb
      rw [Nat.add_mul] at hb
      rcases hb with g | ⟨g, _⟩ <;> omega
    · exact h
  have hJ : ∃ J, val k = J * 2 ^ twP := by
    rcases Nat.lt_or_ge n.natAbs 9007199254740992 with h | h
    · have hbl : bl n.natAbs ≤ 53 := bl_le_iff.2 (by omega)
      obtain ⟨k', ek, _, _, hval⟩ := rnd_exact (v := n.natAbs) (e := 0) false (by omega) (by omega) (by omega) (by unfold rDr rLa; omega)
      obtain ⟨k'', ek2, hN2⟩ := nearK_of false (m := n.natAbs) (p := 0) (by omega) (by omega)
      rw [show ((0 : Int) + 65536).toNat = pX from rfl, hA] at hN2 hval
      have e3 := nearK_uniq hN hN2
      subst e3
      have e4 : k = k' := by
        have q1 := (word_rung false (show k < 9223372036854775808 by omega)).1
        rw [← ek2, ek, (word_rung false (show k' < 9223372036854775808 by
          rcases Nat.lt_or_ge k' 9223372036854775808 with g | g
          · exact g
          · omega)).1] at q1
        omega
      subst e4
      exact ⟨_, Nat.eq_of_mul_eq_mul_right hp hval⟩
    · have hk0 : 4845873199050653696 ≤ k := by
        rcases Nat.lt_or_ge 4845873199050653695 k with g | g
        · omega
        · exfalso
          refine absurd ((hN.2 4845873199050653695 (by omega)).2 (Or.inl ?_)) (by omega)
          have hv := val_step 4845873199050653695
          rw [show (4845873199050653695 : Nat) + 1 = 4845873199050653696 from rfl] at hv ⊢
          have hle : val 4845873199050653696 ≤ n.natAbs * 2 ^ twP := by rw [val_r0]; exact Nat.mul_le_mul_right _ h
          have g1 := Nat.mul_le_mul_right (2 ^ kV) hle
          have g2 := Nat.mul_lt_mul_of_pos_right hv hp
          rw [Nat.add_mul]
          omega
      have hu : twP ≤ up k := by unfold up twP; rw [if_neg (by omega)]; omega
      refine ⟨mg k * 2 ^ (up k - twP), ?_⟩
      have e : 2 ^ (up k - twP) * 2 ^ twP = 2 ^ up k := by rw [← Nat.pow_add, Nat.sub_add_cancel hu]
      rw [← mg_up, Nat.mul_assoc, e]
  obtain ⟨J, hJ⟩ := hJ
  have kp : k ≠ 0 := by
    have : 0 < k := (hN.2 0 (by omega)).2 (by
      left
      rw [show val 0 + val (0 + 1) = 1 by decide, Nat.one_mul]
      have g3 : 1 * 2 ^ kV ≤ n.natAbs * 2 ^ twP * 2 ^ kV := Nat.mul_le_mul_right _ (Nat.mul_pos (by omega) ht)
      omega)
    omega
  refine ⟨J, ?_, hJ, ?_, ?_, hk1⟩
  · intro h
    rw [h, Nat.zero_mul] at hJ
    have := val_lt (show 0 < k by omega)
    omega
  · have := val_le_D hk1
    rw [hJ, val_r1] at this
    exact Nat.le_of_mul_le_mul_right this ht
  · constructor
    · intro h
      rw [h, val_r1] at hJ
      exact (Nat.eq_of_mul_eq_mul_right ht hJ).symm
    · intro h
      rw [h, ← val_r1] at hJ
      rcases Nat.lt_or_ge k 4890909195324358656 with g | g
      · have := val_lt g; omega
      · omega
/-- The nearest float of a whole number, and that rounded number on each side. -/
theorem int_told {n : Int} (m : Int) (h1 : -9223372036854775808 ≤ n) (h2 : n ≤ 9223372036854775807) (h0 : n ≠ 0) :
    ∃ k J : Nat, floatOfInt .f64 n = (if n < 0 then 9223372036854775808 + k else k) ∧ k ≠ 0 ∧ k ≤ 4890909195324358656 ∧ (k = 4890909195324358656 ↔ J = 9223372036854775808) ∧ J ≤ 9223372036854775808 ∧
      (Ieee.double.read (if n < 0 then 9223372036854775808 + k else k)).toInt .zero = some (if n < 0 then -(J : Int) else (J : Int)) ∧
      rndW (intD n) m = stepF (if n < 0 then 9223372036854775808 + k else k) (sgI (n - (if n < 0 then -(J : Int) else (J : Int)))) m := by
  obtain ⟨r1, r2, r3⟩ := int_facts h1 h2
  obtain ⟨k, hN, hs, _, hr⟩ := rnd_step (intD n) m r2 r1 (int_none h1 h2 h0)
  have hpx := pow_pos_int pX
  have hlt : decide (qd (intD n) < 0) = decide (n < 0) := by
    rw [r3, Bool.eq_iff_iff]
    simp only [decide_eq_true_eq]
    constructor
    · intro h
      rcases Int.lt_or_le n 0 with g | g
      · exact g
      · exfalso
        have := Int.mul_nonneg g (Int.le_of_lt hpx)
        omega
    · intro h; exact Int.mul_neg_of_neg_of_pos h hpx
  rw [hlt] at hs
  have hab : (qd (intD n)).natAbs = n.natAbs * 2 ^ pX := by rw [r3, Int.natAbs_mul, Int.natAbs_pow, show (2 : Int).natAbs = 2 from rfl]
  rw [hab, hs] at hr
  rw [hab] at hN
  obtain ⟨J, j0, hJ, jl, ji, kl⟩ := int_whole h1 h2 h0 hN
  have k0 : k ≠ 0 := by
    intro h
    rw [h, val_zero] at hJ
    have := Nat.mul_pos (Nat.pos_of_ne_zero j0) (Nat.two_pow_pos twP)
    omega
  obtain ⟨k2, ek, hN2⟩ := nearK_of (decide (n < 0)) (m := n.natAbs) (p := 0) (by omega) (by omega)
  rw [show ((0 : Int) + 65536).toNat = pX from rfl] at hN2
  have e3 := nearK_uniq hN2 hN
  subst e3
  rw [word_k _ (by omega)] at ek hr
  simp only [decide_eq_true_eq] at ek hr
  refine ⟨k2, J, ek, k0, kl, ji, jl, ?_, ?_⟩
  · have hfin : finB (if n < 0 then 9223372036854775808 + k2 else k2) = true := by
      unfold finB
      split
      · rw [(rung_big (by omega)).1]; exact decide_eq_true (by omega)
      · rw [(rung_pos (by omega)).1]; exact decide_eq_true (by omega)
    rw [read_fin (by split <;> omega) hfin]
    have e5 : rung (if n < 0 then 9223372036854775808 + k2 else k2) = k2 := by
      split
      · exact (rung_big (by omega)).1
      · exact (rung_pos (by omega)).1
    have e6 : sgn (if n < 0 then 9223372036854775808 + k2 else k2) = decide (n < 0) := by
      by_cases h : n < 0
      · rw [if_pos h, decide_eq_true h]; exact (rung_big (by omega)).2
      · rw [if_neg h, decide_eq_false h]; exact (rung_pos (by omega)).2
    rw [e5, e6, whole_cut _ j0 hJ]
    simp
  · rw [hr]
    congr 1
    unfold sdK
    rw [if_neg (by omega)]
    have e7 : ((n.natAbs * 2 ^ pX : Nat) : Int) - ((val k2 * 2 ^ kV : Nat) : Int) = ((n.natAbs : Int) - (J : Int)) * 2 ^ pX := by
      rw [hJ, Nat.mul_assoc, ← Nat.pow_add, Nat.add_comm twP kV, ← pX_eq, Int.sub_mul]
      push_cast
      rfl
    rw [e7, sg_mul]
    by_cases h : n < 0
    · rw [if_pos (by simpa using h), if_pos h]
      unfold sgI
      (repeat' split) <;> omega
    · rw [if_neg (by simpa using h), if_neg h, show (n.natAbs : Int) = n by omega]
end Go.Proofs.YtlhoidkfphellaaDoor
