/- What the reference's Rounded keeps of a size, in plain numbers: the same as the program's. -/
import Derived.Test.YtchegcocdgkneaaDoorYa
namespace Go.Proofs.YtchegcocdgkneaaDoor
open Go.RowKit

theorem lo_one {n : Nat} (h0 : n ≠ 0) (h : n < 18446744073709551616) : lo n = [n] := by
  have h1 := lo_vl (xs := [n]) (fun x hx => by simp at hx; omega) (Or.inr (by simpa using h0))
  rwa [show vl [n] = n by simp [vl]] at h1
/-- What is kept of v times 2^e ahead of rounding. -/
def K0 (v : Nat) (e : Int) : Nat := shr v (rDr v e)
theorem rLa_cases (v : Nat) (e : Int) : -1074 ≤ rLa v e ∧ (rLa v e = (bl v : Int) + e - 53 ∨ (rLa v e = -1074 ∧ (bl v : Int) + e - 53 < -1074)) := by unfold rLa; omega
theorem K0_bd {v : Nat} {e : Int} (h0 : v ≠ 0) : K0 v e < 9007199254740992 ∧ (rLa v e = -1074 ∨ 4503599627370496 ≤ K0 v e) ∧ (1024 < (bl v : Int) + e → bl (K0 v e) = 53) := by
  have hb := bl_spec h0
  obtain ⟨_, hla⟩ := rLa_cases v e
  have e0 : rDr v e = rLa v e - e := rfl
  have key : bl (K0 v e) ≤ 53 ∧ (rLa v e = (bl v : Int) + e - 53 → bl (K0 v e) = 53) := by
    unfold K0 shr
    by_cases hd : 0 ≤ rDr v e
    · rw [if_pos hd, show bl (v / 2 ^ (rDr v e).toNat) = bl v - (rDr v e).toNat from bl_div]
      omega
    · rw [if_neg hd, show bl (v * 2 ^ (-(rDr v e)).toNat) = bl v + (-(rDr v e)).toNat from bl_mul_pow h0]
      omega
  refine ⟨by have := bl_le_iff.1 key.1; omega, ?_, fun h => key.2 (by omega)⟩
  rcases hla with h | ⟨h, _⟩
  · right
    have h53 := key.2 h
    have hn : K0 v e ≠ 0 := by intro hz; rw [hz] at h53; simp [bl] at h53
    have := (bl_spec hn).1
    rw [h53] at this
    omega
  · exact Or.inl h
/-- What is left against the half. -/
def hlf (t : Nat) (more : Bool) : Int := if t % 2 = 1 then (if more then 1 else 0) else -1
theorem odd_rest {v k : Nat} (hv : v % 2 = 1) : (v % 2 ^ k != 0) = decide (0 < k) := by
  by_cases hk : k = 0
  · subst hk; simp [Nat.mod_one]
  · have h2 := pow_pred hk
    have hm : v % 2 ^ k % 2 = v % 2 := by rw [h2]; exact Nat.mod_mul_right_mod _ _ _
    have : v % 2 ^ k ≠ 0 := by intro hz; rw [hz] at hm; omega
    rw [Bool.eq_iff_iff]; simp; omega
theorem up_same {v : Nat} {e : Int} (h0 : v ≠ 0) (m : Int) (neg : Bool) (hd : 0 < rDr v e) :
    upB m neg (hlf (v / 2 ^ (rDr v e - 1).toNat) (decide (0 < (rDr v e - 1).toNat))) (K0 v e % 2 == 1) = rUp v (rDr v e) (szm neg m) := by
  have hw : win v (rDr v e) = K0 v e := by unfold win; exact Nat.mod_eq_of_lt (by have := (K0_bd (e := e) h0).1; unfold K0 at this; omega)
  have hw2 : win v (rDr v e - 1) % 2 = v / 2 ^ (rDr v e - 1).toNat % 2 := by
    unfold win shr
    rw [if_pos (by omega)]
    omega
  unfold upB rUp szm hlf
  rw [hw, hw2]
  obtain ⟨t, ht⟩ : ∃ t, v / 2 ^ (rDr v e - 1).toNat % 2 = t := ⟨_, rfl⟩
  rw [ht]
  obtain ⟨k, hk⟩ : ∃ k, K0 v e % 2 = k := ⟨_, rfl⟩
  rw [hk]
  have ht2 : t < 2 := by omega
  clear ht hw hw2 hk
  by_cases hdd : 1 < rDr v e
  · have d1 : decide (0 < (rDr v e - 1).toNat) = true := by simp; omega
    have d2 : decide (1 < rDr v e) = true := by simpa using hdd
    rw [d1, d2]
    rcases (show t = 0 ∨ t = 1 by omega) with rfl | rfl <;> cases neg <;> (repeat' split) <;> simp_all <;> omega
  · have d1 : decide (0 < (rDr v e - 1).toNat) = false := by simp; omega
    have d2 : decide (1 < rDr v e) = false := by simpa using hdd
    rw [d1, d2]
    rcases (show t = 0 ∨ t = 1 by omega) with rfl | rfl <;> cases neg <;> (repeat' split) <;> simp_all <;> omega
/-- What is kept in the end, and what is told of it. -/
theorem kept_same {v : Nat} {e : Int} (h0 : v ≠ 0) (s : Int) : rKp v e s = (if 0 < rDr v e ∧ rUp v (rDr v e) s = true then K0 v e + 1 else K0 v e) ∧ rKp v e s ≤ 9007199254740992 := by
  have hw : win v (rDr v e) = K0 v e := by unfold win; exact Nat.mod_eq_of_lt (by have := (K0_bd (e := e) h0).1; unfold K0 at this; omega)
  have hb := (K0_bd (e := e) h0).1
  unfold rKp
  rw [hw]
  exact ⟨rfl, by split <;> omega⟩
theorem great_same {v : Nat} {e : Int} (h0 : v ≠ 0) (m : Int) (neg : Bool) (hg : 1024 < (bl (rKp v e (szm neg m)) : Int) + rLa v e) : hugeW m neg = sw neg (rSz v e (szm neg m)) := by
  obtain ⟨b1, b2, b3⟩ := K0_bd (e := e) h0
  obtain ⟨c1, c2⟩ := kept_same (e := e) h0 (szm neg m)
  obtain ⟨_, hla⟩ := rLa_cases v e
  have hs : (szm neg m = 3) ↔ (m = 3 ∨ (m = 1 ∧ neg = false) ∨ (m = 2 ∧ neg = true)) := by
    unfold szm
    constructor
    · intro h
      by_cases hc : m = 3 ∨ (m = 1 ∧ neg = false) ∨ (m = 2 ∧ neg = true)
      · exact hc
      · rw [if_neg hc] at h; split at h <;> omega
    · intro h; rw [if_pos h]
  unfold hugeW rSz
  by_cases hbig : 1024 < (bl v : Int) + e
  · rw [if_pos hbig]
    congr 1
    by_cases hc : m = 3 ∨ (m = 1 ∧ neg = false) ∨ (m = 2 ∧ neg = true)
    · rw [if_pos hc, if_pos (hs.2 hc)]
    · rw [if_neg hc, if_neg (fun h => hc (hs.1 h))]
  · rw [if_neg hbig]
    have hK : rKp v e (szm neg m) = 9007199254740992 := by
      by_cases hh : rKp v e (szm neg m) < 9007199254740992
      · have := bl_le_iff.2 (show rKp v e (szm neg m) < 2 ^ 53 from hh)
        omega
      · omega
    have hbl : bl (9007199254740992) = 54 := by decide
    rw [hK] at hg ⊢
    rw [hbl] at hg
    have hup : rUp v (rDr v e) (szm neg m) = true := by
      rw [hK] at c1
      by_cases hu : 0 < rDr v e ∧ rUp v (rDr v e) (szm neg m) = true
      · exact hu.2
      · rw [if_neg hu] at c1; omega
    have hn3 : szm neg m ≠ 3 := by
      intro h
      rw [h] at hup
      unfold rUp at hup
      simp at hup
    rw [if_neg (fun h => hn3 (hs.2 h))]
    have hl : rLa v e = 971 := by omega
    rw [hl]
    congr 1
theorem fits_same {v : Nat} {e : Int} (h0 : v ≠ 0) (s : Int) (hg : (bl (rKp v e s) : Int) + rLa v e ≤ 1024) : rSz v e s = rW (rKp v e s) (rLa v e) ∧ rLa v e ≤ 971 ∧ (rLa v e = -1074 ∨ 4503599627370496 ≤ rKp v e s) ∧ rW (rKp v e s) (rLa v e) < 9218868437227405312 := by
  obtain ⟨b1, b2, b3⟩ := K0_bd (e := e) h0
  obtain ⟨c1, c2⟩ := kept_same (e := e) h0 s
  obtain ⟨hl0, hla⟩ := rLa_cases v e
  have hge : K0 v e ≤ rKp v e s := by rw [c1]; split <;> omega
  have hmono : bl (K0 v e) ≤ bl (rKp v e s) := by
    by_cases hz : rKp v e s = 0
    · rw [show K0 v e = 0 by omega]; rw [bl_zero]; omega
    · exact bl_le_iff.2 (Nat.lt_of_le_of_lt hge (bl_spec hz).2.1)
  have hbig : ¬ 1024 < (bl v : Int) + e := fun h => by
    have := b3 h
    omega
  have hl : rLa v e ≤ 971 := by omega
  refine ⟨by unfold rSz; rw [if_neg hbig], hl, b2.imp id (fun h => Nat.le_trans h hge), ?_⟩
  unfold rW
  by_cases hh : rKp v e s < 9007199254740992
  · omega
  · have hK : rKp v e s = 9007199254740992 := by omega
    have hbl : bl (9007199254740992) = 54 := by decide
    rw [hK, hbl] at hg
    omega
end Go.Proofs.YtchegcocdgkneaaDoor
