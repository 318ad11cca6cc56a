/- What the document's To keeps of a finite float that is not nought, in plain numbers: so many units of a place, and what is left; that these tell the narrow rung below it, whether it is exact, and whether the nearest is the next one; and what To is by each way. No program. -/
import Derived.Test.YtekejddblgkcgaaDoorXn
import Derived.Test.YtekejddblgkcgaaDoorXs
import Derived.Test.YtekejddblgkcgaaDoorFb
namespace Go.Proofs.YtekejddblgkcgaaDoor
open Go.RowKit

theorem sp_parts {a : Nat} (hf : finB a = true) (h0 : rung a ≠ 0) : spF a ≠ 0 ∧ spF a < 9007199254740992 ∧ -1074 ≤ spE a ∧ spE a ≤ 1023 ∧ val (rung a) = spF a * 2 ^ (spE a + 1074).toNat := by
  obtain ⟨h1, h2, h3, h4, h5⟩ := sp_ok hf h0
  have h6 := (val_jR (f := spF a) (e := spE a) (by omega) h2 h3).1
  rw [h5] at h6
  exact ⟨by omega, h2, h3, h4, h6⟩
/-- What is kept by cutting digits off. -/
theorem keep_cut {R F e U d : Nat} (h0 : R ≠ 0) (hv : val R = F * 2 ^ e) (hd : U + 925 = e + d) (hn : F / 2 ^ d < 16777216) (hU : U = 0 ∨ 8388608 ≤ F / 2 ^ d) :
    S.val (flr R) = F / 2 ^ d * 2 ^ U ∧ S.val (flr R + 1) = (F / 2 ^ d + 1) * 2 ^ U ∧ exS R = decide (F % 2 ^ d = 0) ∧ mor R = (decide (2 ^ d < 2 * (F % 2 ^ d)) || (decide (2 ^ d = 2 * (F % 2 ^ d)) && F / 2 ^ d % 2 == 1)) := by
  have hg : gapS = 925 := rfl
  obtain ⟨v1, v2⟩ := s_val_kept hn hU
  have hdm := Nat.div_add_mod F (2 ^ d)
  have hml := Nat.mod_lt F (Nat.two_pow_pos d)
  have e1 : (2 : Nat) ^ U * 2 ^ gapS = 2 ^ d * 2 ^ e := by rw [← Nat.pow_add, ← Nat.pow_add, hg, hd, Nat.add_comm]
  have hp := Nat.two_pow_pos e
  have key : ∀ k, k * 2 ^ U * 2 ^ gapS = (k * 2 ^ d) * 2 ^ e := fun k => by rw [Nat.mul_assoc, e1, Nat.mul_assoc]
  obtain ⟨n, hN⟩ : ∃ n, F / 2 ^ d = n := ⟨_, rfl⟩
  obtain ⟨r, hR⟩ : ∃ r, F % 2 ^ d = r := ⟨_, rfl⟩
  rw [hN, hR] at hdm
  rw [hN] at v1 v2 hn hU
  rw [hR] at hml
  rw [hN, hR]
  have hf : flr R = U * 8388608 + n := by
    refine flr_one h0 ?_ ?_
    · rw [v1, key, hv]; exact Nat.mul_le_mul_right _ (by rw [Nat.mul_comm]; omega)
    · rw [v2, key, hv]; refine Nat.mul_lt_mul_of_pos_right ?_ hp
      rw [Nat.add_mul, Nat.mul_comm n]; omega
  have hm := mor_mid h0
  unfold exS
  rw [hf] at hm ⊢
  rw [v1, v2] at hm
  refine ⟨v1, v2, ?_, ?_⟩
  · rw [v1, key, hv, decide_eq_decide]
    constructor
    · intro h
      have := Nat.eq_of_mul_eq_mul_right hp h
      rw [Nat.mul_comm] at this; omega
    · intro h
      have : n * 2 ^ d = F := by rw [Nat.mul_comm]; omega
      rw [this]
  · rw [hm]
    have hs : (n * 2 ^ U + (n + 1) * 2 ^ U) * 2 ^ gapS = (2 * (2 ^ d * n) + 2 ^ d) * 2 ^ e := by
      rw [← Nat.add_mul, show n + (n + 1) = 2 * n + 1 by omega, key, Nat.add_mul, Nat.one_mul, Nat.mul_assoc, Nat.mul_comm n]
    have hF2 : 2 * F = 2 * (2 ^ d * n) + 2 * r := by omega
    have h2 : 2 * val R = (2 * (2 ^ d * n) + 2 * r) * 2 ^ e := by rw [hv, ← Nat.mul_assoc, hF2]
    have hpar : (U * 8388608 + n) % 2 = n % 2 := by omega
    have q1 : (2 * (2 ^ d * n) + 2 ^ d) * 2 ^ e < (2 * (2 ^ d * n) + 2 * r) * 2 ^ e ↔ 2 ^ d < 2 * r := by
      rw [Nat.mul_lt_mul_right hp]; omega
    have q2 : (2 * (2 ^ d * n) + 2 ^ d) * 2 ^ e = (2 * (2 ^ d * n) + 2 * r) * 2 ^ e ↔ 2 ^ d = 2 * r := by
      constructor
      · intro h
        have := Nat.eq_of_mul_eq_mul_right hp h
        omega
      · intro h; rw [h]
    rw [hs, h2, hpar, decide_eq_decide.2 q1, decide_eq_decide.2 q2]
/-- What is kept where nothing need be cut off. -/
theorem keep_all {R F e U : Nat} (h0 : R ≠ 0) (hv : val R = F * 2 ^ e) (hd : U + 925 = e) (hF : F ≠ 0) (hn : F < 16777216) :
    S.val (flr R) = F * 2 ^ U ∧ exS R = true ∧ mor R = false := by
  have l1 := Nat.log2_self_le hF
  have l2 := Nat.lt_log2_self (n := F)
  have l3 : F.log2 < 24 := (Nat.log2_lt hF).2 (by omega)
  obtain ⟨k, hk⟩ : ∃ k, min U (23 - F.log2) = k := ⟨_, rfl⟩
  have b1 : F * 2 ^ k < 16777216 := by
    have : F * 2 ^ k < 2 ^ (F.log2 + 1) * 2 ^ k := Nat.mul_lt_mul_of_pos_right l2 (Nat.two_pow_pos k)
    rw [← Nat.pow_add] at this
    have h2 : (2 : Nat) ^ (F.log2 + 1 + k) ≤ 2 ^ 24 := Nat.pow_le_pow_right (by omega) (by omega)
    omega
  have b2 : U - k = 0 ∨ 8388608 ≤ F * 2 ^ k := by
    by_cases c : U ≤ 23 - F.log2
    · left; omega
    · right
      have h1 : 2 ^ F.log2 * 2 ^ k ≤ F * 2 ^ k := Nat.mul_le_mul_right _ l1
      rw [← Nat.pow_add, show F.log2 + k = 23 by omega] at h1
      omega
  have h := keep_cut (R := R) (F := F * 2 ^ k) (e := e - k) (U := U - k) (d := 0) h0 (by rw [hv, Nat.mul_assoc, ← Nat.pow_add, show k + (e - k) = e by omega]) (by omega) (by rw [Nat.pow_zero, Nat.div_one]; exact b1) (by rw [Nat.pow_zero, Nat.div_one]; exact b2)
  rw [Nat.pow_zero, Nat.div_one, Nat.mod_one] at h
  refine ⟨?_, by rw [h.2.2.1]; rfl, by rw [h.2.2.2]; simp⟩
  rw [h.1, Nat.mul_assoc, ← Nat.pow_add, show k + (U - k) = U by omega]
/-- What is kept of the size at a rung: n units of 2^(U-149), and what is left of one more, held against its half. -/
structure Kp (R n U rest half : Nat) : Prop where
  lo : S.val (flr R) = n * 2 ^ U
  hi : rest ≠ 0 → S.val (flr R + 1) = (n + 1) * 2 ^ U
  ex : exS R = decide (rest = 0)
  mo : mor R = (decide (half < rest) || (decide (rest = half) && n % 2 == 1))
  nl : n < 16777216
  hp : half ≠ 0
/-- Nothing cut off; all cut off; something cut off. -/
theorem kp_all {R F : Nat} {E : Int} (h0 : R ≠ 0) (hv : val R = F * 2 ^ (E + 1074).toNat) (hF : F ≠ 0) (hn : F < 16777216) (hE : -149 ≤ E) : Kp R F (E + 149).toNat 0 1 := by
  obtain ⟨h1, h2, h3⟩ := keep_all (U := (E + 149).toNat) h0 hv (by omega) hF hn
  exact ⟨h1, fun h => absurd rfl h, by rw [h2]; rfl, by rw [h3]; rfl, hn, by omega⟩
theorem kp_none {R F : Nat} {E : Int} (h0 : R ≠ 0) (hv : val R = F * 2 ^ (E + 1074).toNat) (hE0 : -1074 ≤ E) (hF : F ≠ 0) (hn : F < 9007199254740992) (hE : E + 60 < -149) : Kp R 0 0 1 2 := by
  obtain ⟨d, hd⟩ : ∃ d : Nat, (d : Int) = -149 - E := ⟨(-149 - E).toNat, by omega⟩
  have hp : (2 : Nat) ^ 60 ≤ 2 ^ d := Nat.pow_le_pow_right (by omega) (by omega)
  have e1 : F / 2 ^ d = 0 := Nat.div_eq_of_lt (by omega)
  have e2 : F % 2 ^ d = F := Nat.mod_eq_of_lt (by omega)
  obtain ⟨h1, h2, h3, h4⟩ := keep_cut (U := 0) (d := d) h0 hv (by omega) (by rw [e1]; omega) (Or.inl rfl)
  rw [e1] at h1 h2 h4
  rw [e2] at h3 h4
  refine ⟨h1, fun _ => h2, ?_, ?_, by omega, by omega⟩
  · rw [h3, decide_eq_decide]; omega
  · rw [h4, decide_eq_false (show ¬ 2 ^ d < 2 * F by omega)]; simp
theorem kp_some {R F d : Nat} {E u : Int} (h0 : R ≠ 0) (hv : val R = F * 2 ^ (E + 1074).toNat) (hE0 : -1074 ≤ E) (hF : F ≠ 0) (_hn : F < 9007199254740992) (hu : max (E + ((F.log2 + 1 : Nat) : Int) - 24) (-149) = u) (hd : (d : Int) = u - E) (hd0 : d ≠ 0) :
    Kp R (F / 2 ^ d) (u + 149).toNat (F % 2 ^ d) (2 ^ (d - 1)) := by
  have l1 := Nat.log2_self_le hF
  have l2 := Nat.lt_log2_self (n := F)
  have hp := Nat.two_pow_pos d
  have b1 : F / 2 ^ d < 16777216 := by
    refine Nat.div_lt_of_lt_mul ?_
    have : (2 : Nat) ^ (F.log2 + 1) ≤ 2 ^ (d + 24) := Nat.pow_le_pow_right (by omega) (by omega)
    rw [Nat.pow_add 2 d 24] at this
    omega
  have b2 : (u + 149).toNat = 0 ∨ 8388608 ≤ F / 2 ^ d := by
    by_cases c : u = -149
    · left; omega
    · right
      rw [Nat.le_div_iff_mul_le hp]
      have : (2 : Nat) ^ (23 + d) ≤ 2 ^ F.log2 := Nat.pow_le_pow_right (by omega) (by omega)
      rw [Nat.pow_add] at this
      omega
  obtain ⟨h1, h2, h3, h4⟩ := keep_cut (U := (u + 149).toNat) (d := d) h0 hv (by omega) b1 b2
  have hh : 2 ^ d = 2 * 2 ^ (d - 1) := by
    obtain ⟨t, rfl⟩ : ∃ t, d = t + 1 := ⟨d - 1, by omega⟩
    rw [Nat.pow_succ, Nat.mul_comm]; rfl
  have hh0 := Nat.two_pow_pos (d - 1)
  refine ⟨h1, fun _ => h2, h3, ?_, b1, by omega⟩
  have q1 : 2 ^ d < 2 * (F % 2 ^ d) ↔ 2 ^ (d - 1) < F % 2 ^ d := by omega
  have q2 : 2 ^ d = 2 * (F % 2 ^ d) ↔ F % 2 ^ d = 2 ^ (d - 1) := by omega
  rw [h4, decide_eq_decide.2 q1, decide_eq_decide.2 q2]
/-- Is one more taken, by this way? Does the way lead away from nought? -/
def mrB (m : Int) (s : Bool) (rest half n : Nat) : Bool := if m = 1 then decide (0 < rest) && s else if m = 2 then decide (0 < rest) && !s else if m = 3 then false else decide (half < rest) || (decide (rest = half) && n % 2 == 1)
def awB (m : Int) (s : Bool) : Bool := decide (m ≠ 3) && (decide (m ≠ 1) || s) && (decide (m ≠ 2) || !s)
theorem mr_val {R n U rest half : Nat} (k : Kp R n U rest half) (m : Int) (s : Bool) : S.val (flr R + (mrB m s rest half n).toNat) = (n + (mrB m s rest half n).toNat) * 2 ^ U ∧ n + (mrB m s rest half n).toNat ≤ 16777216 := by
  have h1 := k.nl
  have h2 := k.hp
  cases hb : mrB m s rest half n
  · rw [show Bool.toNat false = 0 from rfl, Nat.add_zero, Nat.add_zero]
    exact ⟨k.lo, by omega⟩
  · rw [show Bool.toNat true = 1 from rfl]
    have hr : rest ≠ 0 := by
      intro h
      subst h
      unfold mrB at hb
      have a : ¬ half < 0 := by omega
      have b : ¬ 0 = half := by omega
      simp [a, b] at hb
    exact ⟨k.hi hr, by omega⟩
theorem mr_size {R n U rest half : Nat} (k : Kp R n U rest half) (m : Int) (s : Bool) :
    toSz R s (toDn m s) (toUp m s) = if 2139095040 ≤ flr R + (mrB m s rest half n).toNat then (if awB m s then 2139095040 else 2139095039) else flr R + (mrB m s rest half n).toNat := by
  have hx := k.ex
  have hm := k.mo
  unfold toSz zS aS nwr
  rw [hx, hm]
  have hz : decide (rest = 0) = !decide (0 < rest) := by
    by_cases h : rest = 0 <;> simp [h] <;> omega
  rw [hz]
  unfold mrB awB toDn toUp
  generalize (decide (half < rest) || (decide (rest = half) && n % 2 == 1)) = b
  generalize decide (0 < rest) = c
  generalize flr R = f
  by_cases m1 : m = 1
  · subst m1
    cases s <;> cases c <;> simp <;> (repeat' split) <;> omega
  · by_cases m2 : m = 2
    · subst m2
      cases s <;> cases c <;> simp <;> (repeat' split) <;> omega
    · by_cases m3 : m = 3
      · subst m3
        cases s <;> simp <;> (repeat' split) <;> omega
      · cases s <;> cases b <;> simp [m1, m2, m3] <;> (repeat' split) <;> omega
/-- What is as great as the infinity. -/
theorem s_top {V : Nat} (hV : V = 277) : S.val 2139095040 = 2 ^ V := by
  unfold S.val
  rw [if_neg (by omega), show 2139095040 % 8388608 = 0 by omega, show 2139095040 / 8388608 - 1 = V - 23 by omega]
  have e : V = 23 + (V - 23) := by omega
  have h : (2 : Nat) ^ (23 + (V - 23)) = 2 ^ 23 * 2 ^ (V - 23) := Nat.pow_add 2 23 (V - 23)
  rw [← e] at h
  rw [h]
theorem great_iff {r n U : Nat} (h : S.val r = n * 2 ^ U) (hn : n ≠ 0) : 2139095040 ≤ r ↔ 277 ≤ U + n.log2 := by
  obtain ⟨V, hV⟩ : ∃ V, V = 277 := ⟨_, rfl⟩
  have t := s_top hV
  have hl := log2_mul (d := U) hn
  have hne : n * 2 ^ U ≠ 0 := by have := Nat.mul_pos (Nat.pos_of_ne_zero hn) (Nat.two_pow_pos U); omega
  have h1 : 2139095040 ≤ r ↔ S.val 2139095040 ≤ S.val r := by
    have := S.val_lt_iff r 2139095040
    constructor
    · intro h; exact Nat.le_of_not_lt fun c => by have := this.1 c; omega
    · intro h; exact Nat.le_of_not_lt fun c => by have := this.2 c; omega
  rw [h1, t, h, ← Nat.le_log2 hne, hl]
  omega
/-- The digits of a number, by two. -/
def bln (n : Nat) : Nat := if n = 0 then 0 else n.log2 + 1
theorem bln_more {n b : Nat} : n / 2 ^ b ≠ 0 ↔ b < bln n := by
  unfold bln
  by_cases h : n = 0
  · subst h; simp
  · rw [if_neg h]
    have := Nat.le_log2 (k := b) h
    constructor
    · intro c
      have : 2 ^ b ≤ n := Nat.le_of_not_lt fun d => c (Nat.div_eq_of_lt d)
      omega
    · intro c d
      have h1 : 2 ^ b ≤ n := this.1 (by omega)
      have := Nat.div_pos h1 (Nat.two_pow_pos b)
      omega
theorem bln_lt {n k : Nat} (h : n < 2 ^ k) : bln n ≤ k := by
  unfold bln
  by_cases c : n = 0
  · rw [if_pos c]; omega
  · rw [if_neg c]
    have := (Nat.log2_lt c).2 h
    omega
/-- What is not too great is a float, as it stands in the last loop. -/
theorem jr_wd {r n : Nat} {u : Int} (hn : n ≠ 0) (hl : n ≤ 16777216) (hu : -149 ≤ u) (h : S.val r = n * 2 ^ (u + 149).toNat) : jR n u = wd r := by
  have a := (val_jR (f := n) (e := u) hn (by omega) (by omega)).1
  have b := wd_val r
  rw [h, Nat.mul_assoc, ← Nat.pow_add, show (u + 149).toNat + gapS = (u + 1074).toNat by have : gapS = 925 := rfl; omega, ← a] at b
  exact (val_inj b).symm
theorem two_nought : floatBits .mul .f64 0 4611686018427387904 = some 0 ∧ floatBits .quo .f64 0 4611686018427387904 = some 0 := by constructor <;> decide +kernel
end Go.Proofs.YtekejddblgkcgaaDoor
