/- Roots of any floats never fall; the ways in their order, of any floats that are no NaN; min and max: no program in this text. -/
import Derived.Test.YtfipmopmpacdaaaGreatDoorX2
namespace Go.Proofs.YtfipmopmpacdaaaGreatDoor
open Go.RowKit
def Nmid (M : Nat → Nat) (A k : Nat) : Prop := k ≤ 9218868437227405312 ∧ ∀ r, r < 9218868437227405312 → (r < k ↔ (M r < A ∨ (M r = A ∧ r % 2 = 1)))
theorem nmid_mono {M : Nat → Nat} {A B j k : Nat} (h : A ≤ B) (hj : Nmid M A j) (hk : Nmid M B k) : j ≤ k := by
 rcases Nat.lt_or_ge k j with c | c
 ·exfalso
  have h1 := (hj.2 k (by have := hj.1; omega)).1 c
  have h2 : M k < B ∨ (M k = B ∧ k % 2 = 1) := by omega
  have h3 := (hk.2 k (by have := hj.1; omega)).2 h2
  omega
 ·exact c
theorem val_next53 (r : Nat) : 2 ^ up r ∣ val r ∧ 2 ^ up r ∣ val (r + 1) ∧ val (r + 1) ≤ 9007199254740992 * 2 ^ up r := by
 have h1 : val r = mg r * 2 ^ up r := (mg_up r).symm
 refine ⟨by rw [h1]; exact Nat.dvd_mul_left _ _, ?_, ?_⟩
 ·by_cases h : r + 1 < 4503599627370496
  ·have : up r = 0 := by unfold up; rw [if_pos (by omega)]
   rw [this]; exact Nat.one_dvd _
  ·rw [← mg_up (r + 1)]
   have : up r ≤ up (r + 1) := by unfold up; rw [if_neg h]; split <;> omega
   exact Nat.dvd_trans (Nat.pow_dvd_pow 2 this) (Nat.dvd_mul_left _ _)
 ·have hs : val (r + 1) ≤ (mg r + 1) * 2 ^ up r := by
   by_cases h : r + 1 < 4503599627370496
   ·unfold val mg up
    rw [if_pos h, if_pos (by omega), if_pos (by omega)]; simp
   ·by_cases h2 : r < 4503599627370496
    ·have e : r = 4503599627370495 := by omega
     subst e; decide
    ·unfold val mg up
     rw [if_neg h, if_neg h2, if_neg h2]
     by_cases h3 : r % 4503599627370496 + 1 < 4503599627370496
     ·have e1 : (r + 1) % 4503599627370496 = r % 4503599627370496 + 1 := by omega
      have e2 : (r + 1) / 4503599627370496 = r / 4503599627370496 := by omega
      rw [e1, e2]
      exact Nat.mul_le_mul_right _ (by omega)
     ·have e1 : (r + 1) % 4503599627370496 = 0 := by omega
      have e2 : (r + 1) / 4503599627370496 - 1 = (r / 4503599627370496 - 1) + 1 := by omega
      rw [e1, e2, Nat.pow_succ]
      have e3 : 4503599627370496 + r % 4503599627370496 + 1 = 2 * 4503599627370496 := by omega
      rw [e3]
      generalize 2 ^ (r / 4503599627370496 - 1) = t
      omega
  exact Nat.le_trans hs (Nat.mul_le_mul_right _ (mg_lt r))
theorem mid_units (r K C : Nat) : 4 * 2 ^ C ∣ (val r + val (r + 1)) * 2 ^ K ∨ (val r + val (r + 1)) * 2 ^ K ≤ 4 * 9007199254740992 * 2 ^ C := by
 obtain ⟨h1, h2, h3⟩ := val_next53 r
 rcases Nat.lt_or_ge (C + 1) (up r + K) with c | c
 ·left
  have e : 4 * 2 ^ C = 2 ^ (C + 2) := by rw [Nat.pow_add]; omega
  rw [e]
  have hd : 2 ^ up r * 2 ^ K ∣ (val r + val (r + 1)) * 2 ^ K := Nat.mul_dvd_mul_right (Nat.dvd_add h1 h2) _
  rw [← Nat.pow_add] at hd
  exact Nat.dvd_trans (Nat.pow_dvd_pow 2 (by omega)) hd
 ·right
  have v := val_step r
  have a1 : val r + val (r + 1) ≤ 2 * (9007199254740992 * 2 ^ up r) := by omega
  have a2 := Nat.mul_le_mul_right (2 ^ K) a1
  have a3 : 2 * (9007199254740992 * 2 ^ up r) * 2 ^ K = 2 * 9007199254740992 * 2 ^ (up r + K) := by rw [Nat.pow_add]; generalize 2 ^ up r = p; generalize 2 ^ K = q; ac_rfl
  have a4 : 2 * 9007199254740992 * 2 ^ (up r + K) ≤ 2 * 9007199254740992 * 2 ^ (C + 1) := Nat.mul_le_mul_left _ (pw_le c)
  rw [Nat.pow_succ] at a4
  omega
theorem quo_mid {N n Q R S u : Nat} (hn : 0 < n) (hu : 0 < u) (hN : N = n * Q + R) (hR : R < n) (hQ : 9007199254740992 ≤ Q) (hS : 4 * u ∣ S ∨ S ≤ 4 * 9007199254740992 * u) (o : Prop) :
  (S < 2 * ((2 * Q + (R != 0).toNat) * u) ∨ (S = 2 * ((2 * Q + (R != 0).toNat) * u) ∧ o)) ↔ (S * n < 4 * N * u ∨ (S * n = 4 * N * u ∧ o)) := by
 by_cases c : R = 0
 ·subst c
  have e : 4 * N * u = 2 * ((2 * Q + (0 != 0).toNat) * u) * n := by
   rw [hN]; simp only [bne_self_eq_false, Bool.toNat_false, Nat.add_zero]
   rw [show 4 * (n * Q) * u = (2 * 2) * (n * Q) * u by rfl]; ac_rfl
  rw [e]
  constructor
  ·rintro (h | ⟨h, g⟩)
   ·exact Or.inl (Nat.mul_lt_mul_of_pos_right h hn)
   ·exact Or.inr ⟨by rw [h], g⟩
  ·rintro (h | ⟨h, g⟩)
   ·exact Or.inl (Nat.lt_of_mul_lt_mul_right h)
   ·exact Or.inr ⟨Nat.eq_of_mul_eq_mul_right hn h, g⟩
 ·have e1 : (R != 0).toNat = 1 := by simp [c]
  rw [e1]
  have k1 : 4 * Q * u * n < 4 * N * u := by
   rw [hN, show 4 * Q * u * n = 4 * (n * Q) * u by ac_rfl]
   exact Nat.mul_lt_mul_of_pos_right (by omega) hu
  have k2 : 4 * N * u < (4 * Q + 4) * u * n := by
   rw [hN, show (4 * Q + 4) * u * n = (4 * (n * Q) + 4 * n) * u by rw [Nat.add_mul, Nat.add_mul, Nat.add_mul]; congr 1 <;> ac_rfl]
   exact Nat.mul_lt_mul_of_pos_right (by omega) hu
  have e2 : 2 * ((2 * Q + 1) * u) = (4 * Q + 2) * u := by rw [← Nat.mul_assoc]; congr 1; omega
  rw [e2]
  have key : (S ≤ 4 * Q * u ∧ True) ∨ (4 * Q + 4) * u ≤ S := by
   rcases hS with ⟨t, rfl⟩ | hS
   ·have e3 : 4 * u * t = 4 * t * u := by ac_rfl
    rw [e3]
    rcases Nat.lt_or_ge Q t with g | g
    ·exact Or.inr (Nat.mul_le_mul_right _ (by omega))
    ·exact Or.inl ⟨Nat.mul_le_mul_right _ (by omega), trivial⟩
   ·exact Or.inl ⟨Nat.le_trans hS (Nat.mul_le_mul_right _ (by omega)), trivial⟩
  have l1 : 4 * Q * u < (4 * Q + 2) * u := Nat.mul_lt_mul_of_pos_right (by omega) hu
  have l2 : (4 * Q + 2) * u < (4 * Q + 4) * u := Nat.mul_lt_mul_of_pos_right (by omega) hu
  rcases key with ⟨g, _⟩ | g
  ·have g2 := Nat.mul_le_mul_right n g
   exact ⟨fun _ => Or.inl (by omega), fun _ => Or.inl (by omega)⟩
  ·have g2 := Nat.mul_le_mul_right n g
   exact ⟨fun h => by omega, fun h => by omega⟩
theorem root_mid {N w S u : Nat} (h1 : w * w ≤ N) (h2 : N < (w + 1) * (w + 1)) (hu : 0 < u) (hQ : 9007199254740992 ≤ w) (hS : 4 * u ∣ S ∨ S ≤ 4 * 9007199254740992 * u) (o : Prop) :
  (S < 2 * ((2 * w + (w * w != N).toNat) * u) ∨ (S = 2 * ((2 * w + (w * w != N).toNat) * u) ∧ o)) ↔ (S * S < 16 * N * (u * u) ∨ (S * S = 16 * N * (u * u) ∧ o)) := by
 have huu : 0 < u * u := Nat.mul_pos hu hu
 have sq : ∀ x : Nat, 4 * x * u * (4 * x * u) = 16 * (x * x) * (u * u) := fun x => by
  rw [show 4 * x * u * (4 * x * u) = (4 * 4) * (x * x) * (u * u) by ac_rfl]
 by_cases c : w * w = N
 ·have e : (w * w != N).toNat = 0 := by simp [c]
  rw [e, Nat.add_zero, show 2 * (2 * w * u) = 4 * w * u by rw [← Nat.mul_assoc, ← Nat.mul_assoc]]
  have e2 := sq w
  rw [c] at e2
  rw [← e2]
  constructor
  ·rintro (h | ⟨h, g⟩)
   ·exact Or.inl (Nat.mul_self_lt_mul_self h)
   ·exact Or.inr ⟨by rw [h], g⟩
  ·rintro (h | ⟨h, g⟩)
   ·exact Or.inl (Nat.mul_self_lt_mul_self_iff.1 h)
   ·exact Or.inr ⟨Nat.mul_self_inj.1 h, g⟩
 ·have e1 : (w * w != N).toNat = 1 := by simp [c]
  rw [e1]
  have k1 : 4 * w * u * (4 * w * u) < 16 * N * (u * u) := by
   rw [sq]; exact Nat.mul_lt_mul_of_pos_right (by omega) huu
  have k2 : 16 * N * (u * u) < 4 * (w + 1) * u * (4 * (w + 1) * u) := by
   rw [sq]; exact Nat.mul_lt_mul_of_pos_right (by omega) huu
  have e2 : 2 * ((2 * w + 1) * u) = (4 * w + 2) * u := by rw [← Nat.mul_assoc]; congr 1; omega
  rw [e2]
  have key : S ≤ 4 * w * u ∨ 4 * (w + 1) * u ≤ S := by
   rcases hS with ⟨t, rfl⟩ | hS
   ·have e3 : 4 * u * t = 4 * t * u := by ac_rfl
    rw [e3]
    rcases Nat.lt_or_ge w t with g | g
    ·exact Or.inr (Nat.mul_le_mul_right _ (by omega))
    ·exact Or.inl (Nat.mul_le_mul_right _ (by omega))
   ·exact Or.inl (Nat.le_trans hS (Nat.mul_le_mul_right _ (by omega)))
  have l1 : 4 * w * u < (4 * w + 2) * u := Nat.mul_lt_mul_of_pos_right (by omega) hu
  have l2 : (4 * w + 2) * u < 4 * (w + 1) * u := Nat.mul_lt_mul_of_pos_right (by omega) hu
  rcases key with g | g
  ·have g2 := Nat.mul_self_le_mul_self g
   exact ⟨fun _ => Or.inl (by omega), fun _ => Or.inl (by omega)⟩
  ·have g2 := Nat.mul_self_le_mul_self g
   exact ⟨fun h => by omega, fun h => by omega⟩
theorem rgS_dn {k : Nat} {r m : Int} (h : m = 1 ∨ m = 3) : rgS k r m = if r < 0 then k - 1 else k := by
 have m2 : ¬ m = 2 := by omega
 unfold rgS
 by_cases c : r < 0
 ·rw [if_pos ⟨h, c⟩, if_pos c]
 ·rw [if_neg (fun x => c x.2), if_neg c, if_neg (fun x => m2 x.1)]
theorem rgS_up {k : Nat} {r : Int} : rgS k r 2 = if 0 < r then k + 1 else k := by
 unfold rgS
 rw [if_neg (fun x => absurd x.1 (by decide))]
 by_cases c : 0 < r
 ·rw [if_pos ⟨rfl, c⟩, if_pos c]
 ·rw [if_neg (fun x => c x.2), if_neg c]
theorem rgS_at {k : Nat} {r m : Int} (h1 : ¬ (m = 1 ∨ m = 3)) (h2 : ¬ m = 2) : rgS k r m = k := by
 unfold rgS
 rw [if_neg (fun x => h1 x.1), if_neg (fun x => h2 x.1)]
theorem rgS_mono {A B : Nat} {G M : Nat → Nat} {j k : Nat} {r q : Int} (hG : ∀ a b, a < b → G a < G b) (h : A ≤ B) (ha : Brk A G j r) (hb : Brk B G k q) (c : Nat) (na : Nmid M (c * A) j) (nb : Nmid M (c * B) k) (m : Int) : rgS j r m ≤ rgS k q m := by
 have hG' : ∀ a b, G a < G b → a < b := fun a b g => by
  rcases Nat.lt_trichotomy a b with x | x | x
  ·exact x
  ·subst x; omega
  ·have := hG b a x; omega
 have hk := nmid_mono (Nat.mul_le_mul_left c h) na nb
 obtain ⟨jk, a0, a1, a2⟩ := ha
 obtain ⟨kk, b0, b1, b2⟩ := hb
 by_cases m1 : m = 1 ∨ m = 3
 ·rw [rgS_dn m1, rgS_dn m1]
  by_cases r1 : r < 0
  ·rw [if_pos r1]
   split <;> omega
  ·rw [if_neg r1]
   by_cases q1 : q < 0
   ·rw [if_pos q1]
    obtain ⟨k0, _, bk⟩ := b2 q1
    have gj : j < 9218868437227405312 ∧ G j ≤ A := by
     rcases Int.lt_trichotomy r 0 with x | x | x
     ·exact absurd x r1
     ·have := a0 x; exact ⟨this.1, by omega⟩
     ·have := a1 x; exact ⟨this.1, by omega⟩
    by_cases ki : k < 9218868437227405312
    ·have := hG' j k (by have := bk ki; omega)
     omega
    ·omega
   ·rw [if_neg q1]; exact hk
 ·by_cases m2 : m = 2
  ·subst m2
   rw [rgS_up, rgS_up]
   by_cases r1 : 0 < r
   ·rw [if_pos r1]
    by_cases q1 : 0 < q
    ·rw [if_pos q1]; omega
    ·rw [if_neg q1]
     obtain ⟨ji, gj, _⟩ := a1 r1
     by_cases ki : k < 9218868437227405312
     ·have gk : B ≤ G k := by
       rcases Int.lt_trichotomy q 0 with x | x | x
       ·have := (b2 x).2.2 ki; omega
       ·have := (b0 x).2; omega
       ·exact absurd x q1
      exact hG' j k (by omega)
     ·omega
   ·rw [if_neg r1]
    split <;> omega
  ·rw [rgS_at m1 m2, rgS_at m1 m2]; exact hk
theorem stepF_nil (x : Nat) (r : Int) : stepF x r 0 = x := by
 unfold stepF dnB upB
 simp
theorem div_nmid {a b : Nat} (ha : a < 18446744073709551616) (hb : b < 18446744073709551616) (sa : someB a = true) (sb : someB b = true) : Nmid (fun q => (val q + val (q + 1)) * val (rung b)) (2 * (val (rung a) * 2 ^ twP)) (rung (kQ a b)) := by
 obtain ⟨fa, a0⟩ := some_rung sa
 obtain ⟨fb, b0⟩ := some_rung sb
 have a0' : rung a ≠ 0 := by simpa using a0
 have b0' : rung b ≠ 0 := by simpa using b0
 have m1 : mg (rung a) ≠ 0 := mg_ne a0'
 have m2 : mg (rung b) ≠ 0 := mg_ne b0'
 have hq : floatBits .quo .f64 a b = some (kQ a b) := by
  obtain ⟨q, hq⟩ : ∃ q, floatBits .quo .f64 a b = some q := by
   rw [(fbits_map a b).2.2.2, read_fin ha fa, read_fin hb fb]
   simp only [Ieee.Datum.quotient]
   rw [if_neg m2]
   exact ⟨_, rfl⟩
  unfold kQ; rw [hq]; rfl
 rw [(fbits_map a b).2.2.2, read_fin ha fa, read_fin hb fb] at hq
 simp only [Ieee.Datum.quotient] at hq
 rw [if_neg m2] at hq
 simp only [Option.map_some, Ieee.Format.write, Option.some.injEq] at hq
 obtain ⟨more, hmore⟩ : ∃ d, 54 + (mg (rung b)).log2 - (mg (rung a)).log2 = d := ⟨_, rfl⟩
 rw [hmore] at hq
 have l1 := log_bd m1 (mg_lt _)
 have hQ : 9007199254740992 ≤ mg (rung a) <<< more / mg (rung b) := by
  rw [Nat.le_div_iff_mul_le (Nat.pos_of_ne_zero m2), Nat.shiftLeft_eq]
  have e1 : 2 ^ (mg (rung a)).log2 * 2 ^ more ≤ mg (rung a) * 2 ^ more := Nat.mul_le_mul_right _ (Nat.log2_self_le m1)
  have e2 : 9007199254740992 * mg (rung b) ≤ 9007199254740992 * 2 ^ ((mg (rung b)).log2 + 1) := Nat.mul_le_mul_left _ (Nat.le_of_lt Nat.lt_log2_self)
  have e3 : 9007199254740992 * 2 ^ ((mg (rung b)).log2 + 1) = 2 ^ (mg (rung a)).log2 * 2 ^ more := by
   rw [show (9007199254740992 : Nat) = 2 ^ 53 by decide, ← Nat.pow_add, ← Nat.pow_add]
   congr 1
   omega
  omega
 obtain ⟨k, e, hk, c⟩ := near_anyD (sgn a ^^ sgn b) (-1074 + ((up (rung a) : Nat) : Int) - (-1074 + ((up (rung b) : Nat) : Int)) - (more : Int) - 1) (up (rung b) + more + 1) (m := 2 * (mg (rung a) <<< more / mg (rung b)) + (mg (rung a) <<< more % mg (rung b) != 0).toNat) (by omega) (by omega)
 have hexp : (-1074 + ((up (rung a) : Nat) : Int) - (-1074 + ((up (rung b) : Nat) : Int)) - (more : Int) - 1 + 1074 + ((up (rung b) + more + 1 : Nat) : Int)).toNat = up (rung a) + twP := by unfold twP; omega
 rw [hexp] at c
 rw [e] at hq
 rw [← hq, (word_rung _ (show k < 9223372036854775808 by omega)).1]
 have hn := Nat.pos_of_ne_zero m2
 have hu := Nat.two_pow_pos (up (rung a) + twP)
 refine ⟨hk, fun r hr => ?_⟩
 rw [c r hr]
 have key := quo_mid (S := (val r + val (r + 1)) * 2 ^ (up (rung b) + more + 1)) hn hu (Nat.div_add_mod (mg (rung a) <<< more) (mg (rung b))).symm (Nat.mod_lt _ hn) hQ (mid_units r _ _) (r % 2 = 1)
 unfold aboveD
 rw [key]
 have eT : (val r + val (r + 1)) * 2 ^ (up (rung b) + more + 1) * mg (rung b) = (val r + val (r + 1)) * val (rung b) * 2 ^ (more + 1) := by
  rw [← mg_up (rung b), show up (rung b) + more + 1 = up (rung b) + (more + 1) by omega, Nat.pow_add]
  generalize val r + val (r + 1) = V
  generalize 2 ^ up (rung b) = U
  generalize (2 : Nat) ^ (more + 1) = W
  generalize mg (rung b) = B
  ac_rfl
 have eN : 4 * (mg (rung a) <<< more) * 2 ^ (up (rung a) + twP) = 2 * (val (rung a) * 2 ^ twP) * 2 ^ (more + 1) := by
  rw [Nat.shiftLeft_eq, ← mg_up (rung a), Nat.pow_add 2 (up (rung a)), Nat.pow_succ]
  generalize mg (rung a) = A
  generalize 2 ^ up (rung a) = U
  generalize (2 : Nat) ^ twP = W
  generalize (2 : Nat) ^ more = Z
  rw [show 4 * (A * Z) * (U * W) = (2 * 2) * (A * Z) * (U * W) by rfl]
  ac_rfl
 rw [eT, eN]
 have hp := Nat.two_pow_pos (more + 1)
 constructor
 ·rintro (h | ⟨h, g⟩)
  ·exact Or.inl (Nat.lt_of_mul_lt_mul_right h)
  ·exact Or.inr ⟨Nat.eq_of_mul_eq_mul_right hp h, g⟩
 ·rintro (h | ⟨h, g⟩)
  ·exact Or.inl (Nat.mul_lt_mul_of_pos_right h hp)
  ·exact Or.inr ⟨by rw [show (val r + val (r + 1)) * val (rung b) = 2 * (val (rung a) * 2 ^ twP) from h], g⟩
theorem root_nmid {a : Nat} (ha : a < 18446744073709551616) (sa : someB a = true) (hs : sgn a = false) : Nmid (fun q => (val q + val (q + 1)) * (val q + val (q + 1))) (4 * (val (rung a) * 2 ^ twP)) (rung (tQ a)) := by
 obtain ⟨fa, a0⟩ := some_rung sa
 have a0' : rung a ≠ 0 := by simpa using a0
 have m1 : mg (rung a) ≠ 0 := mg_ne a0'
 have m2 : mg (rung a) < 9007199254740992 := mg_lt _
 have hl := log_bd m1 m2
 have hq := root_some ha sa hs
 have hq2 : ((Ieee.double.read a).root 54).map Ieee.double.write = some (tQ a) := hq
 rw [read_fin ha fa, hs] at hq2
 simp only [Ieee.Datum.root] at hq2
 rw [if_neg m1, if_neg (by simp)] at hq2
 simp only [Option.map_some, Ieee.Format.write, Option.some.injEq] at hq2
 obtain ⟨u, hu1⟩ : ∃ u, up (rung a) = u := ⟨_, rfl⟩
 obtain ⟨M, hM⟩ : ∃ M, mg (rung a) = M := ⟨_, rfl⟩
 have eV : val (rung a) = M * 2 ^ u := by rw [← mg_up, hM, hu1]
 rw [hu1, hM] at hq2
 rw [hM] at m1 m2 hl
 obtain ⟨more, hmore⟩ : ∃ d, 2 * 54 - M.log2 + ((-1074 + (u : Int) - ((2 * 54 - M.log2 : Nat) : Int)) % 2).toNat = d := ⟨_, rfl⟩
 rw [hmore] at hq2
 have g1 : 108 ≤ M.log2 + more ∧ M.log2 + more ≤ 109 := by omega
 obtain ⟨w, hw⟩ : ∃ w, Ieee.Datum.rootFrom (M <<< more) ((M <<< more).log2 / 2 + 1) 0 = w := ⟨_, rfl⟩
 obtain ⟨R1, R2⟩ := root_whole (M <<< more)
 rw [hw] at hq2 R1 R2
 have n1 : 2 ^ 108 ≤ M <<< more := by
  rw [Nat.shiftLeft_eq]
  have h1 := Nat.log2_self_le m1
  have h2 := Nat.mul_le_mul_right (2 ^ more) h1
  rw [← Nat.pow_add] at h2
  exact Nat.le_trans (Nat.pow_le_pow_right (by omega) g1.1) h2
 have w1 : 9007199254740992 ≤ w := by
  rcases Nat.lt_or_ge w 9007199254740992 with h | h
  ·exfalso
   have h2 : (w + 1) * (w + 1) ≤ 9007199254740992 * 9007199254740992 := Nat.mul_le_mul h h
   omega
  ·exact h
 obtain ⟨p, hp⟩ : ∃ p, (-1074 + (u : Int) - (more : Int)) / 2 - 1 = p := ⟨_, rfl⟩
 rw [hp] at hq2
 have p1 : -593 ≤ p := by omega
 obtain ⟨k, e, hk, c⟩ := near_anyD false p 0 (m := 2 * w + (w * w != M <<< more).toNat) (by omega) (by omega)
 obtain ⟨C, hC⟩ : ∃ C : Nat, (p + 1074 + ((0 : Nat) : Int)).toNat = C := ⟨_, rfl⟩
 rw [hC] at c
 have hC2 : 2 + more + 2 * C = u + twP := by unfold twP; omega
 rw [e] at hq2
 rw [← hq2, (word_rung _ (show k < 9223372036854775808 by omega)).1]
 have hu := Nat.two_pow_pos C
 have eN : 16 * (M <<< more) * (2 ^ C * 2 ^ C) = 4 * (val (rung a) * 2 ^ twP) := by
  have e5 : (2 : Nat) ^ u * 2 ^ twP = 2 ^ 2 * 2 ^ more * (2 ^ C * 2 ^ C) := by
   rw [← Nat.pow_add, ← Nat.pow_add, ← Nat.pow_add, ← Nat.pow_add, ← hC2, show 2 * C = C + C by omega]
  rw [Nat.shiftLeft_eq, eV, Nat.mul_assoc M, e5, show (16 : Nat) = 4 * 2 ^ 2 by decide]
  generalize (2 : Nat) ^ C = Y
  generalize (2 : Nat) ^ more = Z
  generalize (2 : Nat) ^ 2 = F
  ac_rfl
 refine ⟨hk, fun r hr => ?_⟩
 rw [c r hr]
 have mu := mid_units r 0 C
 rw [Nat.pow_zero, Nat.mul_one] at mu
 have key := root_mid (S := val r + val (r + 1)) R1 R2 hu w1 mu (r % 2 = 1)
 unfold aboveD
 rw [Nat.pow_zero, Nat.mul_one, key, eN]
theorem told_le {A B : Nat} {G M : Nat → Nat} {f g : Int → Nat} {s : Bool} (hG : ∀ a b, a < b → G a < G b) (h : A ≤ B) (hf : Told s A G f) (hg : Told s B G g) {c x y : Nat} (ex : f 0 = x) (ey : g 0 = y) (nx : Nmid M (c * A) (rung x)) (ny : Nmid M (c * B) (rung y)) (m : Int) : tnS s (place (f m)) ≤ tnS s (place (g m)) ∧ 0 ≤ tnS s (place (f m)) ∧ 0 ≤ tnS s (place (g m)) := by
 obtain ⟨j, r, hj, fj⟩ := hf
 obtain ⟨k, q, hk, gk⟩ := hg
 have at0 : ∀ (j : Nat) (r : Int), rgS j r (if s = true then tmd 0 else 0) = j := fun j r => by
  cases s
  ·exact rgS_at (by decide) (by decide)
  ·exact rgS_at (by decide) (by decide)
 have e1 : rung x = j := by
  rw [← ex, fj 0, at0]
  exact (word_rung _ (show j < 9223372036854775808 by have := hj.1; omega)).1
 have e2 : rung y = k := by
  rw [← ey, gk 0, at0]
  exact (word_rung _ (show k < 9223372036854775808 by have := hk.1; omega)).1
 rw [e1] at nx
 rw [e2] at ny
 have b : ∀ {A : Nat} {j : Nat} {r : Int} (h : Brk A G j r) (m : Int), rgS j r m ≤ 9218868437227405312 := fun {A j r} h m => by
  obtain ⟨hk, _, b1, _⟩ := h
  unfold rgS
  by_cases c1 : (m = 1 ∨ m = 3) ∧ r < 0
  ·rw [if_pos c1]; omega
  ·rw [if_neg c1]
   by_cases c2 : m = 2 ∧ 0 < r
   ·rw [if_pos c2]; have := (b1 c2.2).1; omega
   ·rw [if_neg c2]; exact hk
 rw [fj m, gk m, place_word s (b hj _), place_word s (b hk _), tnS_two, tnS_two]
 have := rgS_mono hG h hj hk c nx ny (if s = true then tmd m else m)
 omega
theorem gr_div {b : Nat} (sb : someB b = true) : ∀ p q, p < q → (fun q => val q * val (rung b)) p < (fun q => val q * val (rung b)) q := fun _ _ h => Nat.mul_lt_mul_of_pos_right (val_lt h) (val_ne sb)
theorem gr_sq : ∀ p q, p < q → (fun q => val q * val q) p < (fun q => val q * val q) q := fun _ _ h => Nat.mul_self_lt_mul_self (val_lt h)
def Fn (x : Nat) : Prop := x < 18446744073709551616 ∧ nanB x = false
theorem fn_rung {x : Nat} (h : Fn x) : rung x ≤ 9218868437227405312 := by have := h.2; unfold nanB at this; simpa using this
def LeO (o p : Option Nat) : Prop := ∀ r s, o = some r → p = some s → place r ≤ place s
def Bd (r : Nat) : Prop := -9218868437227405312 ≤ place r ∧ place r ≤ 9218868437227405312
theorem fn_inf {x : Nat} (h : Fn x) (f : finB x = false) : Ieee.double.read x = .infinity (sgn x) ∧ x = Ieee.double.word (sgn x) 9218868437227405312 ∧ rung x = 9218868437227405312 := by
 have hr : rung x = 9218868437227405312 := by have := fn_rung h; unfold finB at f; simp at f; omega
 rcases it_inf h.1 f with ⟨_, h2, h3⟩ | ⟨h1, _⟩
 ·exact ⟨h2, h3, hr⟩
 ·rw [h.2] at h1; cases h1
theorem pl_inf {x : Nat} (h : Fn x) (f : finB x = false) : place x = tnS (sgn x) 9218868437227405312 := by
 unfold place
 rw [(fn_inf h f).2.2]; rfl
theorem pl_fin {x : Nat} (f : finB x = true) : -9218868437227405312 < place x ∧ place x < 9218868437227405312 := by
 have := fin_rung f
 unfold place
 split <;> omega
theorem mono_core {F : Nat → Option Nat} (h1 : ∀ x, Fn x → finB x = false → F x = some x) (h2 : ∀ x, Fn x → finB x = true → ∀ r, F x = some r → Bd r) (h3 : ∀ x y, Fn x → Fn y → finB x = true → finB y = true → place x ≤ place y → LeO (F x) (F y)) {a b : Nat} (ha : Fn a) (hb : Fn b) (h : place a ≤ place b) : LeO (F a) (F b) := by
 intro r s er es
 cases fa : finB a
 ·rw [h1 a ha fa] at er
  cases er
  cases fb : finB b
  ·rw [h1 b hb fb] at es
   cases es
   exact h
  ·have p1 := pl_inf ha fa
   have p2 := pl_fin fb
   have p3 := h2 b hb fb s es
   unfold Bd at p3
   cases hs : sgn a <;> rw [hs] at p1 <;> simp only [tnS, if_true, Bool.false_eq_true, if_false] at p1 <;> omega
 ·cases fb : finB b
  ·rw [h1 b hb fb] at es
   cases es
   have p1 := pl_inf hb fb
   have p2 := pl_fin fa
   have p3 := h2 a ha fa r er
   unfold Bd at p3
   cases hs : sgn b <;> rw [hs] at p1 <;> simp only [tnS, if_true, Bool.false_eq_true, if_false] at p1 <;> omega
  ·exact h3 a b ha hb fa fb h r s er es
theorem vI_le_of {x y : Nat} (h : place x ≤ place y) : vI x ≤ vI y := by
 have hl := fun {p q : Nat} (h : p ≤ q) => val_le_D h
 have hz := val_zero
 unfold place at h
 unfold vI
 revert h
 cases sgn x <;> cases sgn y <;> intro h <;> simp only [if_true, Bool.false_eq_true, if_false] at h ⊢
 ·have := hl (p := rung x) (q := rung y) (by omega); omega
 ·have e1 : rung x = 0 := by omega
  have e2 : rung y = 0 := by omega
  rw [e1, e2, hz]; simp
 ·omega
 ·have := hl (p := rung y) (q := rung x) (by omega); omega
theorem plX_bd (X m : Int) : -9218868437227405312 ≤ plX X m ∧ plX X m ≤ 9218868437227405312 := by
 unfold plX
 by_cases h0 : X = 0
 ·rw [if_pos h0]; omega
 ·rw [if_neg h0]
  have nX := fuK_near h0
  have aX := fu_units h0
  rcases Int.lt_or_le X 0 with c | c
  ·rw [fuV_neg m c, (place_rung (rg_le (tmd m) aX nX)).2]
   have := rg_le (tmd m) aX nX
   omega
  ·rw [fuV_pos m (by omega), (place_rung (rg_le m aX nX)).1]
   have := rg_le m aX nX
   omega
theorem mul_fin_place {x c : Nat} (m : Int) (hx : Fn x) (hc : Fn c) (fx : finB x = true) (fc : finB c = true) {r : Nat} (er : mulO x c m = some r) : place r = plX (vI x * vI c) m := by
 unfold mulO at er
 cases hs : (someB x && someB c)
 ·rw [hs] at er
  have hz : rung x = 0 ∨ rung c = 0 := by
   cases sx : someB x
   ·exact Or.inl (nil_of fx sx)
   ·rw [sx] at hs
    exact Or.inr (nil_of fc (by simpa using hs))
  have z := (mul_nought hx.1 hc.1 fx fc hz er).1
  have e : vI x * vI c = 0 := by
   rcases hz with g | g
   ·rw [vI_nought g, Int.zero_mul]
   ·rw [vI_nought g, Int.mul_zero]
  unfold plX
  rw [if_pos e]
  unfold place
  rw [z]; split <;> rfl
 ·have sx : someB x = true := by revert hs; cases someB x <;> simp
  have sc : someB c = true := by revert hs; cases someB c <;> simp
  rw [hs, if_pos rfl, mul_fu m hx.1 hc.1 sx sc] at er
  have a0 : rung x ≠ 0 := by simpa using (some_rung sx).2
  have b0 : rung c ≠ 0 := by simpa using (some_rung sc).2
  have hX := (mul_sign (vI_sign a0).1 (vI_sign b0).1).1
  unfold plX
  rw [if_neg hX]
  rw [← Option.some.inj er]
theorem mulO_le {a b c : Nat} (m : Int) (ha : Fn a) (hb : Fn b) (hc : Fn c) (gc : sgn c = false) (h : place a ≤ place b) : LeO (mulO a c m) (mulO b c m) := by
 have vc : 0 ≤ vI c := by unfold vI; rw [gc]; simp
 have other : ∀ x, someB c = false → mulO x c m = floatBits .mul .f64 x c := fun x s => by unfold mulO; rw [s, Bool.and_false]; rfl
 cases fc : finB c
 ·-- times an infinity
  have sc : someB c = false := by unfold someB; rw [fc]; rfl
  have key : ∀ x r, Fn x → mulO x c m = some r → rung x ≠ 0 ∧ place r = tnS (sgn x) 9218868437227405312 := fun x r hx e => by
   rw [other x sc, (fbits_map x c).2.2.1, (fn_inf hc fc).1, gc] at e
   cases fx : finB x
   ·rw [(fn_inf hx fx).1] at e
    simp only [Ieee.Datum.product, Bool.xor_false] at e
    refine ⟨by rw [(fn_inf hx fx).2.2]; omega, ?_⟩
    rw [← Option.some.inj e]
    exact place_word _ (Nat.le_refl _)
   ·rw [read_fin hx.1 fx] at e
    simp only [Ieee.Datum.product] at e
    by_cases x0 : mg (rung x) = 0
    ·rw [if_pos x0] at e; cases e
    ·rw [if_neg x0] at e
     refine ⟨fun g => x0 (by rw [g]; decide), ?_⟩
     rw [← Option.some.inj e]
     have : (false ^^ sgn x) = sgn x := Bool.false_xor _
     show place (Ieee.double.word (false ^^ sgn x) 9218868437227405312) = _
     rw [this]
     exact place_word _ (Nat.le_refl _)
  intro r s er es
  obtain ⟨a0, p1⟩ := key a r ha er
  obtain ⟨b0, p2⟩ := key b s hb es
  rw [p1, p2]
  unfold place at h
  cases sa : sgn a <;> cases sb : sgn b <;> rw [sa, sb] at h <;> simp only [tnS, if_true, Bool.false_eq_true, if_false] at h ⊢ <;> omega
 ·by_cases c0 : rung c = 0
  ·have sc : someB c = false := by unfold someB; rw [fc, c0]; rfl
   have key : ∀ x r, Fn x → mulO x c m = some r → place r = 0 := fun x r hx e => by
    cases fx : finB x
    ·rw [other x sc, (fbits_map x c).2.2.1, (fn_inf hx fx).1, read_fin hc.1 fc] at e
     simp only [Ieee.Datum.product] at e
     rw [if_pos (show mg (rung c) = 0 by rw [c0]; decide)] at e
     cases e
    ·rw [mul_fin_place m hx hc fx fc e, vI_nought c0, Int.mul_zero]; rfl
   intro r s er es
   rw [key a r ha er, key b s hb es]
   exact Int.le_refl _
  ·refine mono_core (F := fun x => mulO x c m) (fun x hx fx => ?_) (fun x hx fx r er => ?_) (fun x y hx hy fx fy hxy => ?_) ha hb h
   ·have sx : someB x = false := by unfold someB; rw [fx]; rfl
    show mulO x c m = some x
    unfold mulO
    rw [sx, Bool.false_and]
    show floatBits .mul .f64 x c = some x
    rw [(fbits_map x c).2.2.1, (fn_inf hx fx).1, read_fin hc.1 fc, gc]
    simp only [Ieee.Datum.product, Bool.xor_false]
    rw [if_neg (mg_ne c0)]
    show some (Ieee.double.word (sgn x) 9218868437227405312) = _
    rw [← (fn_inf hx fx).2.1]
   ·unfold Bd
    rw [mul_fin_place m hx hc fx fc er]
    exact plX_bd _ _
   ·intro r s er es
    rw [mul_fin_place m hx hc fx fc er, mul_fin_place m hy hc fy fc es]
    exact plX_mono m (Int.mul_le_mul_of_nonneg_right (vI_le_of hxy) vc)
theorem zero_place {z : Nat} (h : rung z = 0) : place z = 0 := by unfold place; rw [h]; split <;> rfl
theorem divO_le {a b c : Nat} (m : Int) (ha : Fn a) (hb : Fn b) (hc : Fn c) (gc : sgn c = false) (c0 : rung c ≠ 0) (h : place a ≤ place b) : LeO (divO a c m) (divO b c m) := by
 cases fc : finB c
 ·have sc : someB c = false := by unfold someB; rw [fc]; rfl
  have key : ∀ x r, Fn x → divO x c m = some r → place r = 0 := fun x r hx e => by
   have e1 : divO x c m = floatBits .quo .f64 x c := by unfold divO; rw [sc, Bool.and_false]; rfl
   rw [e1, (fbits_map x c).2.2.2, (fn_inf hc fc).1] at e
   cases fx : finB x
   ·rw [(fn_inf hx fx).1] at e
    cases e
   ·rw [read_fin hx.1 fx] at e
    simp only [Ieee.Datum.quotient] at e
    rw [← Option.some.inj e]
    exact zero_place (word_rung _ (show 0 < 9223372036854775808 by omega)).1
  intro r s er es
  rw [key a r ha er, key b s hb es]
  exact Int.le_refl _
 ·have sc : someB c = true := by unfold someB; rw [fc]; simpa using c0
  have told : ∀ x, Fn x → someB x = true → Told (sgn x) (val (rung x) * 2 ^ twP) (fun q => val q * val (rung c)) (fun m => stepF (kQ x c) (kS x c) m) ∧ divO x c m = some (stepF (kQ x c) (kS x c) m) := fun x hx sx => by
   have t := div_told hx.1 hc.1 sx sc
   rw [gc, Bool.xor_false] at t
   exact ⟨t, by unfold divO; rw [sx, sc]; rfl⟩
  have nil : ∀ x r, Fn x → finB x = true → someB x = false → divO x c m = some r → place r = 0 := fun x r hx fx sx e => by
   have x0 := nil_of fx sx
   have e1 : divO x c m = floatBits .quo .f64 x c := by unfold divO; rw [sx]; rfl
   rw [e1, (fbits_map x c).2.2.2, read_fin hx.1 fx, read_fin hc.1 fc] at e
   simp only [Ieee.Datum.quotient] at e
   have m0 : mg (rung x) = 0 := by rw [x0]; decide
   rw [if_neg (mg_ne c0), m0] at e
   simp only [Nat.zero_shiftLeft, Nat.zero_div, Nat.zero_mod] at e
   rw [← Option.some.inj e]
   exact zero_place (word_rung _ (show 0 < 9223372036854775808 by omega)).1
  have side : ∀ x r, Fn x → someB x = true → divO x c m = some r → 0 ≤ tnS (sgn x) (place r) ∧ tnS (sgn x) (place r) ≤ 9218868437227405312 := fun x r hx sx e => by
   obtain ⟨⟨k, q, hB, hf⟩, e2⟩ := told x hx sx
   rw [e2] at e
   have hfm := hf m
   dsimp only at hfm
   rw [← Option.some.inj e, hfm]
   have hb : rgS k q (if sgn x = true then tmd m else m) ≤ 9218868437227405312 := by
    obtain ⟨hk, _, b1, _⟩ := hB
    generalize (if sgn x = true then tmd m else m) = n
    unfold rgS
    by_cases c1 : (n = 1 ∨ n = 3) ∧ q < 0
    ·rw [if_pos c1]; omega
    ·rw [if_neg c1]
     by_cases c2 : n = 2 ∧ 0 < q
     ·rw [if_pos c2]; have := (b1 c2.2).1; omega
     ·rw [if_neg c2]; exact hk
   rw [place_word _ hb, tnS_two]
   omega
  have sz : ∀ x, Fn x → finB x = true → someB x = true → (sgn x = false → 0 < place x) ∧ (sgn x = true → place x < 0) := fun x hx fx sx => by
   have x0 : rung x ≠ 0 := by simpa using (some_rung sx).2
   unfold place
   constructor <;> intro g <;> rw [g] <;> simp only [if_true, Bool.false_eq_true, if_false] <;> omega
  refine mono_core (F := fun x => divO x c m) (fun x hx fx => ?_) (fun x hx fx r er => ?_) (fun x y hx hy fx fy hxy => ?_) ha hb h
  ·have sx : someB x = false := by unfold someB; rw [fx]; rfl
   show divO x c m = some x
   unfold divO
   rw [sx, Bool.false_and]
   show floatBits .quo .f64 x c = some x
   rw [(fbits_map x c).2.2.2, (fn_inf hx fx).1, read_fin hc.1 fc, gc]
   simp only [Ieee.Datum.quotient, Bool.xor_false]
   show some (Ieee.double.word (sgn x) 9218868437227405312) = _
   rw [← (fn_inf hx fx).2.1]
  ·unfold Bd
   cases sx : someB x
   ·rw [nil x r hx fx sx er]; omega
   ·have := side x r hx sx er
    cases gx : sgn x <;> rw [gx] at this <;> simp only [tnS, if_true, Bool.false_eq_true, if_false] at this <;> omega
  ·intro r s er es
   cases sx : someB x
   ·rw [nil x r hx fx sx er]
    cases sy : someB y
    ·rw [nil y s hy fy sy es]; exact Int.le_refl _
    ·have h1 := side y s hy sy es
     have h2 := sz y hy fy sy
     have h3 := zero_place (nil_of fx sx)
     cases gy : sgn y <;> rw [gy] at h1 h2 <;> simp only [tnS, if_true, Bool.false_eq_true, if_false] at h1
     ·omega
     ·have := h2.2 rfl; omega
   ·have h1 := side x r hx sx er
    have h2 := sz x hx fx sx
    cases sy : someB y
    ·rw [nil y s hy fy sy es]
     have h3 := zero_place (nil_of fy sy)
     cases gx : sgn x <;> rw [gx] at h1 h2 <;> simp only [tnS, if_true, Bool.false_eq_true, if_false] at h1
     ·have := h2.1 rfl; omega
     ·omega
    ·have h3 := side y s hy sy es
     have h4 := sz y hy fy sy
     obtain ⟨tx, ex⟩ := told x hx sx
     obtain ⟨ty, ey⟩ := told y hy sy
     have er' : divO x c m = some r := er
     have es' : divO y c m = some s := es
     rw [ex] at er'
     rw [ey] at es'
     have nx := div_nmid hx.1 hc.1 sx sc
     have ny := div_nmid hy.1 hc.1 sy sc
     have hP := Nat.two_pow_pos twP
     cases gx : sgn x <;> cases gy : sgn y <;> rw [gx] at h1 h2 tx <;> rw [gy] at h3 h4 ty
     ·have hr : rung x ≤ rung y := by unfold place at hxy; rw [gx, gy] at hxy; simp only [Bool.false_eq_true, if_false] at hxy; omega
      have := (told_le (gr_div sc) (Nat.mul_le_mul_right _ (val_le_D hr)) tx ty (stepF_nil _ _) (stepF_nil _ _) nx ny m).1
      rw [← Option.some.inj er', ← Option.some.inj es']
      exact this
     ·have := h2.1 rfl
      have := h4.2 rfl
      omega
     ·simp only [tnS, if_true, Bool.false_eq_true, if_false] at h1 h3
      omega
     ·have hr : rung y ≤ rung x := by unfold place at hxy; rw [gx, gy] at hxy; simp only [if_true] at hxy; omega
      have := (told_le (gr_div sc) (Nat.mul_le_mul_right _ (val_le_D hr)) ty tx (stepF_nil _ _) (stepF_nil _ _) ny nx m).1
      rw [← Option.some.inj er', ← Option.some.inj es']
      simp only [tnS, if_true] at this
      omega
def sqO (a : Nat) (m : Int) : Option Nat := if someB a && !sgn a then some (stepF (tQ a) (tS a) m) else FloatKind.f64.format.sqrt a
theorem sqO_facts {x r : Nat} (m : Int) (hx : Fn x) (e : sqO x m = some r) : 0 ≤ place x ∧ 0 ≤ place r ∧ place r ≤ 9218868437227405312 ∧ (place x = 0 → place r = 0) ∧ (finB x = false → r = x) ∧ Fn r := by
 unfold sqO at e
 cases hs : (someB x && !sgn x)
 ·rw [hs] at e
  have e2 : ((Ieee.double.read x).root 54).map Ieee.double.write = some r := e
  cases fx : finB x
  ·rw [(fn_inf hx fx).1] at e2
   simp only [Ieee.Datum.root] at e2
   cases gx : sgn x
   ·rw [gx] at e2
    have er : r = x := by
     rw [(fn_inf hx fx).2.1, gx]
     exact (Option.some.inj e2).symm
    subst er
    have hp := pl_inf hx fx
    rw [gx] at hp
    have hp2 : place r = 9218868437227405312 := hp
    exact ⟨by omega, by omega, by omega, fun g => by omega, fun _ => rfl, hx⟩
   ·rw [gx] at e2; cases e2
  ·rw [read_fin hx.1 fx] at e2
   simp only [Ieee.Datum.root] at e2
   by_cases m0 : mg (rung x) = 0
   ·rw [if_pos m0, m0] at e2
    have x0 : rung x = 0 := by
     rcases Nat.eq_zero_or_pos (rung x) with g | g
     ·exact g
     ·exact absurd m0 (mg_ne (by omega))
    have er : r = Ieee.double.word (sgn x) 0 := (Option.some.inj e2).symm
    have hw := word_rung (sgn x) (show 0 < 9223372036854775808 by omega)
    have hr : place r = 0 := zero_place (by rw [er]; exact hw.1)
    have hp := zero_place x0
    exact ⟨by omega, by omega, by omega, fun _ => hr, fun g => (by cases g), by rw [er]; exact ⟨word_lt64 _ (by omega), rung_nan (by rw [hw.1]; omega)⟩⟩
   ·exfalso
    have x0 : rung x ≠ 0 := fun g => m0 (by rw [g]; decide)
    have sx : someB x = true := by unfold someB; rw [fx]; simpa using x0
    rw [sx] at hs
    have gx : sgn x = true := by simpa using hs
    rw [if_neg m0, gx, if_pos rfl] at e2
    cases e2
 ·have sx : someB x = true := by revert hs; cases someB x <;> simp
  have gx : sgn x = false := by revert hs; cases sgn x <;> simp
  rw [hs, if_pos rfl] at e
  obtain ⟨k, q, hB, hf⟩ := sqrt_told hx.1 sx gx
  have hfm := hf m
  dsimp only at hfm
  rw [hfm] at e
  have hb : rgS k q (if false = true then tmd m else m) ≤ 9218868437227405312 := by
   obtain ⟨hk, _, b1, _⟩ := hB
   generalize (if false = true then tmd m else m) = n
   unfold rgS
   by_cases c1 : (n = 1 ∨ n = 3) ∧ q < 0
   ·rw [if_pos c1]; omega
   ·rw [if_neg c1]
    by_cases c2 : n = 2 ∧ 0 < q
    ·rw [if_pos c2]; have := (b1 c2.2).1; omega
    ·rw [if_neg c2]; exact hk
  have er := Option.some.inj e
  have hp := place_word false hb
  rw [er] at hp
  have hp2 : place r = ((rgS k q (if false = true then tmd m else m) : Nat) : Int) := hp
  have x0 : rung x ≠ 0 := by simpa using (some_rung sx).2
  have px : place x = rung x := by unfold place; rw [gx]; rfl
  have hok := ok_word (op := 0) false hb (fun h => by cases h)
  rw [er] at hok
  refine ⟨by omega, by omega, by omega, fun g => by omega, fun g => ?_, hok.1, rung_nan hok.2.1⟩
  rw [(some_rung sx).1] at g; cases g
theorem sqO_le {a b : Nat} (m : Int) (ha : Fn a) (hb : Fn b) (h : place a ≤ place b) : LeO (sqO a m) (sqO b m) := by
 intro r s er es
 obtain ⟨a1, a2, a3, a4, a5, _⟩ := sqO_facts m ha er
 obtain ⟨b1, b2, b3, b4, b5, _⟩ := sqO_facts m hb es
 by_cases a0 : place a = 0
 ·have := a4 a0; omega
 ·cases fb : finB b
  ·have e := b5 fb
   subst e
   have hp := pl_inf hb fb
   cases gs : sgn s <;> rw [gs] at hp <;> simp only [tnS, if_true, Bool.false_eq_true, if_false] at hp <;> omega
  ·cases fa : finB a
   ·have hp := pl_inf ha fa
    have hq := pl_fin fb
    cases gs : sgn a <;> rw [gs] at hp <;> simp only [tnS, if_true, Bool.false_eq_true, if_false] at hp <;> omega
   ·have ga : sgn a = false := by
     cases g : sgn a
     ·rfl
     ·unfold place at a1 a0; rw [g] at a1 a0; simp only [if_true] at a1 a0; omega
    have gb : sgn b = false := by
     cases g : sgn b
     ·rfl
     ·unfold place at b1 h a0; rw [ga] at h a0; rw [g] at b1 h; simp only [if_true, Bool.false_eq_true, if_false] at b1 h a0; omega
    have ra : rung a ≠ 0 := fun g => a0 (zero_place g)
    have hr : rung a ≤ rung b := by unfold place at h; rw [ga, gb] at h; simp only [Bool.false_eq_true, if_false] at h; omega
    have sa : someB a = true := by unfold someB; rw [fa]; simpa using ra
    have sb : someB b = true := by unfold someB; rw [fb]; simp; omega
    have e1 : sqO a m = some (stepF (tQ a) (tS a) m) := by unfold sqO; rw [sa, ga]; rfl
    have e2 : sqO b m = some (stepF (tQ b) (tS b) m) := by unfold sqO; rw [sb, gb]; rfl
    rw [e1] at er
    rw [e2] at es
    have := (told_le gr_sq (Nat.mul_le_mul_right _ (val_le_D hr)) (sqrt_told ha.1 sa ga) (sqrt_told hb.1 sb gb) (stepF_nil _ _) (stepF_nil _ _) (root_nmid ha.1 sa ga) (root_nmid hb.1 sb gb) m).1
    rw [← Option.some.inj er, ← Option.some.inj es]
    exact this
def Row4 (d n u z : Nat) : Prop := Fn d ∧ Fn n ∧ Fn u ∧ Fn z ∧ place d ≤ place n ∧ place n ≤ place u ∧ (place z = place d ∨ place z = place u) ∧ rung z ≤ rung d ∧ rung z ≤ rung u
theorem row_same {v : Nat} (h : Fn v) : Row4 v v v v := ⟨h, h, h, h, Int.le_refl _, Int.le_refl _, Or.inl rfl, Nat.le_refl _, Nat.le_refl _⟩
theorem ok_fn {k x : Nat} (h : Ok k x) : Fn x := ⟨h.1, rung_nan h.2.1⟩
theorem rung_abs (x : Nat) : (rung x : Int) = if 0 ≤ place x then place x else -place x := by
 unfold place
 split <;> split <;> omega
theorem ask_ways {op a b c : Nat} (h : Ask op a b c) : ∃ d n u z, dO op a b c 1 = some d ∧ dO op a b c 0 = some n ∧ dO op a b c 2 = some u ∧ dO op a b c 3 = some z ∧ Row4 d n u z := by
 obtain ⟨lo, hi, ze, ne, e1, e2, e3, e0, hc⟩ := six_ways h
 refine ⟨lo, ne, hi, ze, e1, e0, e2, e3, ?_⟩
 have r1 := rung_abs lo
 have r2 := rung_abs hi
 have r3 := rung_abs ze
 rcases hc with ⟨kl, kh, kz, kn, p1, p2, p3, _, _⟩ | ⟨s, kl, kh, kz, kn, p1, p2, p3, p4, _⟩
 ·refine ⟨ok_fn kl, ok_fn kn, ok_fn kh, ok_fn kz, by omega, by omega, Or.inl p2, ?_, ?_⟩
  ·rw [p2] at r3; omega
  ·rw [p2] at r3; rw [p1] at r2; omega
 ·refine ⟨ok_fn kl, ok_fn kn, ok_fn kh, ok_fn kz, by omega, by omega, ?_, ?_, ?_⟩
  ·cases s
   ·exact Or.inl (p2 rfl).2
   ·exact Or.inr (p3 rfl).2
  ·cases s
   ·obtain ⟨q1, q2⟩ := p2 rfl
    rw [q2] at r3; omega
   ·obtain ⟨q1, q2⟩ := p3 rfl
    rw [q2] at r3
    split at r3 <;> split at r1 <;> omega
  ·cases s
   ·obtain ⟨q1, q2⟩ := p2 rfl
    rw [q2] at r3
    split at r3 <;> split at r2 <;> omega
   ·obtain ⟨q1, q2⟩ := p3 rfl
    rw [q2] at r3; omega
def Ways (op a b c : Nat) : Prop := (∀ m, dO op a b c m = none) ∨ ∃ d n u z, dO op a b c 1 = some d ∧ dO op a b c 0 = some n ∧ dO op a b c 2 = some u ∧ dO op a b c 3 = some z ∧ Row4 d n u z
theorem ways_const {op a b c : Nat} {o : Option Nat} (h : ∀ m, dO op a b c m = o) (hf : ∀ v, o = some v → Fn v) : Ways op a b c := by
 cases o with
 | none => exact Or.inl h
 | some v => exact Or.inr ⟨v, v, v, v, h 1, h 0, h 2, h 3, row_same (hf v rfl)⟩
theorem ways_ask {op a b c b' c' : Nat} (h : Ask op a b' c') (e : ∀ m, dO op a b c m = dO op a b' c' m) : Ways op a b c := by
 obtain ⟨d, n, u, z, h1, h2, h3, h4, h5⟩ := ask_ways h
 exact Or.inr ⟨d, n, u, z, by rw [e]; exact h1, by rw [e]; exact h2, by rw [e]; exact h3, by rw [e]; exact h4, h5⟩
theorem op_fn {op : BinOp} (hop : FourOp op) {a b r : Nat} (h : floatBits op .f64 a b = some r) : Fn r := by
 obtain ⟨h1, h2⟩ := op_word hop h
 exact ⟨h1, rung_nan h2⟩
theorem ways_2 {a b : Nat} (c : Nat) (ha : Fn a) (hb : Fn b) : Ways 2 a b c := by
 have z64 : (0 : Nat) < 18446744073709551616 := by omega
 have fz : finB 0 = true := by decide
 cases hf : (finB a && finB b)
 ·refine ways_const (o := floatBits .mul .f64 a b) (fun m => ?_) (fun v hv => op_fn (Or.inr (Or.inr (Or.inl rfl))) hv)
  show mulO a b m = _
  have : (someB a && someB b) = false := by
   unfold someB
   revert hf
   cases finB a <;> cases finB b <;> simp
  unfold mulO; rw [this]; rfl
 ·simp only [Bool.and_eq_true] at hf
  exact ways_ask (b' := b) (c' := 0) ⟨ha.1, hb.1, z64, hf.1, hf.2, fz, fun h => absurd h (by decide), fun h => absurd h (by decide)⟩ (fun m => rfl)
theorem ways_3 {a b : Nat} (c : Nat) (ha : Fn a) (hb : Fn b) : Ways 3 a b c := by
 have z64 : (0 : Nat) < 18446744073709551616 := by omega
 have fz : finB 0 = true := by decide
 cases hf : (finB a && someB b)
 ·refine ways_const (o := floatBits .quo .f64 a b) (fun m => ?_) (fun v hv => op_fn (Or.inr (Or.inr (Or.inr rfl))) hv)
  show divO a b m = _
  have : (someB a && someB b) = false := by
   revert hf
   unfold someB
   cases finB a <;> cases finB b <;> simp
   intro h1 h2; exact h1
  unfold divO; rw [this]; rfl
 ·simp only [Bool.and_eq_true] at hf
  have b0 : rung b ≠ 0 := by simpa using (some_rung hf.2).2
  exact ways_ask (b' := b) (c' := 0) ⟨ha.1, hb.1, z64, hf.1, (some_rung hf.2).1, fz, fun _ => b0, fun h => absurd h (by decide)⟩ (fun m => rfl)
theorem dO_four (a b c : Nat) (m : Int) : dO 4 a b c m = sqO a m := rfl
theorem ways_4 {a b : Nat} (c : Nat) (ha : Fn a) : Ways 4 a b c := by
 have z64 : (0 : Nat) < 18446744073709551616 := by omega
 have fz : finB 0 = true := by decide
 cases hf : (finB a && (!sgn a || rung a == 0))
 ·refine ways_const (o := FloatKind.f64.format.sqrt a) (fun m => ?_) (fun v hv => ?_)
  ·show (if someB a && !sgn a then some (stepF (tQ a) (tS a) m) else FloatKind.f64.format.sqrt a) = _
   have : (someB a && !sgn a) = false := by
    revert hf
    unfold someB
    cases finB a <;> cases sgn a <;> simp
   rw [this]; rfl
  ·have e : sqO a 0 = some v := by
    unfold sqO
    have : (someB a && !sgn a) = false := by
     revert hf
     unfold someB
     cases finB a <;> cases sgn a <;> simp
    rw [this]; exact hv
   exact (sqO_facts 0 ha e).2.2.2.2.2
 ·simp only [Bool.and_eq_true, Bool.or_eq_true, Bool.not_eq_true', beq_iff_eq] at hf
  exact ways_ask (b' := 0) (c' := 0) ⟨ha.1, z64, z64, hf.1, fz, fz, fun h => absurd h (by decide), fun _ => hf.2⟩ (fun m => (dO_four a b c m).trans (dO_four a 0 0 m).symm)
end Go.Proofs.YtfipmopmpacdaaaGreatDoor
