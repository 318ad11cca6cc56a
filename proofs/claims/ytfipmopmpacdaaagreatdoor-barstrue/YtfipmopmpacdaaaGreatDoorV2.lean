/- Rounding an exact number never falls as it rises, by any way: no program in this text. -/
import Derived.Test.YtfipmopmpacdaaaGreatDoorZm
import Derived.Test.YtfipmopmpacdaaaGreatDoorZv
namespace Go.Proofs.YtfipmopmpacdaaaGreatDoor
open Go.RowKit
def Rep (n : Int) : Prop := ∃ (i : Nat) (t : Int), n = t * 2 ^ i ∧ t.natAbs ≤ 9007199254740992
def Nst (X n : Int) : Prop := Rep n ∧ ∀ m, Rep m → (n - X).natAbs ≤ (m - X).natAbs
theorem pw_pos (i : Nat) : (0 : Int) < 2 ^ i := Int.pow_pos (by decide)
theorem pw_abs (i : Nat) : ((2 : Int) ^ i).natAbs = 2 ^ i := by rw [Int.natAbs_pow]; rfl
theorem rep_neg {n : Int} (h : Rep n) : Rep (-n) := by
 obtain ⟨i, t, rfl, ht⟩ := h
 exact ⟨i, -t, by rw [Int.neg_mul], by rw [Int.natAbs_neg]; exact ht⟩
theorem rep_zero : Rep 0 := ⟨0, 0, by simp, by decide⟩
theorem rep_small {n : Int} {i : Nat} (h : (2 : Int) ^ i ∣ n) (hb : n.natAbs ≤ 9007199254740992 * 2 ^ i) : Rep n := by
 obtain ⟨q, rfl⟩ := h
 refine ⟨i, q, Int.mul_comm _ _, ?_⟩
 rw [Int.natAbs_mul, pw_abs, Nat.mul_comm] at hb
 exact Nat.le_of_mul_le_mul_right hb (Nat.two_pow_pos i)
theorem rep_abs {i : Nat} {t : Int} (ht : t.natAbs ≤ 9007199254740992) : (t * 2 ^ i).natAbs ≤ 9007199254740992 * 2 ^ i := by
 rw [Int.natAbs_mul, pw_abs]
 exact Nat.mul_le_mul_right _ ht
theorem rep_pw (i : Nat) : Rep (9007199254740992 * 2 ^ i) := ⟨i, 9007199254740992, rfl, by decide⟩
theorem nst_self {X n : Int} (hX : Rep X) (h : Nst X n) : n = X := by
 have := h.2 X hX
 omega
theorem nst_ge {X n F : Int} (h : Nst X n) (hF : Rep F) (hx : F ≤ X) : F ≤ n := by
 have := h.2 F hF
 omega
theorem nst_le {X n F : Int} (h : Nst X n) (hF : Rep F) (hx : X ≤ F) : n ≤ F := by
 have := h.2 F hF
 omega
theorem pw_le {i l : Nat} (h : i ≤ l) : (2 : Nat) ^ i ≤ 2 ^ l := Nat.pow_le_pow_right (by decide) h
theorem pw_dvd {i l : Nat} (h : i ≤ l) : (2 : Int) ^ i ∣ 2 ^ l := ⟨2 ^ (l - i), by rw [← Int.pow_add]; congr 1; omega⟩
theorem pw_cast (i : Nat) : (((2 : Nat) ^ i : Nat) : Int) = (2 : Int) ^ i := by push_cast; rfl
theorem nst_far {X n : Int} {l : Nat} (h : Nst X n) (hX : 9007199254740992 * 2 ^ l ≤ X.natAbs) : 9007199254740992 * 2 ^ l ≤ n.natAbs := by
 have hF := rep_pw l
 have e := pw_cast l
 by_cases h0 : 0 ≤ X
 ·have := nst_ge h hF (by rw [← e]; omega)
  rw [← e] at this
  omega
 ·have := nst_le h (rep_neg hF) (by rw [← e]; omega)
  rw [← e] at this
  omega
theorem nst_dvd1 {X n : Int} {l : Nat} (h : Nst X n) (hX : 9007199254740992 * 2 ^ l ≤ X.natAbs) : (2 : Int) ^ (l + 1) ∣ n := by
 have hf := nst_far h hX
 obtain ⟨i, t, rfl, ht⟩ := h.1
 rcases Nat.lt_or_ge l i with c | c
 ·exact Int.dvd_trans (pw_dvd c) (Int.dvd_mul_left _ _)
 ·have h1 := rep_abs (i := i) ht
  have h2 := pw_le c
  have h3 : (t * 2 ^ i).natAbs = 9007199254740992 * 2 ^ l := by omega
  refine Int.natAbs_dvd_natAbs.1 ?_
  rw [h3, pw_abs, Nat.pow_succ]
  exact ⟨4503599627370496, by omega⟩
theorem ts_common {a b : Int} (ha : Rep a) (hb : Rep b) (hab : b.natAbs ≤ a.natAbs) : ∃ l : Nat, (2 : Int) ^ l ∣ a ∧ (2 : Int) ^ l ∣ b ∧ b.natAbs ≤ 9007199254740992 * 2 ^ l ∧ ((2 : Int) ^ (l + 1) ∣ a ∨ a.natAbs ≤ 9007199254740992 * 2 ^ l) := by
 obtain ⟨i, A, rfl, hA⟩ := ha
 obtain ⟨h, B, rfl, hB⟩ := hb
 have h1 := rep_abs (i := i) hA
 have h2 := rep_abs (i := h) hB
 rcases Nat.lt_trichotomy h i with c | c | c
 ·exact ⟨h, Int.dvd_trans (pw_dvd (by omega)) (Int.dvd_mul_left _ _), Int.dvd_mul_left _ _, h2, Or.inl (Int.dvd_trans (pw_dvd (by omega)) (Int.dvd_mul_left _ _))⟩
 ·subst c
  exact ⟨h, Int.dvd_mul_left _ _, Int.dvd_mul_left _ _, h2, Or.inr h1⟩
 ·exact ⟨i, Int.dvd_mul_left _ _, Int.dvd_trans (pw_dvd (by omega)) (Int.dvd_mul_left _ _), by omega, Or.inr h1⟩
theorem ts_dif {a b n : Int} (ha : Rep a) (hb : Rep b) (hab : b.natAbs ≤ a.natAbs) (h : Nst (a + b) n) : Rep (n - a) := by
 by_cases hr : Rep (a + b)
 ·rw [nst_self hr h, show a + b - a = b by omega]; exact hb
 obtain ⟨l, h1, h2, h3, h4⟩ := ts_common ha hb hab
 have hX : 9007199254740992 * 2 ^ l < (a + b).natAbs := by
  rcases Nat.lt_or_ge (9007199254740992 * 2 ^ l) (a + b).natAbs with c | c
  ·exact c
  ·exact absurd (rep_small (Int.dvd_add h1 h2) c) hr
 have hn := nst_dvd1 h (Nat.le_of_lt hX)
 have h5 := h.2 a ha
 have hs : (2 : Nat) ^ (l + 1) = 2 * 2 ^ l := by rw [Nat.pow_succ, Nat.mul_comm]
 by_cases ha1 : (2 : Int) ^ (l + 1) ∣ a
 ·exact rep_small (Int.dvd_sub hn ha1) (by rw [hs]; omega)
 have h6 := h4.resolve_left ha1
 have hn0 : (2 : Int) ^ l ∣ n := Int.dvd_trans (pw_dvd (by omega)) hn
 refine rep_small (Int.dvd_sub hn0 h1) ?_
 -- one is within 2^l of the sum
 obtain ⟨x, hx⟩ := h1
 obtain ⟨y, hy⟩ := h2
 have hsI : (2 : Int) ^ (l + 1) = 2 * 2 ^ l := by rw [Int.pow_succ, Int.mul_comm]
 have e := pw_cast l
 have hq : a + b = 2 ^ l * (x + y) := by rw [hx, hy, Int.mul_add]
 have hodd : (x + y) % 2 = 1 := by
  rcases (show (x + y) % 2 = 0 ∨ (x + y) % 2 = 1 by omega) with c | c
  ·exfalso
   refine hr (rep_small (i := l + 1) ?_ (by rw [hs]; omega))
   rw [hq, hsI]
   exact ⟨(x + y) / 2, by rw [show 2 * (2 : Int) ^ l = 2 ^ l * 2 from Int.mul_comm _ _, Int.mul_assoc]; congr 1; omega⟩
  ·exact c
 have hxo : x % 2 = 1 := by
  rcases (show x % 2 = 0 ∨ x % 2 = 1 by omega) with c | c
  ·exfalso
   refine ha1 ?_
   rw [hx, hsI]
   exact ⟨x / 2, by rw [show 2 * (2 : Int) ^ l = 2 ^ l * 2 from Int.mul_comm _ _, Int.mul_assoc]; congr 1; omega⟩
  ·exact c
 have bx : x.natAbs ≤ 9007199254740992 := by
  rw [hx, Int.natAbs_mul, pw_abs, Nat.mul_comm] at h6
  exact Nat.le_of_mul_le_mul_right h6 (Nat.two_pow_pos l)
 have byy : y.natAbs ≤ x.natAbs := by
  rw [hx, hy, Int.natAbs_mul, Int.natAbs_mul, pw_abs] at hab
  exact Nat.le_of_mul_le_mul_left hab (Nat.two_pow_pos l)
 have bound : ∀ z : Int, (z = x + y - 1 ∨ z = x + y + 1) → z.natAbs ≤ 18014398509481984 → (n - (a + b)).natAbs ≤ 2 ^ l := by
  intro z hz hz2
  have hz3 : z % 2 = 0 := by omega
  have hm : Rep (2 ^ l * z) := by
   refine rep_small (i := l + 1) ?_ ?_
   ·rw [hsI]
    exact ⟨z / 2, by rw [show 2 * (2 : Int) ^ l = 2 ^ l * 2 from Int.mul_comm _ _, Int.mul_assoc]; congr 1; omega⟩
   ·rw [Int.natAbs_mul, pw_abs, hs]
    have := Nat.mul_le_mul_left (2 ^ l) hz2
    omega
  have h7 := h.2 _ hm
  rw [hq] at h7 ⊢
  have h8 : (2 ^ l * z - 2 ^ l * (x + y)).natAbs = 2 ^ l := by
   rw [← Int.mul_sub, Int.natAbs_mul, pw_abs]
   rcases hz with c | c <;> rw [c]
   ·rw [show x + y - 1 - (x + y) = -1 by omega]; simp
   ·rw [show x + y + 1 - (x + y) = 1 by omega]; simp
  omega
 have hnX : (n - (a + b)).natAbs ≤ 2 ^ l := by
  by_cases c : 0 ≤ x + y
  ·exact bound (x + y - 1) (Or.inl rfl) (by omega)
  ·exact bound (x + y + 1) (Or.inr rfl) (by omega)
 have hb2 : b.natAbs ≤ 9007199254740991 * 2 ^ l := by
  rw [hy, Int.natAbs_mul, pw_abs, Nat.mul_comm]
  exact Nat.mul_le_mul_right _ (by omega)
 omega
theorem rep_ladder : ∀ (i t : Nat), t ≤ 9007199254740992 → ∃ k, val k = t * 2 ^ i
 | 0, t, h => by
  by_cases c : t < 9007199254740992
  ·exact ⟨0 * 4503599627370496 + t, (d_val_kept c (Or.inl rfl)).1⟩
  ·refine ⟨1 * 4503599627370496 + 4503599627370496, ?_⟩
   rw [(d_val_kept (U := 1) (k := 4503599627370496) (by omega) (Or.inr (Nat.le_refl _))).1]
   omega
 | i + 1, t, h => by
  by_cases c : t < 4503599627370496
  ·obtain ⟨k, hk⟩ := rep_ladder i (2 * t) (by omega)
   exact ⟨k, by rw [hk, Nat.pow_succ]; generalize 2 ^ i = P; rw [Nat.mul_comm 2 t, Nat.mul_assoc, Nat.mul_comm P 2]⟩
  ·by_cases c2 : t < 9007199254740992
   ·exact ⟨(i + 1) * 4503599627370496 + t, (d_val_kept c2 (Or.inr (by omega))).1⟩
   ·refine ⟨(i + 2) * 4503599627370496 + 4503599627370496, ?_⟩
    rw [(d_val_kept (U := i + 2) (k := 4503599627370496) (by omega) (Or.inr (Nat.le_refl _))).1, show t = 9007199254740992 by omega, show i + 2 = (i + 1) + 1 from rfl, Nat.pow_succ]
    generalize 2 ^ (i + 1) = P
    omega
theorem rep_val {n : Int} (h : Rep n) : ∃ k, n.natAbs = val k := by
 obtain ⟨i, t, rfl, ht⟩ := h
 obtain ⟨k, hk⟩ := rep_ladder i t.natAbs ht
 exact ⟨k, by rw [hk, Int.natAbs_mul, pw_abs]⟩
theorem val_rep (k : Nat) : Rep (val k : Int) := by
 refine ⟨up k, (mg k : Int), ?_, ?_⟩
 ·rw [← mg_up]; push_cast; rfl
 ·have := mg_lt k
  omega
theorem vI_rep (x : Nat) : Rep (vI x) := by
 unfold vI
 split
 ·exact rep_neg (val_rep _)
 ·exact val_rep _
theorem nst_mid {X n : Int} {k : Nat} (hn : n = if X < 0 then -(val k : Int) else (val k : Int)) (hk : k < 9218868437227405312) (h : ∀ r, r < 9218868437227405312 → (r < k ↔ aboveD 0 X.natAbs r)) : Nst X n := by
 refine ⟨by rw [hn]; split; exact rep_neg (val_rep _); exact val_rep _, fun m hm => ?_⟩
 obtain ⟨j, hj⟩ := rep_val hm
 have hup : 2 * X.natAbs ≤ val k + val (k + 1) := by
  have h1 : ¬ aboveD 0 X.natAbs k := fun c => absurd ((h k hk).2 c) (Nat.lt_irrefl _)
  unfold aboveD at h1
  rw [Nat.pow_zero, Nat.mul_one] at h1
  omega
 have hlow : ∀ i, i < k → val i + val k ≤ 2 * X.natAbs := fun i hi => by
  have h1 := (h (k - 1) (by omega)).1 (by omega)
  unfold aboveD at h1
  rw [Nat.pow_zero, Nat.mul_one, show k - 1 + 1 = k by omega] at h1
  have h2 := val_le_D (show i ≤ k - 1 by omega)
  omega
 have key : (val k : Int) - X.natAbs ≤ ((val j : Int) - X.natAbs).natAbs ∧ (X.natAbs : Int) - val k ≤ ((val j : Int) - X.natAbs).natAbs := by
  rcases Nat.lt_trichotomy j k with c | c | c
  ·have h1 := hlow j c
   have h2 := val_le_D (Nat.le_of_lt c)
   omega
  ·subst c; omega
  ·have h2 := val_le_D (show k + 1 ≤ j from c)
   have h3 := val_le_D (show k ≤ k + 1 by omega)
   omega
 rw [hn]
 generalize val k = a at *
 generalize val j = b at *
 split <;> omega
def FlX (X : Int) (r : Nat) : Prop := r < 18446744073709551616 ∧ finB r = true ∧ Nst X (vI r) ∧ signF r = sgI X
def IsTop (W : Nat) : Prop := W = val 9218868437227405311
theorem above_units {K A r : Nat} : aboveD K (A * 2 ^ K) r ↔ aboveD 0 A r := by
 unfold aboveD
 rw [Nat.pow_zero, Nat.mul_one, ← Nat.mul_assoc]
 have hp := Nat.two_pow_pos K
 rw [Nat.mul_lt_mul_right hp]
 have e : (val r + val (r + 1)) * 2 ^ K = 2 * A * 2 ^ K ↔ val r + val (r + 1) = 2 * A := ⟨fun h => Nat.eq_of_mul_eq_mul_right hp h, fun h => by rw [h]⟩
 rw [e]
theorem near_fl (s : Bool) (m : Nat) (p : Int) (K : Nat) {X : Int} (hK : 0 ≤ p + 1074 + K) (hX : m * 2 ^ (p + 1074 + K).toNat = X.natAbs * 2 ^ K) (hs : X ≠ 0 → s = decide (X < 0)) (hb : X.natAbs ≤ val 9218868437227405311) : FlX X (Ieee.double.nearest s m p) := by
 have hp := Nat.two_pow_pos K
 by_cases hm : m = 0
 ·have h0 : X = 0 := by
   rw [hm, Nat.zero_mul] at hX
   have := Nat.mul_eq_zero.1 hX.symm
   omega
  have ef : Ieee.double.nearest s m p = Ieee.double.word s 0 := by rw [hm]; rfl
  have hr := word_rung s (show 0 < 9223372036854775808 by omega)
  rw [ef, h0]
  refine ⟨word_lt64 s (by omega), by unfold finB; rw [hr.1]; rfl, ?_, ?_⟩
  ·have e : vI (Ieee.double.word s 0) = 0 := by unfold vI; rw [hr.1, val_zero]; split <;> rfl
   rw [e]
   exact ⟨rep_zero, fun m _ => by omega⟩
  ·unfold signF place nanB
   rw [hr.1]
   cases sgn (Ieee.double.word s 0) <;> rfl
 ·have h0 : X ≠ 0 := by
   intro h
   rw [h] at hX
   have hX2 : m * 2 ^ (p + 1074 + (K : Int)).toNat = 0 := by rw [hX]; exact Nat.zero_mul _
   rcases Nat.mul_eq_zero.1 hX2 with g | g
   ·exact hm g
   ·have := Nat.two_pow_pos (p + 1074 + (K : Int)).toNat
    omega
  have es := hs h0
  obtain ⟨k, e, hk, c⟩ := near_anyD s p K (m := m) hm hK
  rw [hX] at c
  have c' : ∀ r, r < 9218868437227405312 → (r < k ↔ aboveD 0 X.natAbs r) := fun r hr => (c r hr).trans above_units
  have hki : k < 9218868437227405312 := by
   rcases Nat.lt_or_ge k 9218868437227405312 with h | h
   ·exact h
   ·exfalso
    have h1 := (c' 9218868437227405311 (by omega)).1 (by omega)
    have h3 : val 9218868437227405311 < val (9218868437227405311 + 1) := val_step _
    unfold aboveD at h1
    rw [Nat.pow_zero, Nat.mul_one] at h1
    generalize val 9218868437227405311 = a at *
    generalize val (9218868437227405311 + 1) = b at *
    omega
  have kp : 0 < k := (c' 0 (by omega)).2 (by
   left
   rw [show val 0 + val (0 + 1) = 1 by decide, Nat.one_mul]
   omega)
  have hr := word_rung s (show k < 9223372036854775808 by omega)
  rw [e]
  refine ⟨word_lt64 s (by omega), by unfold finB; rw [hr.1]; exact decide_eq_true hki, ?_, ?_⟩
  ·refine nst_mid (k := k) ?_ hki c'
   unfold vI
   rw [hr.1, hr.2, es]
   by_cases g : X < 0 <;> simp [g]
  ·unfold signF place nanB
   rw [hr.1, hr.2, es, decide_eq_false (show ¬ 9218868437227405312 < k by omega)]
   unfold sgI
   by_cases g : X < 0 <;> simp [g] <;> omega
theorem sgn_val (x : Nat) {u : Nat} (hu : u ≤ up (rung x)) : Ieee.signed (sgn x) (mg (rung x)) (up (rung x) - u) * (2 ^ u : Nat) = vI x := by
 rw [signed_mul, Nat.sub_add_cancel hu, mg_up]
 rfl
theorem neg_pw {T : Int} {u : Nat} : (T * 2 ^ u < 0 ↔ T < 0) ∧ (T * 2 ^ u = 0 ↔ T = 0) := by
 have hp := pw_pos u
 constructor
 ·constructor
  ·intro h
   rcases Int.lt_or_le T 0 with c | c
   ·exact c
   ·have := Int.mul_nonneg c (Int.le_of_lt hp)
    omega
  ·intro h; exact Int.mul_neg_of_neg_of_pos h hp
 ·constructor
  ·intro h
   rcases Int.mul_eq_zero.1 h with c | c
   ·exact c
   ·omega
  ·intro h; rw [h, Int.zero_mul]
theorem add_fl {x y : Nat} (hx : x < 18446744073709551616) (hy : y < 18446744073709551616) (fx : finB x = true) (fy : finB y = true) {W : Nat} (hW : IsTop W) (hb : (vI x + vI y).natAbs ≤ W) : ∃ r, floatBits .add .f64 x y = some r ∧ FlX (vI x + vI y) r := by
 rw [(fbits_map x y).1, read_fin hx fx, read_fin hy fy, sum_val]
 simp only [Option.map_some, Ieee.Format.write]
 obtain ⟨u, hu⟩ : ∃ u, min (up (rung x)) (up (rung y)) = u := ⟨_, rfl⟩
 have e1 := sgn_val x (u := u) (by omega)
 have e2 := sgn_val y (u := u) (by omega)
 rw [hu]
 generalize Ieee.signed (sgn x) (mg (rung x)) (up (rung x) - u) = P at *
 generalize Ieee.signed (sgn y) (mg (rung y)) (up (rung y) - u) = Q at *
 have e3 : vI x + vI y = (P + Q) * 2 ^ u := by rw [← e1, ← e2, ← Int.add_mul]; push_cast; rfl
 rw [e3] at hb ⊢
 generalize P + Q = T at *
 refine ⟨_, rfl, near_fl _ _ _ 0 (by omega) ?_ ?_ (hW ▸ hb)⟩
 ·rw [Int.natAbs_mul, pw_abs, show (-1074 + (u : Int) + 1074 + ((0 : Nat) : Int)).toNat = u by omega, Nat.pow_zero, Nat.mul_one]
 ·intro h
  have hT : T ≠ 0 := fun c => h ((neg_pw (u := u)).2.2 c)
  rw [if_neg hT]
  exact decide_eq_decide.2 (neg_pw (u := u)).1.symm
theorem vI_ng {x : Nat} (hx : x < 18446744073709551616) : vI (negW x) = -vI x := by
 obtain ⟨h1, h2⟩ := neg_rung hx
 unfold vI
 rw [h1, h2]
 cases sgn x <;> simp
theorem sub_fl {x y : Nat} (hx : x < 18446744073709551616) (hy : y < 18446744073709551616) (fx : finB x = true) (fy : finB y = true) {W : Nat} (hW : IsTop W) (hb : (vI x - vI y).natAbs ≤ W) : ∃ r, floatBits .sub .f64 x y = some r ∧ FlX (vI x - vI y) r := by
 have h := add_fl hx (negW_lt hy) fx ((neg_fin hy).trans fy) hW (by rw [vI_ng hy, ← Int.sub_eq_add_neg]; exact hb)
 rw [vI_ng hy, ← Int.sub_eq_add_neg, ← fsub_add hy] at h
 exact h
def puH : Nat := 63388
def fuK (X : Int) : Nat := rung (Ieee.double.nearest false X.natAbs (-2148))
def fuV (X m : Int) : Nat := stepF (Ieee.double.word (decide (X < 0)) (fuK X)) (sdK (decide (X < 0)) (X.natAbs * 2 ^ puH) (fuK X)) m
def fuW (a b c : Nat) (m : Int) : Nat := if exX a b c = 0 then noughtR (rung a == 0 || rung b == 0) (sgn a != sgn b) c m else fuV (exX a b c) m
theorem fuK_near {X : Int} (h : X ≠ 0) : NearK (X.natAbs * 2 ^ puH) (fuK X) := by
 obtain ⟨k, e, hN⟩ := nearK_of false (m := X.natAbs) (p := -2148) (by omega) (by omega)
 have : fuK X = k := by unfold fuK; rw [e]; exact (word_rung false (by have := hN.1; omega)).1
 rw [show ((-2148 : Int) + 65536).toNat = puH from rfl] at hN
 rw [this]
 exact hN
theorem fuV_of {X : Int} {m : Int} {k : Nat} (h0 : X ≠ 0) (hN : NearK (X.natAbs * 2 ^ puH) k) : fuV X m = stepF (Ieee.double.word (decide (X < 0)) k) (sdK (decide (X < 0)) (X.natAbs * 2 ^ puH) k) m := by
 rw [nearK_uniq hN (fuK_near h0)]; rfl
theorem sgI_pw (T : Int) (u : Nat) : sgI (T * 2 ^ u) = sgI T := by
 have h := neg_pw (T := T) (u := u)
 unfold sgI
 by_cases c : T < 0
 ·rw [if_pos c, if_pos (h.1.2 c)]
 ·rw [if_neg c, if_neg (fun g => c (h.1.1 g))]
  by_cases d : T = 0
  ·rw [if_pos d, if_pos (h.2.2 d)]
  ·rw [if_neg d, if_neg (fun g => d (h.2.1 g))]
theorem sgI_opp (x : Int) : -sgI x = sgI (-x) := by unfold sgI; split <;> split <;> (try split) <;> (try split) <;> omega
theorem sdK_units {X' : Int} {k : Nat} {s : Bool} (hk : k < 9218868437227405312) (hs : s = decide (X' < 0)) {A : Nat} (hA : A = X'.natAbs * 2 ^ kV) : sdK s A k = sgI (X' - vI (Ieee.double.word s k)) := by
 have hr := word_rung s (show k < 9223372036854775808 by omega)
 have e1 : ((A : Int) - ((val k * 2 ^ kV : Nat) : Int)) = ((X'.natAbs : Int) - val k) * 2 ^ kV := by
  rw [hA]
  generalize kV = u
  rw [Int.sub_mul]
  push_cast
  rfl
 have hk2 : ¬ k = 9218868437227405312 := by omega
 unfold sdK
 rw [if_neg hk2, e1, sgI_pw]
 clear hA e1
 unfold vI
 rw [hr.1, hr.2, hs]
 by_cases g : X' < 0
 ·simp only [g, decide_true, if_true]
  rw [sgI_opp]
  congr 1
  omega
 ·simp only [g, decide_false, Bool.false_eq_true, if_false]
  congr 1
  omega
theorem num_lt {x K : Nat} (hx : x ≤ 9218868437227405312) (hK : K ≤ 9218868437227405312) : (FloatKind.f64.format.order x K == some .lt) = decide (x < K) ∧ (FloatKind.f64.format.order x K == some .gt) = decide (K < x) := by
 have n1 : nanB x = false := nan_small (by omega)
 have n2 : nanB K = false := nan_small (by omega)
 have p1 : place x = x := place_small (by omega)
 have p2 : place K = K := place_small (by omega)
 rcases Nat.lt_trichotomy x K with c | c | c
 ·rw [ord_lt (by omega) (by omega) n1 n2 (by omega), decide_eq_true c, decide_eq_false (by omega)]; exact ⟨rfl, rfl⟩
 ·rw [ord_eq (by omega) (by omega) n1 n2 (by omega), decide_eq_false (by omega), decide_eq_false (by omega)]; exact ⟨rfl, rfl⟩
 ·rw [ord_gt (by omega) (by omega) n1 n2 (by omega), decide_eq_false (by omega), decide_eq_true c]; exact ⟨rfl, rfl⟩
def fuI (a b c : Nat) : Option Nat := (floatBits .mul .f64 a b).bind fun p => floatBits .add .f64 p c
def fuO (a b c : Nat) (m : Int) : Option Nat := if finB a && finB b then (if finB c then some (fuW a b c m) else if nanB c then none else some c) else fuI a b c
theorem mul_nought {a b p : Nat} (ha : a < 18446744073709551616) (hb : b < 18446744073709551616) (fa : finB a = true) (fb : finB b = true) (h : rung a = 0 ∨ rung b = 0) (hp : floatBits .mul .f64 a b = some p) : rung p = 0 ∧ sgn p = (sgn a != sgn b) := by
 rw [(fbits_map a b).2.2.1, read_fin ha fa, read_fin hb fb] at hp
 simp only [Ieee.Datum.product, Option.map_some, Ieee.Format.write, Option.some.injEq] at hp
 have m0 : mg (rung a) * mg (rung b) = 0 := by
  rcases h with h | h <;> rw [h]
  ·rw [show mg 0 = 0 by decide, Nat.zero_mul]
  ·rw [show mg 0 = 0 by decide, Nat.mul_zero]
 rw [m0] at hp
 have e : Ieee.double.nearest (sgn a ^^ sgn b) 0 (-1074 + ((up (rung a) : Nat) : Int) + (-1074 + ((up (rung b) : Nat) : Int))) = Ieee.double.word (sgn a ^^ sgn b) 0 := rfl
 have hr := word_rung (sgn a ^^ sgn b) (show 0 < 9223372036854775808 by omega)
 rw [← hp, e]
 exact ⟨hr.1, hr.2⟩
def tmd (m : Int) : Int := if m = 1 then 2 else if m = 2 then 1 else m
theorem tmd_dn (m : Int) (s : Bool) : upB (tmd m) (!s) = dnB m s ∧ dnB (tmd m) (!s) = upB m s := by
 unfold tmd upB dnB
 by_cases h1 : m = 1
 ·subst h1; cases s <;> exact ⟨rfl, rfl⟩
 ·by_cases h2 : m = 2
  ·subst h2; cases s <;> exact ⟨rfl, rfl⟩
  ·rw [if_neg h1, if_neg h2]
   have e1 : (m == 1) = false := by simpa using h1
   have e2 : (m == 2) = false := by simpa using h2
   rw [e1, e2]
   cases s <;> simp
theorem at_opp {p : Int} : rung (atF (-p)) = rung (atF p) := by
 unfold atF
 by_cases h : -9218868437227405312 ≤ p ∧ p ≤ 9218868437227405312
 ·rw [atB_in h, atB_in (p := -p) (by omega)]
  simp only [if_true]
  rcases Int.lt_trichotomy p 0 with c | c | c
  ·rw [if_pos c, if_neg (by omega), (rung_big (by omega)).1, (rung_pos (by omega)).1]
  ·subst c; rfl
  ·rw [if_neg (by omega : ¬ p < 0), if_pos (by omega), (rung_big (by omega)).1, (rung_pos (by omega)).1]
   congr 1; omega
 ·rw [atB_out (p := p) (by omega), atB_out (p := -p) (by omega)]
  simp
theorem next_opp {x : Nat} (b : Bool) (hx : x < 18446744073709551616) (hn : nanB x = false) : rung (nextF (negW x) (!b)) = rung (nextF x b) := by
 obtain ⟨h1, h2, _⟩ := neg_place hx
 have h3 : nanB (negW x) = false := h2.trans hn
 have h4 : place (negW x) = -place x := h1
 unfold nextF
 rw [hn, h3, h4]
 simp only [Bool.false_eq_true, if_false]
 cases b
 ·simp only [Bool.not_false, if_true, Bool.false_eq_true, if_false]
  rw [← at_opp (p := max (place x - 1) (-9218868437227405312))]
  congr 2; omega
 ·simp only [Bool.not_true, Bool.false_eq_true, if_false, if_true]
  rw [← at_opp (p := min (place x + 1) 9218868437227405312)]
  congr 2; omega
theorem cpy_opp {f g x : Nat} (hx : x < 18446744073709551616) (h : rung f = rung g) : cpy f (negW x) = negW (cpy g x) := by
 have hg := rung_lt g
 unfold cpy
 rw [(neg_rung hx).2, h]
 cases sgn x
 ·simp only [Bool.not_false, if_true, Bool.false_eq_true, if_false, Nat.add_zero]
  rw [negW_pos hg]; omega
 ·simp only [Bool.not_true, if_true, Bool.false_eq_true, if_false, Nat.add_zero]
  rw [Nat.add_comm (rung g), negW_neg hg]
theorem stepF_turn {x : Nat} (r m : Int) (hx : x < 18446744073709551616) (hn : nanB x = false) : stepF (negW x) (-r) (tmd m) = negW (stepF x r m) := by
 unfold stepF
 rw [(neg_rung hx).2, (tmd_dn m (sgn x)).1, (tmd_dn m (sgn x)).2]
 have e1 : decide (-r < 0) = decide (0 < r) := decide_eq_decide.2 (by omega)
 have e2 : decide (0 < -r) = decide (r < 0) := decide_eq_decide.2 (by omega)
 rw [e1, e2, Bool.or_comm (upB m (sgn x) && decide (0 < r))]
 cases hc : (dnB m (sgn x) && decide (r < 0) || upB m (sgn x) && decide (0 < r))
 ·rfl
 ·simp only [if_true]
  refine cpy_opp hx ?_
  rcases Int.lt_trichotomy r 0 with c | c | c
  ·rw [decide_eq_true c, decide_eq_false (by omega : ¬ 0 < r)]
   exact next_opp false hx hn
  ·subst c; simp at hc
  ·rw [decide_eq_false (by omega : ¬ r < 0), decide_eq_true c]
   exact next_opp true hx hn
theorem word_opp (s : Bool) {k : Nat} (hk : k ≤ 9218868437227405312) : Ieee.double.word (!s) k = negW (Ieee.double.word s k) := by
 rw [word_k _ (by omega), word_k _ (by omega)]
 cases s
 ·simp only [Bool.not_false, if_true, Bool.false_eq_true, if_false]
  exact (negW_pos (by omega)).symm
 ·simp only [Bool.not_true, if_true, Bool.false_eq_true, if_false]
  exact (negW_neg (by omega)).symm
theorem sdK_turn (s : Bool) (A k : Nat) : sdK (!s) A k = -sdK s A k := by
 unfold sdK
 split
 ·cases s <;> rfl
 ·cases s <;> simp
theorem fuV_turn {X : Int} (m : Int) (h0 : X ≠ 0) : fuV (-X) (tmd m) = negW (fuV X m) := by
 have hk := (fuK_near h0).1
 have e1 : fuK (-X) = fuK X := by unfold fuK; rw [Int.natAbs_neg]
 have e2 : decide (-X < 0) = !decide (X < 0) := by
  by_cases c : X < 0
  ·rw [decide_eq_true c, decide_eq_false (by omega)]; rfl
  ·rw [decide_eq_false c, decide_eq_true (by omega)]; rfl
 unfold fuV
 rw [e1, e2, Int.natAbs_neg, sdK_turn, word_opp _ hk]
 exact stepF_turn _ _ (word_lt64 _ (by omega)) (rung_nan (by rw [(word_rung _ (by omega)).1]; exact hk))
theorem add_sum {x y : Nat} (hx : x < 18446744073709551616) (hy : y < 18446744073709551616) (fx : finB x = true) (fy : finB y = true) : ∃ (T : Int) (u : Nat) (s : Bool), floatBits .add .f64 x y = some (Ieee.double.nearest s T.natAbs (-1074 + (u : Int))) ∧ vI x + vI y = T * 2 ^ u ∧ (T ≠ 0 → s = decide (T < 0)) := by
 rw [(fbits_map x y).1, read_fin hx fx, read_fin hy fy, sum_val]
 simp only [Option.map_some, Ieee.Format.write]
 obtain ⟨u, hu⟩ : ∃ u, min (up (rung x)) (up (rung y)) = u := ⟨_, rfl⟩
 have e1 := sgn_val x (u := u) (by omega)
 have e2 := sgn_val y (u := u) (by omega)
 rw [hu]
 generalize Ieee.signed (sgn x) (mg (rung x)) (up (rung x) - u) = P at *
 generalize Ieee.signed (sgn y) (mg (rung y)) (up (rung y) - u) = Q at *
 refine ⟨P + Q, u, _, rfl, ?_, fun h => by rw [if_neg h]⟩
 rw [← e1, ← e2, ← Int.add_mul]; push_cast; rfl
theorem fin_top {x W : Nat} (hW : IsTop W) (hx : finB x = true) : (vI x).natAbs ≤ W := by
 have e : (vI x).natAbs = val (rung x) := by unfold vI; split <;> omega
 have := fin_rung hx
 rw [e, show W = val 9218868437227405311 from hW]
 exact val_le_D (by omega)
theorem sum_rest {a b : Nat} (ha : a < 18446744073709551616) (hb : b < 18446744073709551616) (fa : finB a = true) (fb : finB b = true) (fn : finB (sumN a b) = true) (hN : Nst (vI a + vI b) (vI (sumN a b))) : signF (sumR a b) = sgI (vI a + vI b - vI (sumN a b)) := by
 obtain ⟨p1, p2, p3, p4, _, p6, _⟩ := sum_parts ha hb fa fb
 have hr : ∀ {g l : Nat}, g < 18446744073709551616 → l < 18446744073709551616 → finB g = true → finB l = true → (vI l).natAbs ≤ (vI g).natAbs → vI g + vI l = vI a + vI b → floatBits .sub .f64 (sumN a b) g = some (sumT a b) → floatBits .sub .f64 l (sumT a b) = some (sumR a b) → signF (sumR a b) = sgI (vI a + vI b - vI (sumN a b)) := by
  intro g l hg hl fg fl hlg e q1 q2
  obtain ⟨W, hW⟩ : ∃ W, IsTop W := ⟨_, rfl⟩
  have wg := fin_top hW fg
  have wl := fin_top hW fl
  have wn := fin_top hW fn
  have n3 := hN
  rw [← e] at n3
  have hd := ts_dif (vI_rep g) (vI_rep l) hlg n3
  have hB := n3.2 (vI g) (vI_rep g)
  have hs : (vI (sumN a b) - vI g).natAbs ≤ W := by
   rcases Int.lt_or_le (vI g) 0 with c | c
   ·have := nst_le n3 rep_zero (by omega)
    omega
   ·have := nst_ge n3 rep_zero (by omega)
    omega
  obtain ⟨t, t1, t2⟩ := sub_fl p4 hg fn fg hW hs
  rw [q1] at t1
  rw [← Option.some.inj t1] at t2
  have et := nst_self hd t2.2.2.1
  obtain ⟨r, r1, r2⟩ := sub_fl hl t2.1 fl t2.2.1 hW (by omega)
  rw [q2] at r1
  rw [← Option.some.inj r1] at r2
  rw [r2.2.2.2]
  congr 1
  omega
 have hm : ∀ x : Nat, (vI x).natAbs = val (rung x) := fun x => by unfold vI; split <;> omega
 have hord : sumC a b = decide (rung a < rung b) := by
  have ra := fin_rung fa
  have rb := fin_rung fb
  unfold sumC
  exact (num_lt (by omega) (by omega)).1
 by_cases c : rung a < rung b
 ·rw [hord, decide_eq_true c] at p2 p3
  simp only [if_true] at p2 p3
  exact hr hb ha fb fa (by rw [hm, hm]; exact val_le_D (by omega)) (Int.add_comm _ _) p2 p3
 ·rw [hord, decide_eq_false c] at p2 p3
  simp only [Bool.false_eq_true, if_false] at p2 p3
  exact hr ha hb fa fb (by rw [hm, hm]; exact val_le_D (by omega)) rfl p2 p3
theorem add_fu {a b : Nat} (m : Int) (ha : a < 18446744073709551616) (hb : b < 18446744073709551616) (fa : finB a = true) (fb : finB b = true) (h0 : vI a + vI b ≠ 0) : addV a b m = fuV ((vI a + vI b) * 2 ^ twP) m := by
 obtain ⟨p1, p2, p3, p4, p5, p6, _⟩ := sum_parts ha hb fa fb
 obtain ⟨T, u, s, t1, t2, t3⟩ := add_sum ha hb fa fb
 rw [p1] at t1
 have e1 := Option.some.inj t1
 have hT : T ≠ 0 := fun h => h0 (by rw [t2, h, Int.zero_mul])
 obtain ⟨k, ek, hN⟩ := nearK_of s (m := T.natAbs) (p := -1074 + (u : Int)) (by omega) (by omega)
 have hk := hN.1
 have hr := word_rung s (show k < 9223372036854775808 by omega)
 have en : sumN a b = Ieee.double.word s k := by rw [e1, ek]
 have es : s = decide (vI a + vI b < 0) := by
  rw [t3 hT, t2]
  exact decide_eq_decide.2 neg_pw.1.symm
 generalize hX : vI a + vI b = X at *
 have eA : T.natAbs * 2 ^ (-1074 + (u : Int) + 65536).toNat = X.natAbs * 2 ^ kV := by
  rw [t2, Int.natAbs_mul, pw_abs, Nat.mul_assoc, ← Nat.pow_add, show (-1074 + (u : Int) + 65536).toNat = u + kV by have := kV_eq; omega]
 rw [eA] at hN
 have hXK : (X * 2 ^ twP).natAbs * 2 ^ puH = X.natAbs * 2 ^ kV := by rw [Int.natAbs_mul, pw_abs, Nat.mul_assoc, ← Nat.pow_add, show twP + puH = kV from rfl]
 have hX0 : X * 2 ^ twP ≠ 0 := fun h => h0 (neg_pw.2.1 h)
 have es2 : decide (X * 2 ^ twP < 0) = s := by rw [es]; exact decide_eq_decide.2 neg_pw.1
 have mid : ∀ r, r < 9218868437227405312 → (r < k ↔ aboveD 0 X.natAbs r) := fun r hr' => (hN.2 r hr').trans above_units
 have kp : 0 < k := (mid 0 (by omega)).2 (by
  left
  rw [show val 0 + val (0 + 1) = 1 by decide, Nat.one_mul]
  omega)
 rw [fuV_of hX0 (by rw [hXK]; exact hN), hXK, es2]
 unfold addV addM
 rw [en, hr.1, if_neg (by simp; omega)]
 suffices hsr : signF (sumR a b) = sdK s (X.natAbs * 2 ^ kV) k by rw [hsr]
 by_cases hi : k = 9218868437227405312
 ·have hri : rung (sumN a b) = 9218868437227405312 := by rw [en, hr.1, hi]
  have hsd : sdK s (X.natAbs * 2 ^ kV) k = if s then 1 else -1 := by unfold sdK; rw [if_pos hi]
  have hx : ∀ g l, g < 18446744073709551616 → l < 18446744073709551616 → finB g = true → finB l = true → floatBits .sub .f64 (sumN a b) g = some (sumT a b) → floatBits .sub .f64 l (sumT a b) = some (sumR a b) → signF (sumR a b) = if s then 1 else -1 := by
   intro g l hg hl fg fl q1 q2
   obtain ⟨i1, i2, i3⟩ := rest_inf p4 hri hg fg hl fl
   rw [q1] at i1
   rw [Option.some.inj i1] at q2
   rw [i2] at q2
   rw [← Option.some.inj q2, i3, en, hr.2]
  rw [hsd]
  cases hc : sumC a b <;> rw [hc] at p2 p3
  ·exact hx a b ha hb fa fb p2 p3
  ·exact hx b a hb ha fb fa p2 p3
 ·have hki : k < 9218868437227405312 := by omega
  have fn : finB (sumN a b) = true := by unfold finB; rw [en, hr.1]; exact decide_eq_true hki
  have hNs : Nst X (vI (sumN a b)) := by
   refine nst_mid (k := k) ?_ hki mid
   rw [en]
   unfold vI
   rw [hr.1, hr.2, es]
   by_cases g : X < 0 <;> simp [g]
  have := sum_rest ha hb fa fb fn (by rw [hX]; exact hNs)
  rw [this, hX, en]
  exact (sdK_units hki es rfl).symm
theorem sdK_units2 {X : Int} {k : Nat} {s : Bool} (hk : k < 9218868437227405312) (hs : s = decide (X < 0)) : sdK s (X.natAbs * 2 ^ puH) k = sgI (X - vI (Ieee.double.word s k) * 2 ^ twP) := by
 have hr := word_rung s (show k < 9223372036854775808 by omega)
 have hk2 : ¬ k = 9218868437227405312 := by omega
 have e1 : (((X.natAbs * 2 ^ puH : Nat) : Int) - ((val k * 2 ^ kV : Nat) : Int)) = ((X.natAbs : Int) - (val k : Int) * 2 ^ twP) * 2 ^ puH := by
  rw [show kV = twP + puH from rfl, Nat.pow_add]
  generalize twP = u
  generalize puH = v
  rw [Int.sub_mul]
  push_cast
  rw [Int.mul_assoc (val k : Int)]
 unfold sdK
 rw [if_neg hk2, e1, sgI_pw]
 clear e1
 unfold vI
 rw [hr.1, hr.2, hs]
 generalize (2 : Int) ^ twP = G
 by_cases g : X < 0
 ·simp only [g, decide_true, if_true]
  rw [sgI_opp, Int.neg_mul]
  congr 1
  omega
 ·simp only [g, decide_false, Bool.false_eq_true, if_false]
  congr 1
  omega
theorem vI_sign {a : Nat} (h : rung a ≠ 0) : vI a ≠ 0 ∧ decide (vI a < 0) = sgn a := by
 have hv : 0 < val (rung a) := by
  have := val_lt (Nat.pos_of_ne_zero h)
  omega
 rcases Bool.eq_false_or_eq_true (sgn a) with hs | hs
 ·have e : vI a = -(val (rung a) : Int) := by unfold vI; rw [hs]; rfl
  rw [hs]
  exact ⟨by omega, decide_eq_true (by omega)⟩
 ·have e : vI a = (val (rung a) : Int) := by unfold vI; rw [hs]; rfl
  rw [hs]
  exact ⟨by omega, decide_eq_false (by omega)⟩
theorem mul_sign {x y : Int} (hx : x ≠ 0) (hy : y ≠ 0) : x * y ≠ 0 ∧ decide (x * y < 0) = (decide (x < 0) ^^ decide (y < 0)) := by
 rcases Int.lt_trichotomy x 0 with c | c | c
 ·rcases Int.lt_trichotomy y 0 with d | d | d
  ·have := Int.mul_pos_of_neg_of_neg c d
   exact ⟨by omega, by rw [decide_eq_true c, decide_eq_true d, decide_eq_false (by omega)]; rfl⟩
  ·exact absurd d hy
  ·have := Int.mul_neg_of_neg_of_pos c d
   exact ⟨by omega, by rw [decide_eq_true c, decide_eq_false (by omega : ¬ y < 0), decide_eq_true this]; rfl⟩
 ·exact absurd c hx
 ·rcases Int.lt_trichotomy y 0 with d | d | d
  ·have := Int.mul_neg_of_pos_of_neg c d
   exact ⟨by omega, by rw [decide_eq_false (by omega : ¬ x < 0), decide_eq_true d, decide_eq_true this]; rfl⟩
  ·exact absurd d hy
  ·have := Int.mul_pos c d
   exact ⟨by omega, by rw [decide_eq_false (by omega : ¬ x < 0), decide_eq_false (by omega : ¬ y < 0), decide_eq_false (by omega)]; rfl⟩
theorem mul_fu {a b : Nat} (m : Int) (ha : a < 18446744073709551616) (hb : b < 18446744073709551616) (sa : someB a = true) (sb : someB b = true) : stepF (pQ a b) (pS a b) m = fuV (vI a * vI b) m := by
 obtain ⟨fa, a0⟩ := some_rung sa
 obtain ⟨fb, b0⟩ := some_rung sb
 have a0' : rung a ≠ 0 := by simpa using a0
 have b0' : rung b ≠ 0 := by simpa using b0
 have m1 : mg (rung a) ≠ 0 := by unfold mg; split <;> omega
 have m2 : mg (rung b) ≠ 0 := by unfold mg; split <;> omega
 have hm := Nat.mul_ne_zero m1 m2
 obtain ⟨va, wa⟩ := vI_sign a0'
 obtain ⟨vb, wb⟩ := vI_sign b0'
 obtain ⟨hX0, hXs⟩ := mul_sign va vb
 rw [wa, wb] at hXs
 have hq : floatBits .mul .f64 a b = some (Ieee.double.nearest (sgn a ^^ sgn b) (mg (rung a) * mg (rung b)) (-1074 + ((up (rung a) : Nat) : Int) + (-1074 + ((up (rung b) : Nat) : Int)))) := by
  rw [(fbits_map a b).2.2.1, read_fin ha fa, read_fin hb fb]
  rfl
 obtain ⟨k, ek, hN⟩ := nearK_of (sgn a ^^ sgn b) (m := mg (rung a) * mg (rung b)) (p := -1074 + ((up (rung a) : Nat) : Int) + (-1074 + ((up (rung b) : Nat) : Int))) hm (by omega)
 have hk := hN.1
 have hr := word_rung (sgn a ^^ sgn b) (show k < 9223372036854775808 by omega)
 have eq : pQ a b = Ieee.double.word (sgn a ^^ sgn b) k := by unfold pQ; rw [hq, ek]; rfl
 have hab : ∀ x, (vI x).natAbs = mg (rung x) * 2 ^ up (rung x) := fun x => by
  have e : (vI x).natAbs = val (rung x) := by unfold vI; split <;> omega
  rw [e, mg_up]
 have eA : mg (rung a) * mg (rung b) * 2 ^ (-1074 + ((up (rung a) : Nat) : Int) + (-1074 + ((up (rung b) : Nat) : Int)) + 65536).toNat = (vI a * vI b).natAbs * 2 ^ puH := by
  rw [Int.natAbs_mul, hab, hab, show (-1074 + ((up (rung a) : Nat) : Int) + (-1074 + ((up (rung b) : Nat) : Int)) + 65536).toNat = up (rung a) + up (rung b) + puH by unfold puH; omega, Nat.pow_add, Nat.pow_add]
  generalize puH = v
  ac_rfl
 rw [eA] at hN
 rw [fuV_of hX0 hN, hXs]
 suffices hsr : pS a b = sdK (sgn a ^^ sgn b) ((vI a * vI b).natAbs * 2 ^ puH) k by rw [hsr, eq]
 unfold pS
 rw [eq]
 by_cases hi : k = 9218868437227405312
 ·have fq : finB (Ieee.double.word (sgn a ^^ sgn b) k) = false := by unfold finB; rw [hr.1, hi]; rfl
  rw [fq, hr.2]
  unfold sdK
  rw [if_pos hi]
  simp
 ·have hki : k < 9218868437227405312 := by omega
  have fq : finB (Ieee.double.word (sgn a ^^ sgn b) k) = true := by unfold finB; rw [hr.1]; exact decide_eq_true hki
  rw [fq, sdK_units2 hki hXs.symm]
  simp only [if_true]
  rw [exX_un (L := twP) rfl, vI_ng (word_lt64 _ (by omega)), Int.neg_mul, ← Int.sub_eq_add_neg]
def sdN (A k : Nat) : Int := if k = 9218868437227405312 then -1 else sgI ((A : Int) - ((val k * 2 ^ kV : Nat) : Int))
def rgK (A k : Nat) (m : Int) : Nat := if (m = 1 ∨ m = 3) ∧ sdN A k < 0 then k - 1 else if m = 2 ∧ 0 < sdN A k then k + 1 else k
theorem near_low {A k i : Nat} (h : NearK A k) (hi : i < k) : (val i + val k) * 2 ^ kV ≤ 2 * A := by
 have hk := h.1
 have h1 := (h.2 (k - 1) (by omega)).1 (by omega)
 unfold aboveD at h1
 rw [show k - 1 + 1 = k by omega] at h1
 have h2 := val_le_D (show i ≤ k - 1 by omega)
 have h3 : (val i + val k) * 2 ^ kV ≤ (val (k - 1) + val k) * 2 ^ kV := Nat.mul_le_mul_right _ (by omega)
 generalize (val (k - 1) + val k) * 2 ^ kV = x at *
 generalize (val i + val k) * 2 ^ kV = y at *
 omega
theorem near_up {A k : Nat} (h : NearK A k) (hk : k < 9218868437227405312) : 2 * A ≤ (val k + val (k + 1)) * 2 ^ kV := by
 have h1 : ¬ aboveD kV A k := fun c => absurd ((h.2 k hk).2 c) (Nat.lt_irrefl _)
 unfold aboveD at h1
 generalize (val k + val (k + 1)) * 2 ^ kV = x at *
 omega
theorem sdN_lt {A k : Nat} (hk : k < 9218868437227405312) : (sdN A k < 0 ↔ A < val k * 2 ^ kV) ∧ (0 < sdN A k ↔ val k * 2 ^ kV < A) := by
 unfold sdN sgI
 rw [if_neg (by omega)]
 generalize val k * 2 ^ kV = x
 constructor <;> (repeat' split) <;> omega
theorem rg_down {A k : Nat} (h : NearK A k) (hA : 0 < A) : rgK A k 1 < 9218868437227405312 ∧ val (rgK A k 1) * 2 ^ kV ≤ A ∧ (rgK A k 1 + 1 < 9218868437227405312 → A < val (rgK A k 1 + 1) * 2 ^ kV) := by
 have hk := h.1
 have hp := Nat.two_pow_pos kV
 unfold rgK
 by_cases hi : k = 9218868437227405312
 ·have hs : sdN A k < 0 := by unfold sdN; rw [if_pos hi]; decide
  rw [if_pos ⟨Or.inl rfl, hs⟩]
  refine ⟨by omega, ?_, fun c => by omega⟩
  have h1 := near_low h (show k - 1 < k by omega)
  have h2 := val_le_D (show k - 1 ≤ k by omega)
  have h3 : 2 * (val (k - 1) * 2 ^ kV) ≤ (val (k - 1) + val k) * 2 ^ kV := by
   rw [← Nat.mul_assoc]
   exact Nat.mul_le_mul_right _ (by omega)
  generalize (val (k - 1) + val k) * 2 ^ kV = x at *
  generalize val (k - 1) * 2 ^ kV = y at *
  omega
 ·have hk2 : k < 9218868437227405312 := by omega
  obtain ⟨s1, s2⟩ := sdN_lt (A := A) hk2
  by_cases hs : sdN A k < 0
  ·rw [if_pos ⟨Or.inl rfl, hs⟩]
   have hlt := s1.1 hs
   have hk0 : k ≠ 0 := fun e => by rw [e, val_zero, Nat.zero_mul] at hlt; omega
   refine ⟨by omega, ?_, fun _ => by rw [show k - 1 + 1 = k by omega]; exact hlt⟩
   have h1 := near_low h (show k - 1 < k by omega)
   have h2 := val_le_D (show k - 1 ≤ k by omega)
   have h3 : 2 * (val (k - 1) * 2 ^ kV) ≤ (val (k - 1) + val k) * 2 ^ kV := by
    rw [← Nat.mul_assoc]
    exact Nat.mul_le_mul_right _ (by omega)
   generalize (val (k - 1) + val k) * 2 ^ kV = x at *
   generalize val (k - 1) * 2 ^ kV = y at *
   omega
  ·rw [if_neg (fun c => hs c.2), if_neg (fun c => absurd c.1 (by decide))]
   have hge : val k * 2 ^ kV ≤ A := Nat.le_of_not_lt fun c => hs (s1.2 c)
   refine ⟨hk2, hge, fun _ => ?_⟩
   have h1 := near_up h hk2
   have h3 : (val k + val (k + 1)) * 2 ^ kV < 2 * (val (k + 1) * 2 ^ kV) := by
    rw [← Nat.mul_assoc]
    exact (Nat.mul_lt_mul_right hp).2 (by have := val_step k; omega)
   generalize (val k + val (k + 1)) * 2 ^ kV = x at *
   generalize val (k + 1) * 2 ^ kV = y at *
   omega
theorem rg_up {A k : Nat} (h : NearK A k) (hA : 0 < A) : 0 < rgK A k 2 ∧ rgK A k 2 ≤ 9218868437227405312 ∧ (rgK A k 2 < 9218868437227405312 → A ≤ val (rgK A k 2) * 2 ^ kV) ∧ val (rgK A k 2 - 1) * 2 ^ kV < A := by
 have hk := h.1
 have hp := Nat.two_pow_pos kV
 have low : ∀ {j}, 0 < j → j ≤ k → val (j - 1) * 2 ^ kV < A := fun {j} h0 hj => by
  have h1 := near_low h (show j - 1 < k by omega)
  have h2 := val_lt (show j - 1 < k by omega)
  have h3 : 2 * (val (j - 1) * 2 ^ kV) < (val (j - 1) + val k) * 2 ^ kV := by
   rw [← Nat.mul_assoc]
   exact (Nat.mul_lt_mul_right hp).2 (by omega)
  generalize (val (j - 1) + val k) * 2 ^ kV = x at *
  generalize val (j - 1) * 2 ^ kV = y at *
  omega
 unfold rgK
 rw [if_neg (fun c => absurd c.1 (by decide))]
 by_cases hi : k = 9218868437227405312
 ·have hs : ¬ 0 < sdN A k := by unfold sdN; rw [if_pos hi]; decide
  rw [if_neg (fun c => hs c.2)]
  exact ⟨by omega, by omega, fun c => by omega, low (by omega) (Nat.le_refl _)⟩
 ·have hk2 : k < 9218868437227405312 := by omega
  obtain ⟨s1, s2⟩ := sdN_lt (A := A) hk2
  by_cases hs : 0 < sdN A k
  ·rw [if_pos ⟨rfl, hs⟩]
   refine ⟨by omega, by omega, fun _ => ?_, by rw [show k + 1 - 1 = k by omega]; exact s2.1 hs⟩
   have h1 := near_up h hk2
   have h3 : (val k + val (k + 1)) * 2 ^ kV ≤ 2 * (val (k + 1) * 2 ^ kV) := by
    rw [← Nat.mul_assoc]
    exact Nat.mul_le_mul_right _ (by have := val_step k; omega)
   generalize (val k + val (k + 1)) * 2 ^ kV = x at *
   generalize val (k + 1) * 2 ^ kV = y at *
   omega
  ·rw [if_neg (fun c => hs c.2)]
   have hge : A ≤ val k * 2 ^ kV := Nat.le_of_not_lt fun c => hs (s2.2 c)
   have hk0 : 0 < k := by
    rcases Nat.eq_zero_or_pos k with e | e
    ·rw [e, val_zero, Nat.zero_mul] at hge; omega
    ·exact e
   exact ⟨hk0, by omega, fun _ => hge, low hk0 (Nat.le_refl _)⟩
theorem near_mono {A B j k : Nat} (h : A ≤ B) (hj : NearK A j) (hk : NearK B k) : j ≤ k := by
 rcases Nat.lt_or_ge k j with c | c
 ·exfalso
  have kb := hk.1
  have jb := hj.1
  have h1 := (hj.2 k (by omega)).1 c
  have h2 : ¬ aboveD kV B k := fun d => absurd ((hk.2 k (by omega)).2 d) (Nat.lt_irrefl _)
  apply h2
  unfold aboveD at h1 ⊢
  generalize (val k + val (k + 1)) * 2 ^ kV = x at *
  rcases h1 with g | ⟨g1, g2⟩
  ·left; omega
  ·rcases Nat.lt_or_ge A B with d | d
   ·left; omega
   ·right; exact ⟨by omega, g2⟩
 ·exact c
theorem rg_down_mono {A B j k : Nat} (h : A ≤ B) (hA : 0 < A) (hj : NearK A j) (hk : NearK B k) : rgK A j 1 ≤ rgK B k 1 := by
 obtain ⟨a1, a2, a3⟩ := rg_down hj hA
 obtain ⟨b1, b2, b3⟩ := rg_down hk (by omega)
 generalize rgK A j 1 = x at *
 generalize rgK B k 1 = y at *
 rcases Nat.lt_or_ge y x with c | c
 ·exfalso
  have h1 := b3 (by omega)
  have h2 : val (y + 1) * 2 ^ kV ≤ val x * 2 ^ kV := Nat.mul_le_mul_right _ (val_le_D c)
  generalize val (y + 1) * 2 ^ kV = p at *
  generalize val x * 2 ^ kV = q at *
  omega
 ·exact c
theorem rg_up_mono {A B j k : Nat} (h : A ≤ B) (hA : 0 < A) (hj : NearK A j) (hk : NearK B k) : rgK A j 2 ≤ rgK B k 2 := by
 obtain ⟨a0, a1, a2, a3⟩ := rg_up hj hA
 obtain ⟨b0, b1, b2, b3⟩ := rg_up hk (by omega)
 generalize rgK A j 2 = x at *
 generalize rgK B k 2 = y at *
 rcases Nat.lt_or_ge y x with c | c
 ·exfalso
  have h1 := b2 (by omega)
  have h2 : val y * 2 ^ kV ≤ val (x - 1) * 2 ^ kV := Nat.mul_le_mul_right _ (val_le_D (by omega))
  generalize val (x - 1) * 2 ^ kV = p at *
  generalize val y * 2 ^ kV = q at *
  omega
 ·exact c
theorem rg_three (A k : Nat) : rgK A k 3 = rgK A k 1 := by
 unfold rgK
 by_cases h : sdN A k < 0
 ·simp [h]
 ·simp [h]
theorem rg_other {A k : Nat} {m : Int} (h1 : m ≠ 1) (h2 : m ≠ 2) (h3 : m ≠ 3) : rgK A k m = k := by
 unfold rgK
 rw [if_neg (fun c => by rcases c.1 with e | e; exact h1 e; exact h3 e), if_neg (fun c => h2 c.1)]
theorem rg_mono {A B j k : Nat} (m : Int) (h : A ≤ B) (hA : 0 < A) (hj : NearK A j) (hk : NearK B k) : rgK A j m ≤ rgK B k m := by
 by_cases h1 : m = 1
 ·subst h1; exact rg_down_mono h hA hj hk
 ·by_cases h2 : m = 2
  ·subst h2; exact rg_up_mono h hA hj hk
  ·by_cases h3 : m = 3
   ·subst h3; rw [rg_three, rg_three]; exact rg_down_mono h hA hj hk
   ·rw [rg_other h1 h2 h3, rg_other h1 h2 h3]; exact near_mono h hj hk
theorem rg_le {A k : Nat} (m : Int) (hA : 0 < A) (h : NearK A k) : rgK A k m ≤ 9218868437227405312 := by
 by_cases h1 : m = 1
 ·subst h1; exact Nat.le_of_lt (rg_down h hA).1
 ·by_cases h2 : m = 2
  ·subst h2; exact (rg_up h hA).2.1
  ·by_cases h3 : m = 3
   ·subst h3; rw [rg_three]; exact Nat.le_of_lt (rg_down h hA).1
   ·rw [rg_other h1 h2 h3]; exact h.1
theorem fu_units {X : Int} (h : X ≠ 0) : 0 < X.natAbs * 2 ^ puH := Nat.mul_pos (by omega) (Nat.two_pow_pos _)
theorem fuV_pos {X : Int} (m : Int) (h : 0 < X) : fuV X m = rgK (X.natAbs * 2 ^ puH) (fuK X) m := by
 have h0 : X ≠ 0 := by omega
 have hN := fuK_near h0
 have hA := fu_units h0
 have hk := hN.1
 have es : decide (X < 0) = false := decide_eq_false (by omega)
 unfold fuV
 rw [es, word_k _ (by omega)]
 simp only [Bool.false_eq_true, if_false]
 generalize hk' : fuK X = k at *
 generalize X.natAbs * 2 ^ puH = A at *
 have e1 : sdK false A k = sdN A k := by
  unfold sdK sdN
  split <;> simp
 rw [e1, stepF_plus m hk ?_ ?_]
 ·rfl
 ·intro e
  rw [(sdN_lt (by omega)).1, e, val_zero, Nat.zero_mul]
  omega
 ·intro e
  unfold sdN
  rw [if_pos e]
  decide
theorem tmd_tmd (m : Int) : tmd (tmd m) = m := by
 unfold tmd
 by_cases h1 : m = 1
 ·subst h1; rfl
 ·by_cases h2 : m = 2
  ·subst h2; rfl
  ·rw [if_neg h1, if_neg h2, if_neg h1, if_neg h2]
theorem fuV_neg {X : Int} (m : Int) (h : X < 0) : fuV X m = negW (rgK (X.natAbs * 2 ^ puH) (fuK X) (tmd m)) := by
 have h1 := fuV_turn (X := -X) (tmd m) (by omega)
 rw [Int.neg_neg, tmd_tmd] at h1
 have e : fuK (-X) = fuK X := by unfold fuK; rw [Int.natAbs_neg]
 rw [h1, fuV_pos (tmd m) (by omega), e, Int.natAbs_neg]
theorem place_rung {r : Nat} (h : r ≤ 9218868437227405312) : place r = r ∧ place (negW r) = -(r : Int) := by
 have e : place r = r := place_small (by omega)
 refine ⟨e, ?_⟩
 have := (neg_place (a := r) (by omega)).1
 rw [e] at this
 exact this
theorem fuV_mono {X Y : Int} (m : Int) (h : X ≤ Y) (hX : X ≠ 0) (hY : Y ≠ 0) : place (fuV X m) ≤ place (fuV Y m) := by
 have nX := fuK_near hX
 have nY := fuK_near hY
 have aX := fu_units hX
 have aY := fu_units hY
 rcases Int.lt_or_le X 0 with c | c
 ·have lX := rg_le (tmd m) aX nX
  rw [fuV_neg m c, (place_rung lX).2]
  rcases Int.lt_or_le Y 0 with d | d
  ·have lY := rg_le (tmd m) aY nY
   rw [fuV_neg m d, (place_rung lY).2]
   have := rg_mono (tmd m) (Nat.mul_le_mul_right (2 ^ puH) (show Y.natAbs ≤ X.natAbs by omega)) aY nY nX
   omega
  ·have lY := rg_le m aY nY
   rw [fuV_pos m (by omega), (place_rung lY).1]
   omega
 ·have lX := rg_le m aX nX
  have lY := rg_le m aY nY
  rw [fuV_pos m (by omega), fuV_pos m (by omega), (place_rung lX).1, (place_rung lY).1]
  have := rg_mono m (Nat.mul_le_mul_right (2 ^ puH) (show X.natAbs ≤ Y.natAbs by omega)) aX nX nY
  omega
end Go.Proofs.YtfipmopmpacdaaaGreatDoor
