/- Fused of any floats: what the program answers. -/
import Derived.Test.YtomohmjjaijlbaaGreatDoorZm
import Derived.Test.YtomohmjjaijlbaaGreatDoorZv
namespace Go.Proofs.YtomohmjjaijlbaaGreatDoor
open Go.RowKit

/-- A number of at most 53 bits (or 2^53) and a power of two. -/
def Rep (n : Int) : Prop := ∃ (i : Nat) (t : Int), n = t * 2 ^ i ∧ t.natAbs ≤ 9007199254740992
/-- n is one that is nearest to X. -/
def Nst (X n : Int) : Prop := Rep n ∧ ∀ m, Rep m → (n - X).natAbs ≤ (m - X).natAbs
theorem pw_pos (i : Nat) : (0 : Int) < 2 ^ i := Int.pow_pos (by decide)
theorem pw_abs (i : Nat) : ((2 : Int) ^ i).natAbs = 2 ^ i := by rw [Int.natAbs_pow]; rfl
theorem rep_neg {n : Int} (h : Rep n) : Rep (-n) := by
  obtain ⟨i, t, rfl, ht⟩ := h
  exact ⟨i, -t, by rw [Int.neg_mul], by rw [Int.natAbs_neg]; exact ht⟩
theorem rep_zero : Rep 0 := ⟨0, 0, by simp, by decide⟩
theorem rep_small {n : Int} {i : Nat} (h : (2 : Int) ^ i ∣ n) (hb : n.natAbs ≤ 9007199254740992 * 2 ^ i) : Rep n := by
  obtain ⟨q, rfl⟩ := h
  refine ⟨i, q, Int.mul_comm _ _, ?_⟩
  rw [Int.natAbs_mul, pw_abs, Nat.mul_comm] at hb
  exact Nat.le_of_mul_le_mul_right hb (Nat.two_pow_pos i)
theorem rep_abs {i : Nat} {t : Int} (ht : t.natAbs ≤ 9007199254740992) : (t * 2 ^ i).natAbs ≤ 9007199254740992 * 2 ^ i := by
  rw [Int.natAbs_mul, pw_abs]
  exact Nat.mul_le_mul_right _ ht
theorem rep_pw (i : Nat) : Rep (9007199254740992 * 2 ^ i) := ⟨i, 9007199254740992, rfl, by decide⟩
theorem nst_self {X n : Int} (hX : Rep X) (h : Nst X n) : n = X := by
  have := h.2 X hX
  omega
theorem nst_ge {X n F : Int} (h : Nst X n) (hF : Rep F) (hx : F ≤ X) : F ≤ n := by
  have := h.2 F hF
  omega
theorem nst_le {X n F : Int} (h : Nst X n) (hF : Rep F) (hx : X ≤ F) : n ≤ F := by
  have := h.2 F hF
  omega
theorem pw_le {i l : Nat} (h : i ≤ l) : (2 : Nat) ^ i ≤ 2 ^ l := Nat.pow_le_pow_right (by decide) h
theorem pw_dvd {i l : Nat} (h : i ≤ l) : (2 : Int) ^ i ∣ 2 ^ l := ⟨2 ^ (l - i), by rw [← Int.pow_add]; congr 1; omega⟩
theorem pw_cast (i : Nat) : (((2 : Nat) ^ i : Nat) : Int) = (2 : Int) ^ i := by push_cast; rfl
/-- Beyond 2^53 2^l: not less than that. -/
theorem nst_far {X n : Int} {l : Nat} (h : Nst X n) (hX : 9007199254740992 * 2 ^ l ≤ X.natAbs) : 9007199254740992 * 2 ^ l ≤ n.natAbs := by
  have hF := rep_pw l
  have e := pw_cast l
  by_cases h0 : 0 ≤ X
  · have := nst_ge h hF (by rw [← e]; omega)
    rw [← e] at this
    omega
  · have := nst_le h (rep_neg hF) (by rw [← e]; omega)
    rw [← e] at this
    omega
theorem nst_dvd1 {X n : Int} {l : Nat} (h : Nst X n) (hX : 9007199254740992 * 2 ^ l ≤ X.natAbs) : (2 : Int) ^ (l + 1) ∣ n := by
  have hf := nst_far h hX
  obtain ⟨i, t, rfl, ht⟩ := h.1
  rcases Nat.lt_or_ge l i with c | c
  · exact Int.dvd_trans (pw_dvd c) (Int.dvd_mul_left _ _)
  · have h1 := rep_abs (i := i) ht
    have h2 := pw_le c
    have h3 : (t * 2 ^ i).natAbs = 9007199254740992 * 2 ^ l := by omega
    refine Int.natAbs_dvd_natAbs.1 ?_
    rw [h3, pw_abs, Nat.pow_succ]
    exact ⟨4503599627370496, by omega⟩
/-- The lesser addend's places. -/
theorem ts_common {a b : Int} (ha : Rep a) (hb : Rep b) (hab : b.natAbs ≤ a.natAbs) : ∃ l : Nat, (2 : Int) ^ l ∣ a ∧ (2 : Int) ^ l ∣ b ∧ b.natAbs ≤ 9007199254740992 * 2 ^ l ∧ ((2 : Int) ^ (l + 1) ∣ a ∨ a.natAbs ≤ 9007199254740992 * 2 ^ l) := by
  obtain ⟨i, A, rfl, hA⟩ := ha
  obtain ⟨h, B, rfl, hB⟩ := hb
  have h1 := rep_abs (i := i) hA
  have h2 := rep_abs (i := h) hB
  rcases Nat.lt_trichotomy h i with c | c | c
  · exact ⟨h, Int.dvd_trans (pw_dvd (by omega)) (Int.dvd_mul_left _ _), Int.dvd_mul_left _ _, h2, Or.inl (Int.dvd_trans (pw_dvd (by omega)) (Int.dvd_mul_left _ _))⟩
  · subst c
    exact ⟨h, Int.dvd_mul_left _ _, Int.dvd_mul_left _ _, h2, Or.inr h1⟩
  · exact ⟨i, Int.dvd_mul_left _ _, Int.dvd_trans (pw_dvd (by omega)) (Int.dvd_mul_left _ _), by omega, Or.inr h1⟩
/-- What a sum is beyond its greater addend. -/
theorem ts_dif {a b n : Int} (ha : Rep a) (hb : Rep b) (hab : b.natAbs ≤ a.natAbs) (h : Nst (a + b) n) : Rep (n - a) := by
  by_cases hr : Rep (a + b)
  · rw [nst_self hr h, show a + b - a = b by omega]; exact hb
  obtain ⟨l, h1, h2, h3, h4⟩ := ts_common ha hb hab
  have hX : 9007199254740992 * 2 ^ l < (a + b).natAbs := by
    rcases Nat.lt_or_ge (9007199254740992 * 2 ^ l) (a + b).natAbs with c | c
    · exact c
    · exact absurd (rep_small (Int.dvd_add h1 h2) c) hr
  have hn := nst_dvd1 h (Nat.le_of_lt hX)
  have h5 := h.2 a ha
  have hs : (2 : Nat) ^ (l + 1) = 2 * 2 ^ l := by rw [Nat.pow_succ, Nat.mul_comm]
  by_cases ha1 : (2 : Int) ^ (l + 1) ∣ a
  · exact rep_small (Int.dvd_sub hn ha1) (by rw [hs]; omega)
  have h6 := h4.resolve_left ha1
  have hn0 : (2 : Int) ^ l ∣ n := Int.dvd_trans (pw_dvd (by omega)) hn
  refine rep_small (Int.dvd_sub hn0 h1) ?_
  -- one is within 2^l of the sum
  obtain ⟨x, hx⟩ := h1
  obtain ⟨y, hy⟩ := h2
  have hsI : (2 : Int) ^ (l + 1) = 2 * 2 ^ l := by rw [Int.pow_succ, Int.mul_comm]
  have e := pw_cast l
  have hq : a + b = 2 ^ l * (x + y) := by rw [hx, hy, Int.mul_add]
  have hodd : (x + y) % 2 = 1 := by
    rcases (show (x + y) % 2 = 0 ∨ (x + y) % 2 = 1 by omega) with c | c
    · exfalso
      refine hr (rep_small (i := l + 1) ?_ (by rw [hs]; omega))
      rw [hq, hsI]
      exact ⟨(x + y) / 2, by rw [show 2 * (2 : Int) ^ l = 2 ^ l * 2 from Int.mul_comm _ _, Int.mul_assoc]; congr 1; omega⟩
    · exact c
  have hxo : x % 2 = 1 := by
    rcases (show x % 2 = 0 ∨ x % 2 = 1 by omega) with c | c
    · exfalso
      refine ha1 ?_
      rw [hx, hsI]
      exact ⟨x / 2, by rw [show 2 * (2 : Int) ^ l = 2 ^ l * 2 from Int.mul_comm _ _, Int.mul_assoc]; congr 1; omega⟩
    · exact c
  have bx : x.natAbs ≤ 9007199254740992 := by
    rw [hx, Int.natAbs_mul, pw_abs, Nat.mul_comm] at h6
    exact Nat.le_of_mul_le_mul_right h6 (Nat.two_pow_pos l)
  have byy : y.natAbs ≤ x.natAbs := by
    rw [hx, hy, Int.natAbs_mul, Int.natAbs_mul, pw_abs] at hab
    exact Nat.le_of_mul_le_mul_left hab (Nat.two_pow_pos l)
  have bound : ∀ z : Int, (z = x + y - 1 ∨ z = x + y + 1) → z.natAbs ≤ 18014398509481984 → (n - (a + b)).natAbs ≤ 2 ^ l := by
    intro z hz hz2
    have hz3 : z % 2 = 0 := by omega
    have hm : Rep (2 ^ l * z) := by
      refine rep_small (i := l + 1) ?_ ?_
      · rw [hsI]
        exact ⟨z / 2, by rw [show 2 * (2 : Int) ^ l = 2 ^ l * 2 from Int.mul_comm _ _, Int.mul_assoc]; congr 1; omega⟩
      · rw [Int.natAbs_mul, pw_abs, hs]
        have := Nat.mul_le_mul_left (2 ^ l) hz2
        omega
    have h7 := h.2 _ hm
    rw [hq] at h7 ⊢
    have h8 : (2 ^ l * z - 2 ^ l * (x + y)).natAbs = 2 ^ l := by
      rw [← Int.mul_sub, Int.natAbs_mul, pw_abs]
      rcases hz with c | c <;> rw [c]
      · rw [show x + y - 1 - (x + y) = -1 by omega]; simp
      · rw [show x + y + 1 - (x + y) = 1 by omega]; simp
    omega
  have hnX : (n - (a + b)).natAbs ≤ 2 ^ l := by
    by_cases c : 0 ≤ x + y
    · exact bound (x + y - 1) (Or.inl rfl) (by omega)
    · exact bound (x + y + 1) (Or.inr rfl) (by omega)
  have hb2 : b.natAbs ≤ 9007199254740991 * 2 ^ l := by
    rw [hy, Int.natAbs_mul, pw_abs, Nat.mul_comm]
    exact Nat.mul_le_mul_right _ (by omega)
  omega
end Go.Proofs.YtomohmjjaijlbaaGreatDoor

namespace Go.Proofs.YtomohmjjaijlbaaGreatDoor
open Go.RowKit

theorem rep_ladder : ∀ (i t : Nat), t ≤ 9007199254740992 → ∃ k, val k = t * 2 ^ i
  | 0, t, h => by
    by_cases c : t < 9007199254740992
    · exact ⟨0 * 4503599627370496 + t, (d_val_kept c (Or.inl rfl)).1⟩
    · refine ⟨1 * 4503599627370496 + 4503599627370496, ?_⟩
      rw [(d_val_kept (U := 1) (k := 4503599627370496) (by omega) (Or.inr (Nat.le_refl _))).1]
      omega
  | i + 1, t, h => by
    by_cases c : t < 4503599627370496
    · obtain ⟨k, hk⟩ := rep_ladder i (2 * t) (by omega)
      exact ⟨k, by rw [hk, Nat.pow_succ]; generalize 2 ^ i = P; rw [Nat.mul_comm 2 t, Nat.mul_assoc, Nat.mul_comm P 2]⟩
    · by_cases c2 : t < 9007199254740992
      · exact ⟨(i + 1) * 4503599627370496 + t, (d_val_kept c2 (Or.inr (by omega))).1⟩
      · refine ⟨(i + 2) * 4503599627370496 + 4503599627370496, ?_⟩
        rw [(d_val_kept (U := i + 2) (k := 4503599627370496) (by omega) (Or.inr (Nat.le_refl _))).1, show t = 9007199254740992 by omega, show i + 2 = (i + 1) + 1 from rfl, Nat.pow_succ]
        generalize 2 ^ (i + 1) = P
        omega
theorem rep_val {n : Int} (h : Rep n) : ∃ k, n.natAbs = val k := by
  obtain ⟨i, t, rfl, ht⟩ := h
  obtain ⟨k, hk⟩ := rep_ladder i t.natAbs ht
  exact ⟨k, by rw [hk, Int.natAbs_mul, pw_abs]⟩
theorem val_rep (k : Nat) : Rep (val k : Int) := by
  refine ⟨up k, (mg k : Int), ?_, ?_⟩
  · rw [← mg_up]; push_cast; rfl
  · have := mg_lt k
    omega
theorem vI_rep (x : Nat) : Rep (vI x) := by
  unfold vI
  split
  · exact rep_neg (val_rep _)
  · exact val_rep _
theorem nst_mid {X n : Int} {k : Nat} (hn : n = if X < 0 then -(val k : Int) else (val k : Int)) (hk : k < 9218868437227405312) (h : ∀ r, r < 9218868437227405312 → (r < k ↔ aboveD 0 X.natAbs r)) : Nst X n := by
  refine ⟨by rw [hn]; split; exact rep_neg (val_rep _); exact val_rep _, fun m hm => ?_⟩
  obtain ⟨j, hj⟩ := rep_val hm
  have hup : 2 * X.natAbs ≤ val k + val (k + 1) := by
    have h1 : ¬ aboveD 0 X.natAbs k := fun c => absurd ((h k hk).2 c) (Nat.lt_irrefl _)
    unfold aboveD at h1
    rw [Nat.pow_zero, Nat.mul_one] at h1
    omega
  have hlow : ∀ i, i < k → val i + val k ≤ 2 * X.natAbs := fun i hi => by
    have h1 := (h (k - 1) (by omega)).1 (by omega)
    unfold aboveD at h1
    rw [Nat.pow_zero, Nat.mul_one, show k - 1 + 1 = k by omega] at h1
    have h2 := val_le_D (show i ≤ k - 1 by omega)
    omega
  have key : (val k : Int) - X.natAbs ≤ ((val j : Int) - X.natAbs).natAbs ∧ (X.natAbs : Int) - val k ≤ ((val j : Int) - X.natAbs).natAbs := by
    rcases Nat.lt_trichotomy j k with c | c | c
    · have h1 := hlow j c
      have h2 := val_le_D (Nat.le_of_lt c)
      omega
    · subst c; omega
    · have h2 := val_le_D (show k + 1 ≤ j from c)
      have h3 := val_le_D (show k ≤ k + 1 by omega)
      omega
  rw [hn]
  generalize val k = a at *
  generalize val j = b at *
  split <;> omega
/-- A finite float nearest to X, of its sign. -/
def FlX (X : Int) (r : Nat) : Prop := r < 18446744073709551616 ∧ finB r = true ∧ Nst X (vI r) ∧ signF r = sgI X
/-- The greatest finite float. -/
def IsTop (W : Nat) : Prop := W = val 9218868437227405311
theorem above_units {K A r : Nat} : aboveD K (A * 2 ^ K) r ↔ aboveD 0 A r := by
  unfold aboveD
  rw [Nat.pow_zero, Nat.mul_one, ← Nat.mul_assoc]
  have hp := Nat.two_pow_pos K
  rw [Nat.mul_lt_mul_right hp]
  have e : (val r + val (r + 1)) * 2 ^ K = 2 * A * 2 ^ K ↔ val r + val (r + 1) = 2 * A := ⟨fun h => Nat.eq_of_mul_eq_mul_right hp h, fun h => by rw [h]⟩
  rw [e]
theorem near_fl (s : Bool) (m : Nat) (p : Int) (K : Nat) {X : Int} (hK : 0 ≤ p + 1074 + K) (hX : m * 2 ^ (p + 1074 + K).toNat = X.natAbs * 2 ^ K) (hs : X ≠ 0 → s = decide (X < 0)) (hb : X.natAbs ≤ val 9218868437227405311) : FlX X (Ieee.double.nearest s m p) := by
  have hp := Nat.two_pow_pos K
  by_cases hm : m = 0
  · have h0 : X = 0 := by
      rw [hm, Nat.zero_mul] at hX
      have := Nat.mul_eq_zero.1 hX.symm
      omega
    have ef : Ieee.double.nearest s m p = Ieee.double.word s 0 := by rw [hm]; rfl
    have hr := word_rung s (show 0 < 9223372036854775808 by omega)
    rw [ef, h0]
    refine ⟨word_lt64 s (by omega), by unfold finB; rw [hr.1]; rfl, ?_, ?_⟩
    · have e : vI (Ieee.double.word s 0) = 0 := by unfold vI; rw [hr.1, val_zero]; split <;> rfl
      rw [e]
      exact ⟨rep_zero, fun m _ => by omega⟩
    · unfold signF place nanB
      rw [hr.1]
      cases sgn (Ieee.double.word s 0) <;> rfl
  · have h0 : X ≠ 0 := by
      intro h
      rw [h] at hX
      have hX2 : m * 2 ^ (p + 1074 + (K : Int)).toNat = 0 := by rw [hX]; exact Nat.zero_mul _
      rcases Nat.mul_eq_zero.1 hX2 with g | g
      · exact hm g
      · have := Nat.two_pow_pos (p + 1074 + (K : Int)).toNat
        omega
    have es := hs h0
    obtain ⟨k, e, hk, c⟩ := near_anyD s p K (m := m) hm hK
    rw [hX] at c
    have c' : ∀ r, r < 9218868437227405312 → (r < k ↔ aboveD 0 X.natAbs r) := fun r hr => (c r hr).trans above_units
    have hki : k < 9218868437227405312 := by
      rcases Nat.lt_or_ge k 9218868437227405312 with h | h
      · exact h
      · exfalso
        have h1 := (c' 9218868437227405311 (by omega)).1 (by omega)
        have h3 : val 9218868437227405311 < val (9218868437227405311 + 1) := val_step _
        unfold aboveD at h1
        rw [Nat.pow_zero, Nat.mul_one] at h1
        generalize val 9218868437227405311 = a at *
        generalize val (9218868437227405311 + 1) = b at *
        omega
    have kp : 0 < k := (c' 0 (by omega)).2 (by
      left
      rw [show val 0 + val (0 + 1) = 1 by decide, Nat.one_mul]
      omega)
    have hr := word_rung s (show k < 9223372036854775808 by omega)
    rw [e]
    refine ⟨word_lt64 s (by omega), by unfold finB; rw [hr.1]; exact decide_eq_true hki, ?_, ?_⟩
    · refine nst_mid (k := k) ?_ hki c'
      unfold vI
      rw [hr.1, hr.2, es]
      by_cases g : X < 0 <;> simp [g]
    · unfold signF place nanB
      rw [hr.1, hr.2, es, decide_eq_false (show ¬ 9218868437227405312 < k by omega)]
      unfold sgI
      by_cases g : X < 0 <;> simp [g] <;> omega
theorem sgn_val (x : Nat) {u : Nat} (hu : u ≤ up (rung x)) : Ieee.signed (sgn x) (mg (rung x)) (up (rung x) - u) * (2 ^ u : Nat) = vI x := by
  rw [signed_mul, Nat.sub_add_cancel hu, mg_up]
  rfl
theorem neg_pw {T : Int} {u : Nat} : (T * 2 ^ u < 0 ↔ T < 0) ∧ (T * 2 ^ u = 0 ↔ T = 0) := by
  have hp := pw_pos u
  constructor
  · constructor
    · intro h
      rcases Int.lt_or_le T 0 with c | c
      · exact c
      · have := Int.mul_nonneg c (Int.le_of_lt hp)
        omega
    · intro h; exact Int.mul_neg_of_neg_of_pos h hp
  · constructor
    · intro h
      rcases Int.mul_eq_zero.1 h with c | c
      · exact c
      · omega
    · intro h; rw [h, Int.zero_mul]
theorem add_fl {x y : Nat} (hx : x < 18446744073709551616) (hy : y < 18446744073709551616) (fx : finB x = true) (fy : finB y = true) {W : Nat} (hW : IsTop W) (hb : (vI x + vI y).natAbs ≤ W) : ∃ r, floatBits .add .f64 x y = some r ∧ FlX (vI x + vI y) r := by
  rw [(fbits_map x y).1, read_fin hx fx, read_fin hy fy, sum_val]
  simp only [Option.map_some, Ieee.Format.write]
  obtain ⟨u, hu⟩ : ∃ u, min (up (rung x)) (up (rung y)) = u := ⟨_, rfl⟩
  have e1 := sgn_val x (u := u) (by omega)
  have e2 := sgn_val y (u := u) (by omega)
  rw [hu]
  generalize Ieee.signed (sgn x) (mg (rung x)) (up (rung x) - u) = P at *
  generalize Ieee.signed (sgn y) (mg (rung y)) (up (rung y) - u) = Q at *
  have e3 : vI x + vI y = (P + Q) * 2 ^ u := by rw [← e1, ← e2, ← Int.add_mul]; push_cast; rfl
  rw [e3] at hb ⊢
  generalize P + Q = T at *
  refine ⟨_, rfl, near_fl _ _ _ 0 (by omega) ?_ ?_ (hW ▸ hb)⟩
  · rw [Int.natAbs_mul, pw_abs, show (-1074 + (u : Int) + 1074 + ((0 : Nat) : Int)).toNat = u by omega, Nat.pow_zero, Nat.mul_one]
  · intro h
    have hT : T ≠ 0 := fun c => h ((neg_pw (u := u)).2.2 c)
    rw [if_neg hT]
    exact decide_eq_decide.2 (neg_pw (u := u)).1.symm
theorem vI_ng {x : Nat} (hx : x < 18446744073709551616) : vI (negW x) = -vI x := by
  obtain ⟨h1, h2⟩ := neg_rung hx
  unfold vI
  rw [h1, h2]
  cases sgn x <;> simp
theorem sub_fl {x y : Nat} (hx : x < 18446744073709551616) (hy : y < 18446744073709551616) (fx : finB x = true) (fy : finB y = true) {W : Nat} (hW : IsTop W) (hb : (vI x - vI y).natAbs ≤ W) : ∃ r, floatBits .sub .f64 x y = some r ∧ FlX (vI x - vI y) r := by
  have h := add_fl hx (negW_lt hy) fx ((neg_fin hy).trans fy) hW (by rw [vI_ng hy, ← Int.sub_eq_add_neg]; exact hb)
  rw [vI_ng hy, ← Int.sub_eq_add_neg, ← fsub_add hy] at h
  exact h
end Go.Proofs.YtomohmjjaijlbaaGreatDoor

namespace Go.Proofs.YtomohmjjaijlbaaGreatDoor
open Go.RowKit

def puH : Nat := 63388
/-- The rung that X units of 2^-2148 are rounded to. -/
def fuK (X : Int) : Nat := rung (Ieee.double.nearest false X.natAbs (-2148))
/-- An exact number other than 0, rounded. -/
def fuV (X m : Int) : Nat := stepF (Ieee.double.word (decide (X < 0)) (fuK X)) (sdK (decide (X < 0)) (X.natAbs * 2 ^ puH) (fuK X)) m
/-- What Fused tells of finite floats. -/
def fuW (a b c : Nat) (m : Int) : Nat := if exX a b c = 0 then noughtR (rung a == 0 || rung b == 0) (sgn a != sgn b) c m else fuV (exX a b c) m
theorem fuK_near {X : Int} (h : X ≠ 0) : NearK (X.natAbs * 2 ^ puH) (fuK X) := by
  obtain ⟨k, e, hN⟩ := nearK_of false (m := X.natAbs) (p := -2148) (by omega) (by omega)
  have : fuK X = k := by unfold fuK; rw [e]; exact (word_rung false (by have := hN.1; omega)).1
  rw [show ((-2148 : Int) + 65536).toNat = puH from rfl] at hN
  rw [this]
  exact hN
theorem fuV_of {X : Int} {m : Int} {k : Nat} (h0 : X ≠ 0) (hN : NearK (X.natAbs * 2 ^ puH) k) : fuV X m = stepF (Ieee.double.word (decide (X < 0)) k) (sdK (decide (X < 0)) (X.natAbs * 2 ^ puH) k) m := by
  rw [nearK_uniq hN (fuK_near h0)]; rfl
theorem sgI_pw (T : Int) (u : Nat) : sgI (T * 2 ^ u) = sgI T := by
  have h := neg_pw (T := T) (u := u)
  unfold sgI
  by_cases c : T < 0
  · rw [if_pos c, if_pos (h.1.2 c)]
  · rw [if_neg c, if_neg (fun g => c (h.1.1 g))]
    by_cases d : T = 0
    · rw [if_pos d, if_pos (h.2.2 d)]
    · rw [if_neg d, if_neg (fun g => d (h.2.1 g))]
theorem sgI_opp (x : Int) : -sgI x = sgI (-x) := by unfold sgI; split <;> split <;> (try split) <;> (try split) <;> omega
/-- On which side the exact number lies, in units of 2^-1074. -/
theorem sdK_units {X' : Int} {k : Nat} {s : Bool} (hk : k < 9218868437227405312) (hs : s = decide (X' < 0)) {A : Nat} (hA : A = X'.natAbs * 2 ^ kV) : sdK s A k = sgI (X' - vI (Ieee.double.word s k)) := by
  have hr := word_rung s (show k < 9223372036854775808 by omega)
  have e1 : ((A : Int) - ((val k * 2 ^ kV : Nat) : Int)) = ((X'.natAbs : Int) - val k) * 2 ^ kV := by
    rw [hA]
    generalize kV = u
    rw [Int.sub_mul]
    push_cast
    rfl
  have hk2 : ¬ k = 9218868437227405312 := by omega
  unfold sdK
  rw [if_neg hk2, e1, sgI_pw]
  clear hA e1
  unfold vI
  rw [hr.1, hr.2, hs]
  by_cases g : X' < 0
  · simp only [g, decide_true, if_true]
    rw [sgI_opp]
    congr 1
    omega
  · simp only [g, decide_false, Bool.false_eq_true, if_false]
    congr 1
    omega
end Go.Proofs.YtomohmjjaijlbaaGreatDoor

namespace Go.Proofs.YtomohmjjaijlbaaGreatDoor
open Go.RowKit

theorem num_lt {x K : Nat} (hx : x ≤ 9218868437227405312) (hK : K ≤ 9218868437227405312) : (FloatKind.f64.format.order x K == some .lt) = decide (x < K) ∧ (FloatKind.f64.format.order x K == some .gt) = decide (K < x) := by
  have n1 : nanB x = false := nan_small (by omega)
  have n2 : nanB K = false := nan_small (by omega)
  have p1 : place x = x := place_small (by omega)
  have p2 : place K = K := place_small (by omega)
  rcases Nat.lt_trichotomy x K with c | c | c
  · rw [ord_lt (by omega) (by omega) n1 n2 (by omega), decide_eq_true c, decide_eq_false (by omega)]; exact ⟨rfl, rfl⟩
  · rw [ord_eq (by omega) (by omega) n1 n2 (by omega), decide_eq_false (by omega), decide_eq_false (by omega)]; exact ⟨rfl, rfl⟩
  · rw [ord_gt (by omega) (by omega) n1 n2 (by omega), decide_eq_false (by omega), decide_eq_true c]; exact ⟨rfl, rfl⟩
end Go.Proofs.YtomohmjjaijlbaaGreatDoor

namespace Go.Proofs.YtomohmjjaijlbaaGreatDoor
open Go.RowKit

/-- A product and a sum of which a factor is not finite. -/
def fuI (a b c : Nat) : Option Nat := (floatBits .mul .f64 a b).bind fun p => floatBits .add .f64 p c
/-- What Fused tells of any floats, all NaN as one. -/
def fuO (a b c : Nat) (m : Int) : Option Nat := if finB a && finB b then (if finB c then some (fuW a b c m) else if nanB c then none else some c) else fuI a b c
theorem mul_nought {a b p : Nat} (ha : a < 18446744073709551616) (hb : b < 18446744073709551616) (fa : finB a = true) (fb : finB b = true) (h : rung a = 0 ∨ rung b = 0) (hp : floatBits .mul .f64 a b = some p) : rung p = 0 ∧ sgn p = (sgn a != sgn b) := by
  rw [(fbits_map a b).2.2.1, read_fin ha fa, read_fin hb fb] at hp
  simp only [Ieee.Datum.product, Option.map_some, Ieee.Format.write, Option.some.injEq] at hp
  have m0 : mg (rung a) * mg (rung b) = 0 := by
    rcases h with h | h <;> rw [h]
    · rw [show mg 0 = 0 by decide, Nat.zero_mul]
    · rw [show mg 0 = 0 by decide, Nat.mul_zero]
  rw [m0] at hp
  have e : Ieee.double.nearest (sgn a ^^ sgn b) 0 (-1074 + ((up (rung a) : Nat) : Int) + (-1074 + ((up (rung b) : Nat) : Int))) = Ieee.double.word (sgn a ^^ sgn b) 0 := rfl
  have hr := word_rung (sgn a ^^ sgn b) (show 0 < 9223372036854775808 by omega)
  rw [← hp, e]
  exact ⟨hr.1, hr.2⟩
end Go.Proofs.YtomohmjjaijlbaaGreatDoor
