/- Fused of any floats: what the program answers. -/
import Derived.Test.YtlhoidkfphellaaDoorZm
import Derived.Test.YtlhoidkfphellaaDoorZv
namespace Go.Proofs.YtlhoidkfphellaaDoor
open Go.RowKit

/-- A number of at most 53 bits (or 2^53) and a power of two. -/
def Rep (n : Int) : Prop := ∃ (i : Nat) (t : Int), n = t * 2 ^ i ∧ t.natAbs ≤ 9007199254740992
/-- n is one that is nearest to X. -/
def Nst (X n : Int) : Prop := Rep n ∧ ∀ m, Rep m → (n - X).natAbs ≤ (m - X).natAbs
theorem pw_pos (i : Nat) : (0 : Int) < 2 ^ i := Int.pow_pos (by decide)
theorem pw_abs (i : Nat) : ((2 : Int) ^ i).natAbs = 2 ^ i := by rw [Int.natAbs_pow]; rfl
theorem rep_neg {n : Int} (h : Rep n) : Rep (-n) := by
  obtain ⟨i, t, rfl, ht⟩ := h
  exact ⟨i, -t, by rw [Int.neg_mul], by rw [Int.natAbs_neg]; exact ht⟩
theorem rep_dbl {n : Int} (h : Rep n) : Rep (2 * n) := by
  obtain ⟨i, t, rfl, ht⟩ := h
  exact ⟨i + 1, t, by rw [Int.pow_succ]; generalize (2 : Int) ^ i = P; rw [Int.mul_comm 2, Int.mul_assoc], ht⟩
theorem rep_zero : Rep 0 := ⟨0, 0, by simp, by decide⟩
theorem rep_small {n : Int} {i : Nat} (h : (2 : Int) ^ i ∣ n) (hb : n.natAbs ≤ 9007199254740992 * 2 ^ i) : Rep n := by
  obtain ⟨q, rfl⟩ := h
  refine ⟨i, q, Int.mul_comm _ _, ?_⟩
  rw [Int.natAbs_mul, pw_abs, Nat.mul_comm] at hb
  exact Nat.le_of_mul_le_mul_right hb (Nat.two_pow_pos i)
theorem rep_abs {i : Nat} {t : Int} (ht : t.natAbs ≤ 9007199254740992) : (t * 2 ^ i).natAbs ≤ 9007199254740992 * 2 ^ i := by
  rw [Int.natAbs_mul, pw_abs]
  exact Nat.mul_le_mul_right _ ht
theorem rep_pw (i : Nat) : Rep (9007199254740992 * 2 ^ i) := ⟨i, 9007199254740992, rfl, by decide⟩
theorem rep_two (i : Nat) : Rep (2 ^ i) := ⟨i, 1, by rw [Int.one_mul], by decide⟩
theorem nst_neg {X n : Int} (h : Nst X n) : Nst (-X) (-n) := by
  refine ⟨rep_neg h.1, fun m hm => ?_⟩
  have := h.2 (-m) (rep_neg hm)
  omega
theorem nst_self {X n : Int} (hX : Rep X) (h : Nst X n) : n = X := by
  have := h.2 X hX
  omega
theorem nst_ge {X n F : Int} (h : Nst X n) (hF : Rep F) (hx : F ≤ X) : F ≤ n := by
  have := h.2 F hF
  omega
theorem nst_le {X n F : Int} (h : Nst X n) (hF : Rep F) (hx : X ≤ F) : n ≤ F := by
  have := h.2 F hF
  omega
theorem pw_le {i l : Nat} (h : i ≤ l) : (2 : Nat) ^ i ≤ 2 ^ l := Nat.pow_le_pow_right (by decide) h
theorem pw_dvd {i l : Nat} (h : i ≤ l) : (2 : Int) ^ i ∣ 2 ^ l := ⟨2 ^ (l - i), by rw [← Int.pow_add]; congr 1; omega⟩
theorem pw_cast (i : Nat) : (((2 : Nat) ^ i : Nat) : Int) = (2 : Int) ^ i := by push_cast; rfl
/-- Beyond 2^53 2^l: not less than that. -/
theorem nst_far {X n : Int} {l : Nat} (h : Nst X n) (hX : 9007199254740992 * 2 ^ l ≤ X.natAbs) : 9007199254740992 * 2 ^ l ≤ n.natAbs := by
  have hF := rep_pw l
  have e := pw_cast l
  by_cases h0 : 0 ≤ X
  · have := nst_ge h hF (by rw [← e]; omega)
    rw [← e] at this
    omega
  · have := nst_le h (rep_neg hF) (by rw [← e]; omega)
    rw [← e] at this
    omega
theorem nst_dvd1 {X n : Int} {l : Nat} (h : Nst X n) (hX : 9007199254740992 * 2 ^ l ≤ X.natAbs) : (2 : Int) ^ (l + 1) ∣ n := by
  have hf := nst_far h hX
  obtain ⟨i, t, rfl, ht⟩ := h.1
  rcases Nat.lt_or_ge l i with c | c
  · exact Int.dvd_trans (pw_dvd c) (Int.dvd_mul_left _ _)
  · have h1 := rep_abs (i := i) ht
    have h2 := pw_le c
    have h3 : (t * 2 ^ i).natAbs = 9007199254740992 * 2 ^ l := by omega
    refine Int.natAbs_dvd_natAbs.1 ?_
    rw [h3, pw_abs, Nat.pow_succ]
    exact ⟨4503599627370496, by omega⟩
theorem nst_dvd {X n : Int} {l : Nat} (hl : (2 : Int) ^ l ∣ X) (h : Nst X n) : (2 : Int) ^ l ∣ n := by
  rcases Nat.le_total X.natAbs (9007199254740992 * 2 ^ l) with c | c
  · rw [nst_self (rep_small hl c) h]; exact hl
  · exact Int.dvd_trans (pw_dvd (by omega)) (nst_dvd1 h c)
/-- The lesser addend's places. -/
theorem ts_common {a b : Int} (ha : Rep a) (hb : Rep b) (hab : b.natAbs ≤ a.natAbs) : ∃ l : Nat, (2 : Int) ^ l ∣ a ∧ (2 : Int) ^ l ∣ b ∧ b.natAbs ≤ 9007199254740992 * 2 ^ l ∧ ((2 : Int) ^ (l + 1) ∣ a ∨ a.natAbs ≤ 9007199254740992 * 2 ^ l) := by
  obtain ⟨i, A, rfl, hA⟩ := ha
  obtain ⟨h, B, rfl, hB⟩ := hb
  have h1 := rep_abs (i := i) hA
  have h2 := rep_abs (i := h) hB
  rcases Nat.lt_trichotomy h i with c | c | c
  · exact ⟨h, Int.dvd_trans (pw_dvd (by omega)) (Int.dvd_mul_left _ _), Int.dvd_mul_left _ _, h2, Or.inl (Int.dvd_trans (pw_dvd (by omega)) (Int.dvd_mul_left _ _))⟩
  · subst c
    exact ⟨h, Int.dvd_mul_left _ _, Int.dvd_mul_left _ _, h2, Or.inr h1⟩
  · exact ⟨i, Int.dvd_mul_left _ _, Int.dvd_trans (pw_dvd (by omega)) (Int.dvd_mul_left _ _), by omega, Or.inr h1⟩
/-- What a sum loses. -/
theorem ts_err {a b n : Int} (ha : Rep a) (hb : Rep b) (hab : b.natAbs ≤ a.natAbs) (h : Nst (a + b) n) : Rep (a + b - n) := by
  obtain ⟨l, h1, h2, h3, _⟩ := ts_common ha hb hab
  have h4 := nst_dvd (Int.dvd_add h1 h2) h
  have h5 := h.2 a ha
  exact rep_small (Int.dvd_sub (Int.dvd_add h1 h2) h4) (by omega)
/-- What a sum is beyond its greater addend. -/
theorem ts_dif {a b n : Int} (ha : Rep a) (hb : Rep b) (hab : b.natAbs ≤ a.natAbs) (h : Nst (a + b) n) : Rep (n - a) := by
  by_cases hr : Rep (a + b)
  · rw [nst_self hr h, show a + b - a = b by omega]; exact hb
  obtain ⟨l, h1, h2, h3, h4⟩ := ts_common ha hb hab
  have hX : 9007199254740992 * 2 ^ l < (a + b).natAbs := by
    rcases Nat.lt_or_ge (9007199254740992 * 2 ^ l) (a + b).natAbs with c | c
    · exact c
    · exact absurd (rep_small (Int.dvd_add h1 h2) c) hr
  have hn := nst_dvd1 h (Nat.le_of_lt hX)
  have h5 := h.2 a ha
  have hs : (2 : Nat) ^ (l + 1) = 2 * 2 ^ l := by rw [Nat.pow_succ, Nat.mul_comm]
  by_cases ha1 : (2 : Int) ^ (l + 1) ∣ a
  · exact rep_small (Int.dvd_sub hn ha1) (by rw [hs]; omega)
  have h6 := h4.resolve_left ha1
  have hn0 : (2 : Int) ^ l ∣ n := Int.dvd_trans (pw_dvd (by omega)) hn
  refine rep_small (Int.dvd_sub hn0 h1) ?_
  -- one is within 2^l of the sum
  obtain ⟨x, hx⟩ := h1
  obtain ⟨y, hy⟩ := h2
  have hsI : (2 : Int) ^ (l + 1) = 2 * 2 ^ l := by rw [Int.pow_succ, Int.mul_comm]
  have e := pw_cast l
  have hq : a + b = 2 ^ l * (x + y) := by rw [hx, hy, Int.mul_add]
  have hodd : (x + y) % 2 = 1 := by
    rcases (show (x + y) % 2 = 0 ∨ (x + y) % 2 = 1 by omega) with c | c
    · exfalso
      refine hr (rep_small (i := l + 1) ?_ (by rw [hs]; omega))
      rw [hq, hsI]
      exact ⟨(x + y) / 2, by rw [show 2 * (2 : Int) ^ l = 2 ^ l * 2 from Int.mul_comm _ _, Int.mul_assoc]; congr 1; omega⟩
    · exact c
  have hxo : x % 2 = 1 := by
    rcases (show x % 2 = 0 ∨ x % 2 = 1 by omega) with c | c
    · exfalso
      refine ha1 ?_
      rw [hx, hsI]
      exact ⟨x / 2, by rw [show 2 * (2 : Int) ^ l = 2 ^ l * 2 from Int.mul_comm _ _, Int.mul_assoc]; congr 1; omega⟩
    · exact c
  have bx : x.natAbs ≤ 9007199254740992 := by
    rw [hx, Int.natAbs_mul, pw_abs, Nat.mul_comm] at h6
    exact Nat.le_of_mul_le_mul_right h6 (Nat.two_pow_pos l)
  have byy : y.natAbs ≤ x.natAbs := by
    rw [hx, hy, Int.natAbs_mul, Int.natAbs_mul, pw_abs] at hab
    exact Nat.le_of_mul_le_mul_left hab (Nat.two_pow_pos l)
  have bound : ∀ z : Int, (z = x + y - 1 ∨ z = x + y + 1) → z.natAbs ≤ 18014398509481984 → (n - (a + b)).natAbs ≤ 2 ^ l := by
    intro z hz hz2
    have hz3 : z % 2 = 0 := by omega
    have hm : Rep (2 ^ l * z) := by
      refine rep_small (i := l + 1) ?_ ?_
      · rw [hsI]
        exact ⟨z / 2, by rw [show 2 * (2 : Int) ^ l = 2 ^ l * 2 from Int.mul_comm _ _, Int.mul_assoc]; congr 1; omega⟩
      · rw [Int.natAbs_mul, pw_abs, hs]
        have := Nat.mul_le_mul_left (2 ^ l) hz2
        omega
    have h7 := h.2 _ hm
    rw [hq] at h7 ⊢
    have h8 : (2 ^ l * z - 2 ^ l * (x + y)).natAbs = 2 ^ l := by
      rw [← Int.mul_sub, Int.natAbs_mul, pw_abs]
      rcases hz with c | c <;> rw [c]
      · rw [show x + y - 1 - (x + y) = -1 by omega]; simp
      · rw [show x + y + 1 - (x + y) = 1 by omega]; simp
    omega
  have hnX : (n - (a + b)).natAbs ≤ 2 ^ l := by
    by_cases c : 0 ≤ x + y
    · exact bound (x + y - 1) (Or.inl rfl) (by omega)
    · exact bound (x + y + 1) (Or.inr rfl) (by omega)
  have hb2 : b.natAbs ≤ 9007199254740991 * 2 ^ l := by
    rw [hy, Int.natAbs_mul, pw_abs, Nat.mul_comm]
    exact Nat.mul_le_mul_right _ (by omega)
  omega
/-- Half a place at most. -/
theorem nst_half {X n : Int} (h : Nst X n) : ∃ i : Nat, (2 : Int) ^ i ∣ n ∧ 2 * (X - n).natAbs ≤ 2 ^ i := by
  obtain ⟨i, t, ht1, ht⟩ := h.1
  have str : ∃ (i : Nat) (t : Int), n = t * 2 ^ i ∧ t.natAbs < 9007199254740992 := by
    by_cases c : t.natAbs < 9007199254740992
    · exact ⟨i, t, ht1, c⟩
    · refine ⟨i + 1, t / 2, ?_, by omega⟩
      rw [ht1, Int.pow_succ, Int.mul_comm _ (2 : Int), ← Int.mul_assoc]
      congr 1
      omega
  clear ht1 ht t i
  obtain ⟨i, t, ht1, ht⟩ := str
  have e := pw_cast i
  refine ⟨i, by rw [ht1]; exact Int.dvd_mul_left _ _, ?_⟩
  have r1 : Rep (n + 2 ^ i) := ⟨i, t + 1, by rw [Int.add_mul, Int.one_mul, ht1], by omega⟩
  have r2 : Rep (n - 2 ^ i) := ⟨i, t - 1, by rw [Int.sub_mul, Int.one_mul, ht1], by omega⟩
  have h1 := h.2 _ r1
  have h2 := h.2 _ r2
  rw [← e] at h1 h2
  have hp := Nat.two_pow_pos i
  clear r1 r2 ht1 ht h e
  generalize (2 : Nat) ^ i = P at *
  omega
/-- What a product loses. -/
theorem prod_err {A B n : Int} {e : Nat} (hA : A.natAbs ≤ 9007199254740992) (hB : B.natAbs ≤ 9007199254740992) (h : Nst (A * B * 2 ^ e) n) : Rep (A * B * 2 ^ e - n) := by
  have hd : (2 : Int) ^ e ∣ A * B * 2 ^ e := Int.dvd_mul_left _ _
  have hn := nst_dvd hd h
  have hP : (A * B).natAbs ≤ 9007199254740992 * 9007199254740992 := by rw [Int.natAbs_mul]; exact Nat.mul_le_mul hA hB
  generalize A * B = P at *
  have hm : Rep (P / 9007199254740992 * 9007199254740992 * 2 ^ e) := by
    refine ⟨e + 53, P / 9007199254740992, by rw [Int.pow_add, Int.mul_assoc]; congr 1; rw [Int.mul_comm]; rfl, ?_⟩
    omega
  have h1 := h.2 _ hm
  have h2 : (P / 9007199254740992 * 9007199254740992 * 2 ^ e - P * 2 ^ e).natAbs ≤ 9007199254740992 * 2 ^ e := by
    rw [← Int.sub_mul, Int.natAbs_mul, pw_abs]
    exact Nat.mul_le_mul_right _ (by omega)
  exact rep_small (Int.dvd_sub hd hn) (by omega)
/-- The two sums ahead of the last one are exact. -/
theorem rest_rep {S E hi nr : Int} {j : Nat} (hS : (2 : Int) ^ j ∣ S) (hE : 2 * E.natAbs ≤ 2 ^ j) (hh : Nst S hi) (hn : Nst (S + E) nr) (hm : Rep (S - hi)) : Rep (hi - nr) ∧ Rep (S - nr) := by
  have ej := pw_cast j
  have hp := Nat.two_pow_pos j
  by_cases hr : Rep S
  · have e1 := nst_self hr hh
    subst e1
    suffices Rep (hi - nr) from ⟨this, this⟩
    have h1 := hn.2 hi hr
    have h2 : (hi - nr).natAbs ≤ 2 ^ j := by omega
    obtain ⟨i, t, ht1, ht⟩ := hn.1
    have hdi : (2 : Int) ^ i ∣ nr := by rw [ht1]; exact Int.dvd_mul_left _ _
    rcases Nat.lt_or_ge i j with c | c
    · rcases Nat.lt_or_ge (i + 53) j with c2 | c2
      · -- nr is at most half of 2^j
        have h3 := rep_abs (i := i) ht
        rw [← ht1] at h3
        obtain ⟨j', rfl⟩ : ∃ j', j = j' + 1 := ⟨j - 1, by omega⟩
        have h4 : (2 : Nat) ^ (i + 53) ≤ 2 ^ j' := pw_le (by omega)
        rw [Nat.pow_add, Nat.mul_comm] at h4
        have hs : (2 : Nat) ^ (j' + 1) = 2 * 2 ^ j' := by rw [Nat.pow_succ, Nat.mul_comm]
        have e' := pw_cast j'
        by_cases h0 : hi = 0
        · rw [h0, Int.zero_sub]; exact rep_neg hn.1
        · have hbig : 2 ^ (j' + 1) ≤ hi.natAbs := by
            obtain ⟨q, hq⟩ := hS
            rw [hq, Int.natAbs_mul, pw_abs]
            have : q ≠ 0 := fun hz => h0 (by rw [hq, hz, Int.mul_zero])
            exact Nat.le_mul_of_pos_right _ (by omega)
          have hnr : 2 ^ j' ≤ nr.natAbs := by
            by_cases c3 : 0 ≤ hi
            · have := nst_ge hn (rep_two j') (by rw [← e']; omega)
              rw [← e'] at this
              omega
            · have := nst_le hn (rep_neg (rep_two j')) (by rw [← e']; omega)
              rw [← e'] at this
              omega
          have hnd : (2 : Int) ^ j' ∣ nr := by
            refine Int.natAbs_dvd_natAbs.1 ?_
            rw [pw_abs, show nr.natAbs = 2 ^ j' by omega]
            exact Nat.dvd_refl _
          exact rep_small (Int.dvd_sub (Int.dvd_trans (pw_dvd (by omega)) hS) hnd) (by omega)
      · refine rep_small (Int.dvd_sub (Int.dvd_trans (pw_dvd (by omega)) hS) hdi) ?_
        have h4 : (2 : Nat) ^ j ≤ 2 ^ (i + 53) := pw_le c2
        rw [Nat.pow_add, Nat.mul_comm] at h4
        omega
    · exact rep_small (Int.dvd_sub hS (Int.dvd_trans (pw_dvd c) hdi)) (by omega)
  · have hbig : 9007199254740992 * 2 ^ j < S.natAbs := by
      rcases Nat.lt_or_ge (9007199254740992 * 2 ^ j) S.natAbs with c | c
      · exact c
      · exact absurd (rep_small hS c) hr
    have hbig2 : 9007199254740992 * 2 ^ j + 2 ^ j ≤ S.natAbs := by
      obtain ⟨q, hq⟩ := hS
      rw [hq, Int.natAbs_mul, pw_abs] at hbig ⊢
      rw [Nat.mul_comm (2 ^ j)] at hbig ⊢
      have := Nat.lt_of_mul_lt_mul_right hbig
      have := Nat.mul_le_mul_right (2 ^ j) (show 9007199254740992 + 1 ≤ q.natAbs by omega)
      omega
    have d1 := nst_dvd1 hh (Nat.le_of_lt hbig)
    have d2 := nst_dvd1 hn (l := j) (by omega)
    have d3 : (2 : Int) ^ (j + 1) ∣ 2 * S := by rw [Int.pow_succ, Int.mul_comm]; exact Int.mul_dvd_mul_left 2 hS
    have d4 : (2 : Int) ^ (j + 1) ∣ hi + nr - 2 * S := Int.dvd_sub (Int.dvd_add d1 d2) d3
    have h1 := hh.2 nr hn.1
    have h2 := hn.2 hi hh.1
    have hz : hi = nr ∨ hi + nr - 2 * S = 0 := by
      by_cases c : hi = nr
      · exact Or.inl c
      · right
        have hsm : (hi + nr - 2 * S).natAbs ≤ 2 ^ j := by omega
        obtain ⟨q, hq⟩ := d4
        rw [hq, Int.natAbs_mul, pw_abs, Nat.pow_succ, Nat.mul_assoc] at hsm
        have : 2 * q.natAbs ≤ 1 := Nat.le_of_mul_le_mul_left (by omega) hp
        rw [hq, show q = 0 by omega, Int.mul_zero]
    rcases hz with c | c
    · subst c
      exact ⟨by rw [Int.sub_self]; exact rep_zero, hm⟩
    · have e1 : S - nr = -(S - hi) := by omega
      have e2 : hi - nr = 2 * (S - nr) := by omega
      rw [e2, e1]
      exact ⟨rep_dbl (rep_neg hm), rep_neg hm⟩
/-- What is left of a fused product and sum is told by sums of which all but the last are exact. -/
theorem fused_core {R C p lo hi nr : Int} (hp : Nst R p) (hC : Rep C) (hl : Nst (C + (R - p)) lo) (hh : Nst (p + lo) hi) (hm : Rep (p + lo - hi)) (hn : Nst (R + C) nr) :
    Rep (hi - nr) ∧ Rep (hi - nr + (p + lo - hi)) ∧ hi - nr + (p + lo - hi) + (C + (R - p) - lo) = R + C - nr := by
  obtain ⟨i, i1, i2⟩ := nst_half hp
  obtain ⟨k, k1, k2⟩ := nst_half hl
  have h1 := hl.2 C hC
  obtain ⟨j, j1, j2, j3⟩ : ∃ j : Nat, j ≤ i ∧ j ≤ k ∧ 2 * (C + (R - p) - lo).natAbs ≤ 2 ^ j := by
    rcases Nat.le_total i k with c | c
    · exact ⟨i, Nat.le_refl _, c, by omega⟩
    · exact ⟨k, c, Nat.le_refl _, by omega⟩
  have hS : (2 : Int) ^ j ∣ p + lo := Int.dvd_add (Int.dvd_trans (pw_dvd j1) i1) (Int.dvd_trans (pw_dvd j2) k1)
  have hn2 : Nst (p + lo + (C + (R - p) - lo)) nr := by
    rw [show p + lo + (C + (R - p) - lo) = R + C by omega]; exact hn
  obtain ⟨a1, a2⟩ := rest_rep hS j3 hh hn2 hm
  refine ⟨a1, ?_, by omega⟩
  rw [show hi - nr + (p + lo - hi) = p + lo - nr by omega]
  exact a2
end Go.Proofs.YtlhoidkfphellaaDoor

namespace Go.Proofs.YtlhoidkfphellaaDoor
open Go.RowKit

theorem rep_ladder : ∀ (i t : Nat), t ≤ 9007199254740992 → ∃ k, val k = t * 2 ^ i
  | 0, t, h => by
    by_cases c : t < 9007199254740992
    · exact ⟨0 * 4503599627370496 + t, (d_val_kept c (Or.inl rfl)).1⟩
    · refine ⟨1 * 4503599627370496 + 4503599627370496, ?_⟩
      rw [(d_val_kept (U := 1) (k := 4503599627370496) (by omega) (Or.inr (Nat.le_refl _))).1]
      omega
  | i + 1, t, h => by
    by_cases c : t < 4503599627370496
    · obtain ⟨k, hk⟩ := rep_ladder i (2 * t) (by omega)
      exact ⟨k, by rw [hk, Nat.pow_succ]; generalize 2 ^ i = P; rw [Nat.mul_comm 2 t, Nat.mul_assoc, Nat.mul_comm P 2]⟩
    · by_cases c2 : t < 9007199254740992
      · exact ⟨(i + 1) * 4503599627370496 + t, (d_val_kept c2 (Or.inr (by omega))).1⟩
      · refine ⟨(i + 2) * 4503599627370496 + 4503599627370496, ?_⟩
        rw [(d_val_kept (U := i + 2) (k := 4503599627370496) (by omega) (Or.inr (Nat.le_refl _))).1, show t = 9007199254740992 by omega, show i + 2 = (i + 1) + 1 from rfl, Nat.pow_succ]
        generalize 2 ^ (i + 1) = P
        omega
theorem rep_val {n : Int} (h : Rep n) : ∃ k, n.natAbs = val k := by
  obtain ⟨i, t, rfl, ht⟩ := h
  obtain ⟨k, hk⟩ := rep_ladder i t.natAbs ht
  exact ⟨k, by rw [hk, Int.natAbs_mul, pw_abs]⟩
theorem val_rep (k : Nat) : Rep (val k : Int) := by
  refine ⟨up k, (mg k : Int), ?_, ?_⟩
  · rw [← mg_up]; push_cast; rfl
  · have := mg_lt k
    omega
theorem vI_rep (x : Nat) : Rep (vI x) := by
  unfold vI
  split
  · exact rep_neg (val_rep _)
  · exact val_rep _
theorem nst_mid {X n : Int} {k : Nat} (hn : n = if X < 0 then -(val k : Int) else (val k : Int)) (hk : k < 9218868437227405312) (h : ∀ r, r < 9218868437227405312 → (r < k ↔ aboveD 0 X.natAbs r)) : Nst X n := by
  refine ⟨by rw [hn]; split; exact rep_neg (val_rep _); exact val_rep _, fun m hm => ?_⟩
  obtain ⟨j, hj⟩ := rep_val hm
  have hup : 2 * X.natAbs ≤ val k + val (k + 1) := by
    have h1 : ¬ aboveD 0 X.natAbs k := fun c => absurd ((h k hk).2 c) (Nat.lt_irrefl _)
    unfold aboveD at h1
    rw [Nat.pow_zero, Nat.mul_one] at h1
    omega
  have hlow : ∀ i, i < k → val i + val k ≤ 2 * X.natAbs := fun i hi => by
    have h1 := (h (k - 1) (by omega)).1 (by omega)
    unfold aboveD at h1
    rw [Nat.pow_zero, Nat.mul_one, show k - 1 + 1 = k by omega] at h1
    have h2 := val_le_D (show i ≤ k - 1 by omega)
    omega
  have key : (val k : Int) - X.natAbs ≤ ((val j : Int) - X.natAbs).natAbs ∧ (X.natAbs : Int) - val k ≤ ((val j : Int) - X.natAbs).natAbs := by
    rcases Nat.lt_trichotomy j k with c | c | c
    · have h1 := hlow j c
      have h2 := val_le_D (Nat.le_of_lt c)
      omega
    · subst c; omega
    · have h2 := val_le_D (show k + 1 ≤ j from c)
      have h3 := val_le_D (show k ≤ k + 1 by omega)
      omega
  rw [hn]
  generalize val k = a at *
  generalize val j = b at *
  split <;> omega
/-- A finite float nearest to X, of its sign. -/
def FlX (X : Int) (r : Nat) : Prop := r < 18446744073709551616 ∧ finB r = true ∧ Nst X (vI r) ∧ signF r = sgI X
/-- The greatest finite float. -/
def IsTop (W : Nat) : Prop := W = val 9218868437227405311
theorem top_val {V : Nat} (hV : V = 2090) : 2 ^ V < val 9218868437227405311 := by
  have h := d_val_kept (U := V - 45) (k := 9007199254740991) (by omega) (Or.inr (by omega))
  rw [show (V - 45) * 4503599627370496 + 9007199254740991 = 9218868437227405311 by omega] at h
  rw [h.1, show V = V - 45 + 45 by omega, Nat.pow_add, show V - 45 + 45 - 45 = V - 45 by omega, Nat.mul_comm]
  exact (Nat.mul_lt_mul_right (Nat.two_pow_pos _)).2 (by decide)
theorem above_units {K A r : Nat} : aboveD K (A * 2 ^ K) r ↔ aboveD 0 A r := by
  unfold aboveD
  rw [Nat.pow_zero, Nat.mul_one, ← Nat.mul_assoc]
  have hp := Nat.two_pow_pos K
  rw [Nat.mul_lt_mul_right hp]
  have e : (val r + val (r + 1)) * 2 ^ K = 2 * A * 2 ^ K ↔ val r + val (r + 1) = 2 * A := ⟨fun h => Nat.eq_of_mul_eq_mul_right hp h, fun h => by rw [h]⟩
  rw [e]
theorem near_fl (s : Bool) (m : Nat) (p : Int) (K : Nat) {X : Int} (hK : 0 ≤ p + 1074 + K) (hX : m * 2 ^ (p + 1074 + K).toNat = X.natAbs * 2 ^ K) (hs : X ≠ 0 → s = decide (X < 0)) (hb : X.natAbs ≤ val 9218868437227405311) : FlX X (Ieee.double.nearest s m p) := by
  have hp := Nat.two_pow_pos K
  by_cases hm : m = 0
  · have h0 : X = 0 := by
      rw [hm, Nat.zero_mul] at hX
      have := Nat.mul_eq_zero.1 hX.symm
      omega
    have ef : Ieee.double.nearest s m p = Ieee.double.word s 0 := by rw [hm]; rfl
    have hr := word_rung s (show 0 < 9223372036854775808 by omega)
    rw [ef, h0]
    refine ⟨word_lt64 s (by omega), by unfold finB; rw [hr.1]; rfl, ?_, ?_⟩
    · have e : vI (Ieee.double.word s 0) = 0 := by unfold vI; rw [hr.1, val_zero]; split <;> rfl
      rw [e]
      exact ⟨rep_zero, fun m _ => by omega⟩
    · unfold signF place nanB
      rw [hr.1]
      cases sgn (Ieee.double.word s 0) <;> rfl
  · have h0 : X ≠ 0 := by
      intro h
      rw [h] at hX
      have hX2 : m * 2 ^ (p + 1074 + (K : Int)).toNat = 0 := by rw [hX]; exact Nat.zero_mul _
      rcases Nat.mul_eq_zero.1 hX2 with g | g
      · exact hm g
      · have := Nat.two_pow_pos (p + 1074 + (K : Int)).toNat
        omega
    have es := hs h0
    obtain ⟨k, e, hk, c⟩ := near_anyD s p K (m := m) hm hK
    rw [hX] at c
    have c' : ∀ r, r < 9218868437227405312 → (r < k ↔ aboveD 0 X.natAbs r) := fun r hr => (c r hr).trans above_units
    have hki : k < 9218868437227405312 := by
      rcases Nat.lt_or_ge k 9218868437227405312 with h | h
      · exact h
      · exfalso
        have h1 := (c' 9218868437227405311 (by omega)).1 (by omega)
        have h3 : val 9218868437227405311 < val (9218868437227405311 + 1) := val_step _
        unfold aboveD at h1
        rw [Nat.pow_zero, Nat.mul_one] at h1
        generalize val 9218868437227405311 = a at *
        generalize val (9218868437227405311 + 1) = b at *
        omega
    have kp : 0 < k := (c' 0 (by omega)).2 (by
      left
      rw [show val 0 + val (0 + 1) = 1 by decide, Nat.one_mul]
      omega)
    have hr := word_rung s (show k < 9223372036854775808 by omega)
    rw [e]
    refine ⟨word_lt64 s (by omega), by unfold finB; rw [hr.1]; exact decide_eq_true hki, ?_, ?_⟩
    · refine nst_mid (k := k) ?_ hki c'
      unfold vI
      rw [hr.1, hr.2, es]
      by_cases g : X < 0 <;> simp [g]
    · unfold signF place nanB
      rw [hr.1, hr.2, es, decide_eq_false (show ¬ 9218868437227405312 < k by omega)]
      unfold sgI
      by_cases g : X < 0 <;> simp [g] <;> omega
theorem sgn_val (x : Nat) {u : Nat} (hu : u ≤ up (rung x)) : Ieee.signed (sgn x) (mg (rung x)) (up (rung x) - u) * (2 ^ u : Nat) = vI x := by
  rw [signed_mul, Nat.sub_add_cancel hu, mg_up]
  rfl
theorem neg_pw {T : Int} {u : Nat} : (T * 2 ^ u < 0 ↔ T < 0) ∧ (T * 2 ^ u = 0 ↔ T = 0) := by
  have hp := pw_pos u
  constructor
  · constructor
    · intro h
      rcases Int.lt_or_le T 0 with c | c
      · exact c
      · have := Int.mul_nonneg c (Int.le_of_lt hp)
        omega
    · intro h; exact Int.mul_neg_of_neg_of_pos h hp
  · constructor
    · intro h
      rcases Int.mul_eq_zero.1 h with c | c
      · exact c
      · omega
    · intro h; rw [h, Int.zero_mul]
theorem add_fl {x y : Nat} (hx : x < 18446744073709551616) (hy : y < 18446744073709551616) (fx : finB x = true) (fy : finB y = true) {W : Nat} (hW : IsTop W) (hb : (vI x + vI y).natAbs ≤ W) : ∃ r, floatBits .add .f64 x y = some r ∧ FlX (vI x + vI y) r := by
  rw [(fbits_map x y).1, read_fin hx fx, read_fin hy fy, sum_val]
  simp only [Option.map_some, Ieee.Format.write]
  obtain ⟨u, hu⟩ : ∃ u, min (up (rung x)) (up (rung y)) = u := ⟨_, rfl⟩
  have e1 := sgn_val x (u := u) (by omega)
  have e2 := sgn_val y (u := u) (by omega)
  rw [hu]
  generalize Ieee.signed (sgn x) (mg (rung x)) (up (rung x) - u) = P at *
  generalize Ieee.signed (sgn y) (mg (rung y)) (up (rung y) - u) = Q at *
  have e3 : vI x + vI y = (P + Q) * 2 ^ u := by rw [← e1, ← e2, ← Int.add_mul]; push_cast; rfl
  rw [e3] at hb ⊢
  generalize P + Q = T at *
  refine ⟨_, rfl, near_fl _ _ _ 0 (by omega) ?_ ?_ (hW ▸ hb)⟩
  · rw [Int.natAbs_mul, pw_abs, show (-1074 + (u : Int) + 1074 + ((0 : Nat) : Int)).toNat = u by omega, Nat.pow_zero, Nat.mul_one]
  · intro h
    have hT : T ≠ 0 := fun c => h ((neg_pw (u := u)).2.2 c)
    rw [if_neg hT]
    exact decide_eq_decide.2 (neg_pw (u := u)).1.symm
theorem vI_ng {x : Nat} (hx : x < 18446744073709551616) : vI (negW x) = -vI x := by
  obtain ⟨h1, h2⟩ := neg_rung hx
  unfold vI
  rw [h1, h2]
  cases sgn x <;> simp
theorem sub_fl {x y : Nat} (hx : x < 18446744073709551616) (hy : y < 18446744073709551616) (fx : finB x = true) (fy : finB y = true) {W : Nat} (hW : IsTop W) (hb : (vI x - vI y).natAbs ≤ W) : ∃ r, floatBits .sub .f64 x y = some r ∧ FlX (vI x - vI y) r := by
  have h := add_fl hx (negW_lt hy) fx ((neg_fin hy).trans fy) hW (by rw [vI_ng hy, ← Int.sub_eq_add_neg]; exact hb)
  rw [vI_ng hy, ← Int.sub_eq_add_neg, ← fsub_add hy] at h
  exact h
theorem fma_fl {x y z : Nat} {R : Int} (hx : x < 18446744073709551616) (hy : y < 18446744073709551616) (hz : z < 18446744073709551616) (fx : finB x = true) (fy : finB y = true) (fz : finB z = true) (hR : vI x * vI y = R * 2 ^ twP) {W : Nat} (hW : IsTop W) (hb : (R + vI z).natAbs ≤ W) : ∃ r, FloatKind.f64.format.fma x y z = some r ∧ FlX (R + vI z) r := by
  obtain ⟨T, b, s, h1, h2, h3, h4⟩ := fma_sum hx hy hz fx fy fz
  refine ⟨_, h1, ?_⟩
  rw [exX_un (L := twP) rfl, hR, ← Int.add_mul] at h3
  generalize R + vI z = X at *
  have ht : (b + 1074 + ((twP : Nat) : Int)).toNat = (b + 2148).toNat := by unfold twP; omega
  refine near_fl s _ b twP (by unfold twP; omega) ?_ ?_ (hW ▸ hb)
  · rw [ht, ← pw_abs (b + 2148).toNat, ← Int.natAbs_mul, h3, Int.natAbs_mul, pw_abs]
  · intro hX
    have i1 := neg_pw (T := T) (u := (b + 2148).toNat)
    have i2 := neg_pw (T := X) (u := twP)
    rw [h3] at i1
    have hT : T ≠ 0 := fun c => hX (i2.2.1 (i1.2.2 c))
    rw [h4 hT]
    exact decide_eq_decide.2 (i1.1.symm.trans i2.1)
/-- The exact product as a number of the units, where it is one. -/
theorem prod_units {a b : Nat} (h : twP ≤ up (rung a) + up (rung b)) : ∃ (A B : Int), A.natAbs ≤ 9007199254740992 ∧ B.natAbs ≤ 9007199254740992 ∧ vI a * vI b = A * B * 2 ^ (up (rung a) + up (rung b) - twP) * 2 ^ twP ∧ (A * B).natAbs = mg (rung a) * mg (rung b) ∧ (A * B ≠ 0 → (sgn a ^^ sgn b) = decide (A * B < 0)) := by
  have one : ∀ x, ∃ A : Int, vI x = A * 2 ^ up (rung x) ∧ A.natAbs = mg (rung x) ∧ A = if sgn x then -(mg (rung x) : Int) else (mg (rung x) : Int) := fun x => by
    refine ⟨if sgn x then -(mg (rung x) : Int) else (mg (rung x) : Int), ?_, by split <;> omega, rfl⟩
    unfold vI
    rw [← mg_up]
    push_cast
    split
    · rw [Int.neg_mul]
    · rfl
  obtain ⟨A, a1, a2, a3⟩ := one a
  obtain ⟨B, b1, b2, b3⟩ := one b
  have ma := mg_lt (rung a)
  have mb := mg_lt (rung b)
  refine ⟨A, B, by omega, by omega, ?_, by rw [Int.natAbs_mul, a2, b2], ?_⟩
  · rw [a1, b1, Int.mul_assoc (A * B), ← Int.pow_add, Nat.sub_add_cancel h, Int.pow_add]
    ac_rfl
  · intro h0
    have p0 : (0 : Int) ≤ (mg (rung a) : Int) * (mg (rung b) : Int) := Int.mul_nonneg (by omega) (by omega)
    have key : A * B = if (sgn a ^^ sgn b) then -((mg (rung a) : Int) * (mg (rung b) : Int)) else (mg (rung a) : Int) * (mg (rung b) : Int) := by
      rw [a3, b3]
      cases sgn a <;> cases sgn b <;> simp [Int.neg_mul, Int.mul_neg]
    rw [key] at h0 ⊢
    generalize (mg (rung a) : Int) * (mg (rung b) : Int) = x at *
    cases sgn a ^^ sgn b
    · simp only [Bool.false_eq_true, if_false] at h0 ⊢
      exact (decide_eq_false (by omega)).symm
    · simp only [if_true] at h0 ⊢
      exact (decide_eq_true (by omega)).symm
theorem val_great {V : Nat} (hV : V = 2075) : val 9110782046170513408 + val (9110782046170513408 + 1) ≤ 2 * 2 ^ V := by
  have h := d_val_kept (U := V - 53) (k := 4503599627370496) (by omega) (Or.inr (Nat.le_refl _))
  rw [show (V - 53) * 4503599627370496 + 4503599627370496 = 9110782046170513408 by omega] at h
  rw [h.1, h.2, ← Nat.add_mul]
  have : 2 * 2 ^ V = 2 ^ 54 * 2 ^ (V - 53) := by rw [show 2 * 2 ^ V = 2 ^ (V + 1) by rw [Nat.pow_succ, Nat.mul_comm], show V + 1 = 54 + (V - 53) by omega, Nat.pow_add]
  rw [this]
  exact Nat.mul_le_mul_right _ (by decide)
/-- A product that is neither too little nor too great, what it loses, and its exact number. -/
theorem mul_fl {a b q : Nat} (ha : a < 18446744073709551616) (hb : b < 18446744073709551616) (sa : someB a = true) (sb : someB b = true) (hq : floatBits .mul .f64 a b = some q) (h : 553942754166571008 ≤ rung q) (hg : rung q ≤ 9110782046170513408) {V : Nat} (hV : V = 2075) :
    ∃ R : Int, vI a * vI b = R * 2 ^ twP ∧ R.natAbs ≤ 2 ^ V ∧ FlX R q ∧ Rep (R - vI q) := by
  have hp := mul_places ha hb sa sb hq h
  obtain ⟨A, B, hA, hB, e, eAB, hs⟩ := prod_units hp
  obtain ⟨fa, a0⟩ := some_rung sa
  obtain ⟨fb, b0⟩ := some_rung sb
  have a0' : rung a ≠ 0 := by simpa using a0
  have b0' : rung b ≠ 0 := by simpa using b0
  have m1 : mg (rung a) ≠ 0 := by unfold mg; split <;> omega
  have m2 : mg (rung b) ≠ 0 := by unfold mg; split <;> omega
  have hm := Nat.mul_ne_zero m1 m2
  rw [(fbits_map a b).2.2.1, read_fin ha fa, read_fin hb fb] at hq
  simp only [Ieee.Datum.product, Option.map_some, Ieee.Format.write, Option.some.injEq] at hq
  obtain ⟨E, hE⟩ : ∃ E : Nat, up (rung a) + up (rung b) - twP = E := ⟨_, rfl⟩
  have ep : -1074 + ((up (rung a) : Nat) : Int) + (-1074 + ((up (rung b) : Nat) : Int)) = (E : Int) - 1074 := by unfold twP at hp hE; omega
  rw [ep] at hq
  rw [hE] at e
  have hab : (A * B * 2 ^ E).natAbs = mg (rung a) * mg (rung b) * 2 ^ E := by rw [Int.natAbs_mul, pw_abs, eAB]
  have hbd : (A * B * 2 ^ E).natAbs ≤ 2 ^ V := by
    obtain ⟨k, e1, hk, c⟩ := near_anyD (sgn a ^^ sgn b) ((E : Int) - 1074) 0 (m := mg (rung a) * mg (rung b)) hm (by omega)
    rw [← hq, e1, (word_rung _ (show k < 9223372036854775808 by omega)).1] at hg
    have h1 : ¬ aboveD 0 (mg (rung a) * mg (rung b) * 2 ^ ((E : Int) - 1074 + 1074 + ((0 : Nat) : Int)).toNat) 9110782046170513408 := fun hc => absurd ((c _ (by omega)).2 hc) (by omega)
    rw [show ((E : Int) - 1074 + 1074 + ((0 : Nat) : Int)).toNat = E by omega, ← hab] at h1
    have h2 := val_great hV
    unfold aboveD at h1
    rw [Nat.pow_zero, Nat.mul_one] at h1
    generalize val 9110782046170513408 + val (9110782046170513408 + 1) = w at *
    omega
  have hV2 : (2 : Nat) ^ V ≤ 2 ^ (V + 15) := Nat.pow_le_pow_right (by omega) (by omega)
  have hF : FlX (A * B * 2 ^ E) q := by
    rw [← hq]
    refine near_fl _ _ _ 0 (by omega) ?_ ?_ (Nat.le_trans (Nat.le_trans hbd hV2) (Nat.le_of_lt (top_val (V := V + 15) (by omega))))
    · rw [hab, show ((E : Int) - 1074 + 1074 + ((0 : Nat) : Int)).toNat = E by omega, Nat.pow_zero, Nat.mul_one]
    · intro h0
      have h1 : A * B ≠ 0 := fun c => h0 ((neg_pw (u := E)).2.2 c)
      rw [hs h1]
      exact decide_eq_decide.2 (neg_pw (u := E)).1.symm
  exact ⟨A * B * 2 ^ E, e, hbd, hF, prod_err hA hB hF.2.2.1⟩
/-- What round's sum tells: the nearest float, and exactly what is left. -/
theorem sum_exact {a b : Nat} (ha : a < 18446744073709551616) (hb : b < 18446744073709551616) (fa : finB a = true) (fb : finB b = true) {W : Nat} (hW : IsTop W) (h1 : 4 * (vI a).natAbs ≤ W) (h2 : 4 * (vI b).natAbs ≤ W) :
    FlX (vI a + vI b) (sumN a b) ∧ finB (sumR a b) = true ∧ sumR a b < 18446744073709551616 ∧ vI (sumR a b) = vI a + vI b - vI (sumN a b) ∧ (vI (sumN a b)).natAbs ≤ 2 * (vI a).natAbs + 2 * (vI b).natAbs := by
  obtain ⟨p1, p2, p3, p4, _, p6, _⟩ := sum_parts ha hb fa fb
  obtain ⟨n, n1, n2⟩ := add_fl ha hb fa fb hW (by omega)
  rw [p1] at n1
  rw [← Option.some.inj n1] at n2
  have hr : ∀ {g l : Nat}, g < 18446744073709551616 → l < 18446744073709551616 → finB g = true → finB l = true → (vI l).natAbs ≤ (vI g).natAbs → vI g + vI l = vI a + vI b → 4 * (vI g).natAbs ≤ W → floatBits .sub .f64 (sumN a b) g = some (sumT a b) → floatBits .sub .f64 l (sumT a b) = some (sumR a b) → finB (sumR a b) = true ∧ vI (sumR a b) = vI a + vI b - vI (sumN a b) := by
    intro g l hg hl fg fl hlg e hgb q1 q2
    have n3 := n2.2.2.1
    rw [← e] at n3
    have hd := ts_dif (vI_rep g) (vI_rep l) hlg n3
    have he := ts_err (vI_rep g) (vI_rep l) hlg n3
    have hB := n3.2 (vI g) (vI_rep g)
    obtain ⟨t, t1, t2⟩ := sub_fl p4 hg n2.2.1 fg hW (by omega)
    rw [q1] at t1
    rw [← Option.some.inj t1] at t2
    have et := nst_self hd t2.2.2.1
    obtain ⟨r, r1, r2⟩ := sub_fl hl t2.1 fl t2.2.1 hW (by omega)
    rw [q2] at r1
    rw [← Option.some.inj r1] at r2
    have e2 : vI l - vI (sumT a b) = vI g + vI l - vI (sumN a b) := by omega
    have er := nst_self (by rw [e2]; exact he) r2.2.2.1
    exact ⟨r2.2.1, by omega⟩
  have hm : ∀ x : Nat, (vI x).natAbs = val (rung x) := fun x => by unfold vI; split <;> omega
  have hNb : (vI (sumN a b)).natAbs ≤ 2 * (vI a).natAbs + 2 * (vI b).natAbs := by
    have := n2.2.2.1.2 0 rep_zero
    omega
  have hord : sumC a b = decide (rung a < rung b) := by
    unfold sumC
    have la := rung_lt a
    have lb := rung_lt b
    have ra := fin_rung fa
    have rb := fin_rung fb
    have na : nanB (rung a) = false := rung_nan (by rw [rung_small la]; omega)
    have nb : nanB (rung b) = false := rung_nan (by rw [rung_small lb]; omega)
    have pa : place (rung a) = rung a := by unfold place; rw [(rung_pos la).2, (rung_pos la).1]; rfl
    have pb : place (rung b) = rung b := by unfold place; rw [(rung_pos lb).2, (rung_pos lb).1]; rfl
    rcases Nat.lt_trichotomy (rung a) (rung b) with c | c | c
    · rw [ord_lt (by omega) (by omega) na nb (by omega), decide_eq_true c]; rfl
    · rw [ord_eq (by omega) (by omega) na nb (by omega), decide_eq_false (by omega)]; rfl
    · rw [ord_gt (by omega) (by omega) na nb (by omega), decide_eq_false (by omega)]; rfl
  by_cases c : rung a < rung b
  · rw [hord, decide_eq_true c] at p2 p3
    simp only [if_true] at p2 p3
    have hle : (vI a).natAbs ≤ (vI b).natAbs := by rw [hm, hm]; exact val_le_D (by omega)
    obtain ⟨q1, q2⟩ := hr hb ha fb fa hle (Int.add_comm _ _) h2 p2 p3
    exact ⟨n2, q1, p6, q2, hNb⟩
  · rw [hord, decide_eq_false c] at p2 p3
    simp only [Bool.false_eq_true, if_false] at p2 p3
    have hle : (vI b).natAbs ≤ (vI a).natAbs := by rw [hm, hm]; exact val_le_D (by omega)
    obtain ⟨q1, q2⟩ := hr ha hb fa fb hle rfl h1 p2 p3
    exact ⟨n2, q1, p6, q2, hNb⟩
end Go.Proofs.YtlhoidkfphellaaDoor

namespace Go.Proofs.YtlhoidkfphellaaDoor
open Go.RowKit

def puH : Nat := 63388
/-- The rung that X units of 2^-2148 are rounded to. -/
def fuK (X : Int) : Nat := rung (Ieee.double.nearest false X.natAbs (-2148))
/-- An exact number other than 0, rounded. -/
def fuV (X m : Int) : Nat := stepF (Ieee.double.word (decide (X < 0)) (fuK X)) (sdK (decide (X < 0)) (X.natAbs * 2 ^ puH) (fuK X)) m
/-- What Fused tells of finite floats. -/
def fuW (a b c : Nat) (m : Int) : Nat := if exX a b c = 0 then noughtR (rung a == 0 || rung b == 0) (sgn a != sgn b) c m else fuV (exX a b c) m
theorem fuK_near {X : Int} (h : X ≠ 0) : NearK (X.natAbs * 2 ^ puH) (fuK X) := by
  obtain ⟨k, e, hN⟩ := nearK_of false (m := X.natAbs) (p := -2148) (by omega) (by omega)
  have : fuK X = k := by unfold fuK; rw [e]; exact (word_rung false (by have := hN.1; omega)).1
  rw [show ((-2148 : Int) + 65536).toNat = puH from rfl] at hN
  rw [this]
  exact hN
theorem fuV_of {X : Int} {m : Int} {k : Nat} (h0 : X ≠ 0) (hN : NearK (X.natAbs * 2 ^ puH) k) : fuV X m = stepF (Ieee.double.word (decide (X < 0)) k) (sdK (decide (X < 0)) (X.natAbs * 2 ^ puH) k) m := by
  rw [nearK_uniq hN (fuK_near h0)]; rfl
theorem sgI_pw (T : Int) (u : Nat) : sgI (T * 2 ^ u) = sgI T := by
  have h := neg_pw (T := T) (u := u)
  unfold sgI
  by_cases c : T < 0
  · rw [if_pos c, if_pos (h.1.2 c)]
  · rw [if_neg c, if_neg (fun g => c (h.1.1 g))]
    by_cases d : T = 0
    · rw [if_pos d, if_pos (h.2.2 d)]
    · rw [if_neg d, if_neg (fun g => d (h.2.1 g))]
theorem sgI_opp (x : Int) : -sgI x = sgI (-x) := by unfold sgI; split <;> split <;> (try split) <;> (try split) <;> omega
/-- On which side the exact number lies, in units of 2^-1074. -/
theorem sdK_units {X' : Int} {k : Nat} {s : Bool} (hk : k < 9218868437227405312) (hs : s = decide (X' < 0)) {A : Nat} (hA : A = X'.natAbs * 2 ^ kV) : sdK s A k = sgI (X' - vI (Ieee.double.word s k)) := by
  have hr := word_rung s (show k < 9223372036854775808 by omega)
  have e1 : ((A : Int) - ((val k * 2 ^ kV : Nat) : Int)) = ((X'.natAbs : Int) - val k) * 2 ^ kV := by
    rw [hA]
    generalize kV = u
    rw [Int.sub_mul]
    push_cast
    rfl
  have hk2 : ¬ k = 9218868437227405312 := by omega
  unfold sdK
  rw [if_neg hk2, e1, sgI_pw]
  clear hA e1
  unfold vI
  rw [hr.1, hr.2, hs]
  by_cases g : X' < 0
  · simp only [g, decide_true, if_true]
    rw [sgI_opp]
    congr 1
    omega
  · simp only [g, decide_false, Bool.false_eq_true, if_false]
    congr 1
    omega
/-- The nearest float of a fused product and sum, and one step on. -/
theorem fma_step {a b c nr : Nat} {R : Int} (ha : a < 18446744073709551616) (hb : b < 18446744073709551616) (hc : c < 18446744073709551616) (fa : finB a = true) (fb : finB b = true) (fc : finB c = true) (hR : vI a * vI b = R * 2 ^ twP) (hn : FloatKind.f64.format.fma a b c = some nr) (hf : finB nr = true) (h0 : R + vI c ≠ 0) (m : Int) : exX a b c ≠ 0 ∧ fuV (exX a b c) m = stepF nr (sgI (R + vI c - vI nr)) m := by
  obtain ⟨T, b', s, h1, h2, h3, h4⟩ := fma_sum ha hb hc fa fb fc
  rw [hn] at h1
  have e1 := Option.some.inj h1
  have eX : exX a b c = (R + vI c) * 2 ^ twP := by rw [exX_un (L := twP) rfl, hR, ← Int.add_mul]
  have hX0 : exX a b c ≠ 0 := by rw [eX]; exact fun h => h0 (neg_pw.2.1 h)
  have hT : T ≠ 0 := fun h => hX0 (by rw [← h3, h, Int.zero_mul])
  obtain ⟨k, ek, hN⟩ := nearK_of s (m := T.natAbs) (p := b') (by omega) (by omega)
  have hk := hN.1
  have hr := word_rung s (show k < 9223372036854775808 by omega)
  have eA : T.natAbs * 2 ^ (b' + 65536).toNat = (exX a b c).natAbs * 2 ^ puH := by
    rw [← h3, Int.natAbs_mul, pw_abs, Nat.mul_assoc, ← Nat.pow_add, show (b' + 2148).toNat + puH = (b' + 65536).toNat by unfold puH; omega]
  rw [eA] at hN
  have es : s = decide (exX a b c < 0) := by
    rw [h4 hT, ← h3]
    exact decide_eq_decide.2 neg_pw.1.symm
  have es2 : s = decide (R + vI c < 0) := by
    rw [es, eX]
    exact decide_eq_decide.2 neg_pw.1
  have enr : nr = Ieee.double.word s k := by rw [e1, ek]
  have hki : k < 9218868437227405312 := by
    have := fin_rung hf
    rw [enr, hr.1] at this
    exact this
  refine ⟨hX0, ?_⟩
  rw [fuV_of hX0 hN, ← es, enr]
  congr 1
  refine sdK_units hki es2 ?_
  rw [eX, Int.natAbs_mul, pw_abs, Nat.mul_assoc, ← Nat.pow_add, show twP + puH = kV from rfl]
set_option maxHeartbeats 1000000 in
/-- fusedRest's floats: each is told, and the last one has the sign of what is left. -/
theorem rest_plain {a b c p nr : Nat} (ha : a < 18446744073709551616) (hb : b < 18446744073709551616) (hc : c < 18446744073709551616) (sa : someB a = true) (sb : someB b = true) (fc : finB c = true) (hp : floatBits .mul .f64 a b = some p) (h1 : 553942754166571008 ≤ rung p) (h2 : rung p ≤ 9110782046170513408) (h3 : rung c ≤ 9110782046170513408) (hn : FloatKind.f64.format.fma a b c = some nr) :
    ∃ (R : Int) (bw g g2 f : Nat), vI a * vI b = R * 2 ^ twP ∧ FlX (R + vI c) nr ∧ p < 18446744073709551616 ∧ finB p = true ∧ FloatKind.f64.format.fma a b (negW p) = some bw ∧ bw < 18446744073709551616 ∧ finB bw = true ∧ finB (sumN c bw) = true ∧ sumN c bw < 18446744073709551616 ∧
      floatBits .sub .f64 (sumN p (sumN c bw)) nr = some g ∧ floatBits .add .f64 g (sumR p (sumN c bw)) = some g2 ∧ floatBits .add .f64 g2 (sumR c bw) = some f ∧ f < 18446744073709551616 ∧ signF f = sgI (R + vI c - vI nr) := by
  have fa := (some_rung sa).1
  have fb := (some_rung sb).1
  obtain ⟨Q, W, R, hW, hQW, eR, hRb, hF, hE, hcb⟩ : ∃ (Q W : Nat) (R : Int), IsTop W ∧ 32768 * Q ≤ W ∧ vI a * vI b = R * 2 ^ twP ∧ R.natAbs ≤ Q ∧ FlX R p ∧ Rep (R - vI p) ∧ (vI c).natAbs ≤ Q := by
    obtain ⟨V, hV⟩ : ∃ V : Nat, V = 2075 := ⟨_, rfl⟩
    obtain ⟨R, eR, hRb, hF, hE⟩ := mul_fl ha hb sa sb hp h1 h2 hV
    refine ⟨2 ^ V, _, R, rfl, ?_, eR, hRb, hF, hE, ?_⟩
    · have hVW : 2 ^ (V + 15) = 32768 * 2 ^ V := by rw [Nat.pow_add, Nat.mul_comm]
      rw [← hVW]
      exact Nat.le_of_lt (top_val (by omega))
    · have e : (vI c).natAbs = val (rung c) := by unfold vI; split <;> omega
      have g1 := val_le_D h3
      have g2 := val_great hV
      have g3 := val_step 9110782046170513408
      rw [e]
      generalize val 9110782046170513408 = x at *
      generalize val (9110782046170513408 + 1) = y at *
      generalize val (rung c) = z at *
      omega
  have HR : Hid (vI a * vI b = R * 2 ^ twP) := eR
  clear eR
  have p0 := hF.1
  have pf := hF.2.1
  -- the product
  have hpb : (vI p).natAbs ≤ 2 * Q := by
    have := hF.2.2.1.2 0 rep_zero
    omega
  -- what it lost
  obtain ⟨bw, b1, b2⟩ := fma_fl (R := R) ha hb (negW_lt p0) fa fb ((neg_fin p0).trans pf) HR.out hW (by rw [vI_ng p0]; omega)
  have eb : vI bw = R - vI p := by
    have := nst_self (X := R + vI (negW p)) (by rw [vI_ng p0, ← Int.sub_eq_add_neg]; exact hE) b2.2.2.1
    rw [this, vI_ng p0, Int.sub_eq_add_neg]
  -- the two sums
  obtain ⟨s1, s2, s3, s4, s5⟩ := sum_exact hc b2.1 fc b2.2.1 hW (by omega) (by omega)
  obtain ⟨t1, t2, t3, t4, t5⟩ := sum_exact p0 s1.1 pf s1.2.1 hW (by omega) (by omega)
  -- the nearest
  obtain ⟨nr', n1, n2⟩ := fma_fl (R := R) ha hb hc fa fb fc HR.out hW (by omega)
  rw [hn] at n1
  rw [← Option.some.inj n1] at n2
  have hnb : (vI nr).natAbs ≤ 4 * Q := by
    have := n2.2.2.1.2 0 rep_zero
    omega
  have hl : Nst (vI c + (R - vI p)) (vI (sumN c bw)) := by rw [← eb]; exact s1.2.2.1
  have hm : Rep (vI p + vI (sumN c bw) - vI (sumN p (sumN c bw))) := by rw [← t4]; exact vI_rep _
  obtain ⟨c1, c2, c3⟩ := fused_core hF.2.2.1 (vI_rep c) hl t1.2.2.1 hm n2.2.2.1
  obtain ⟨g, g1, g2⟩ := sub_fl t1.1 n2.1 t1.2.1 n2.2.1 hW (by omega)
  have eg := nst_self c1 g2.2.2.1
  obtain ⟨d, d1, d2⟩ := add_fl g2.1 t3 g2.2.1 t2 hW (by omega)
  have ed : vI d = vI (sumN p (sumN c bw)) - vI nr + (vI p + vI (sumN c bw) - vI (sumN p (sumN c bw))) := by
    have := nst_self (X := vI g + vI (sumR p (sumN c bw))) (by rw [eg, t4]; exact c2) d2.2.2.1
    rw [this, eg, t4]
  obtain ⟨f, f1, f2⟩ := add_fl d2.1 s3 d2.2.1 s2 hW (by omega)
  refine ⟨R, bw, g, d, f, HR.out, n2, p0, pf, b1, b2.1, b2.2.1, s1.2.1, s1.1, g1, d1, f1, f2.1, ?_⟩
  rw [f2.2.2.2, ed, s4, eb, c3]
/-- .. where the product is a nought. -/
theorem val_near (k : Nat) (hk : k < 9218868437227405312) : NearK (val k * 2 ^ kV) k := by
  refine ⟨by omega, fun r _ => ?_⟩
  rw [above_units]
  unfold aboveD
  rw [Nat.pow_zero, Nat.mul_one]
  constructor
  · intro h
    have h1 := val_le_D (show r + 1 ≤ k from h)
    have h2 := val_step r
    omega
  · intro h
    rcases Nat.lt_or_ge r k with c | c
    · exact c
    · exfalso
      have h1 := val_le_D c
      have h2 := val_step r
      omega
theorem vI_inj {x y : Nat} (hx : x < 18446744073709551616) (hy : y < 18446744073709551616) (h : vI x = vI y) (h0 : vI x ≠ 0) : x = y := by
  have ex := rung_of x hx
  have ey := rung_of y hy
  have hv : ∀ z, (0 : Int) ≤ (val z : Int) := fun z => by omega
  have inj : ∀ r s, val r = val s → r = s := fun r s e => by
    rcases Nat.lt_trichotomy r s with c | c | c
    · have := val_lt c; omega
    · exact c
    · have := val_lt c; omega
  unfold vI at h h0
  cases a : sgn x <;> cases b : sgn y <;> rw [a] at h h0 ex <;> rw [b] at h ey <;> simp only [Bool.false_eq_true, if_false, if_true] at h h0 ex ey
  · rw [ex, ey, inj (rung x) (rung y) (by omega)]
  · omega
  · omega
  · rw [ex, ey, inj (rung x) (rung y) (by omega)]
end Go.Proofs.YtlhoidkfphellaaDoor

namespace Go.Proofs.YtlhoidkfphellaaDoor
open Go.RowKit

theorem dz_ne {X : Int} (h : bl X.natAbs ≤ 16384) (h0 : X ≠ 0) : (dz X).mag.length ≠ 0 := by
  intro hl
  have hs := dz_sign h
  unfold sgD at hs
  rw [if_pos hl] at hs
  unfold sgI at hs
  (repeat' split at hs) <;> omega
/-- A dyad of units of 2^-2148, rounded. -/
theorem dz_round {X : Int} (h : bl X.natAbs ≤ 16384) (h0 : X ≠ 0) (m : Int) : rndW (dz X) m = fuV X m := by
  obtain ⟨r1, r2, r3⟩ := dz_qd h (K := puH) rfl
  obtain ⟨k, k1, k2, _, k4⟩ := rnd_step (dz X) m r2 r1 (dz_ne h h0)
  have e1 : (qd (dz X)).natAbs = X.natAbs * 2 ^ puH := by rw [r3, Int.natAbs_mul, pw_abs]
  have e2 : (dz X).neg = decide (X < 0) := by
    rw [k2, r3]
    exact decide_eq_decide.2 neg_pw.1
  rw [e1] at k1 k4
  rw [k4, e2, fuV_of h0 k1]
theorem num_lt {x K : Nat} (hx : x ≤ 9218868437227405312) (hK : K ≤ 9218868437227405312) : (FloatKind.f64.format.order x K == some .lt) = decide (x < K) ∧ (FloatKind.f64.format.order x K == some .gt) = decide (K < x) := by
  have n1 : nanB x = false := nan_small (by omega)
  have n2 : nanB K = false := nan_small (by omega)
  have p1 : place x = x := place_small (by omega)
  have p2 : place K = K := place_small (by omega)
  rcases Nat.lt_trichotomy x K with c | c | c
  · rw [ord_lt (by omega) (by omega) n1 n2 (by omega), decide_eq_true c, decide_eq_false (by omega)]; exact ⟨rfl, rfl⟩
  · rw [ord_eq (by omega) (by omega) n1 n2 (by omega), decide_eq_false (by omega), decide_eq_false (by omega)]; exact ⟨rfl, rfl⟩
  · rw [ord_gt (by omega) (by omega) n1 n2 (by omega), decide_eq_false (by omega), decide_eq_true c]; exact ⟨rfl, rfl⟩
theorem nought_opp {a b c : Nat} (m : Int) (hc : c < 18446744073709551616) (a0 : (rung a == 0) = false) (b0 : (rung b == 0) = false) : noughtR (rung a == 0 || rung b == 0) (sgn a != sgn b) c m = noughtF (negW c) c m := by
  unfold noughtR noughtF
  rw [a0, b0, (neg_rung hc).2]
  cases sgn c <;> simp
end Go.Proofs.YtlhoidkfphellaaDoor

namespace Go.Proofs.YtlhoidkfphellaaDoor
open Go.RowKit

/-- A product and a sum of which a factor is not finite. -/
def fuI (a b c : Nat) : Option Nat := (floatBits .mul .f64 a b).bind fun p => floatBits .add .f64 p c
/-- What Fused tells of any floats, all NaN as one. -/
def fuO (a b c : Nat) (m : Int) : Option Nat := if finB a && finB b then (if finB c then some (fuW a b c m) else if nanB c then none else some c) else fuI a b c
theorem fuI_NR {a b c : Nat} (hc : c < 18446744073709551616) (w : World) : NR (fuI a b c) (opR .add (opR .mul a b w) c (opW .mul a b w)) := by
  have f4 : FourOp .mul := Or.inr (Or.inr (Or.inl rfl))
  have f1 : FourOp .add := Or.inl rfl
  have h1 := op_NR (op := .mul) f4 (a := a) (b := b) w
  have h2 := op_NR (op := .add) f1 (a := opR .mul a b w) (b := c) (opW .mul a b w)
  unfold fuI
  cases hm : floatBits .mul .f64 a b with
  | none =>
    rw [hm] at h1
    rw [op_nan f1 h1.1 hc (Or.inl h1.2)] at h2
    exact h2
  | some p =>
    rw [hm] at h1
    have e : opR .mul a b w = p := h1.2
    rw [e] at h2 ⊢
    exact h2
/-- A nought and a float: the sum is the float, nothing is left; of two noughts a nought. -/
theorem nought_sum {p c : Nat} (hp : p < 18446744073709551616) (hc : c < 18446744073709551616) (p0 : rung p = 0) (fc : finB c = true) : (rung c = 0 → rung (sumN p c) = 0) ∧ (rung c ≠ 0 → sumN p c = c ∧ signF (sumR p c) = 0) := by
  have fp : finB p = true := by unfold finB; rw [p0]; rfl
  have vp : vI p = 0 := by unfold vI; rw [p0, val_zero]; split <;> rfl
  have hv : ∀ x, finB x = true → (vI x).natAbs ≤ val 9218868437227405311 := fun x hx => by
    have e : (vI x).natAbs = val (rung x) := by unfold vI; split <;> omega
    have := fin_rung hx
    rw [e]
    exact val_le_D (by omega)
  obtain ⟨q1, q2, q3, q4, _, q6, _⟩ := sum_parts hp hc fp fc
  obtain ⟨n, n1, n2⟩ := add_fl hp hc fp fc rfl (by rw [vp, Int.zero_add]; exact hv c fc)
  rw [q1] at n1
  rw [← Option.some.inj n1, vp, Int.zero_add] at n2
  have en := nst_self (vI_rep c) n2.2.2.1
  have zr : ∀ x, vI x = 0 → rung x = 0 := fun x h => by
    have e : val (rung x) = 0 := by unfold vI at h; split at h <;> omega
    rcases Nat.eq_zero_or_pos (rung x) with g | g
    · exact g
    · have := val_lt g
      omega
  refine ⟨fun c0 => ?_, fun c0 => ?_⟩
  · refine zr _ ?_
    rw [en]
    unfold vI; rw [c0, val_zero]; split <;> rfl
  · have hc0 : vI c ≠ 0 := fun h => c0 (zr c h)
    have e1 : sumN p c = c := vI_inj n2.1 hc en (by rw [en]; exact hc0)
    refine ⟨e1, ?_⟩
    have hord : sumC p c = true := by
      unfold sumC
      have := fin_rung fc
      rw [(num_lt (x := rung p) (K := rung c) (by omega) (by omega)).1, p0]
      exact decide_eq_true (by omega)
    rw [hord] at q2 q3
    simp only [if_true] at q2 q3
    rw [e1] at q2
    obtain ⟨t, t1, t2⟩ := sub_fl hc hc fc fc rfl (by rw [Int.sub_self]; exact Nat.zero_le _)
    rw [q2] at t1
    rw [← Option.some.inj t1, Int.sub_self] at t2
    have et := nst_self rep_zero t2.2.2.1
    obtain ⟨r, r1, r2⟩ := sub_fl hp t2.1 fp t2.2.1 rfl (by rw [vp, et]; exact Nat.zero_le _)
    rw [q3] at r1
    rw [← Option.some.inj r1] at r2
    rw [r2.2.2.2, vp, et]
    rfl
theorem mul_nought {a b p : Nat} (ha : a < 18446744073709551616) (hb : b < 18446744073709551616) (fa : finB a = true) (fb : finB b = true) (h : rung a = 0 ∨ rung b = 0) (hp : floatBits .mul .f64 a b = some p) : rung p = 0 ∧ sgn p = (sgn a != sgn b) := by
  rw [(fbits_map a b).2.2.1, read_fin ha fa, read_fin hb fb] at hp
  simp only [Ieee.Datum.product, Option.map_some, Ieee.Format.write, Option.some.injEq] at hp
  have m0 : mg (rung a) * mg (rung b) = 0 := by
    rcases h with h | h <;> rw [h]
    · rw [show mg 0 = 0 by decide, Nat.zero_mul]
    · rw [show mg 0 = 0 by decide, Nat.mul_zero]
  rw [m0] at hp
  have e : Ieee.double.nearest (sgn a ^^ sgn b) 0 (-1074 + ((up (rung a) : Nat) : Int) + (-1074 + ((up (rung b) : Nat) : Int))) = Ieee.double.word (sgn a ^^ sgn b) 0 := rfl
  have hr := word_rung (sgn a ^^ sgn b) (show 0 < 9223372036854775808 by omega)
  rw [← hp, e]
  exact ⟨hr.1, hr.2⟩
theorem sd_self (s : Bool) {k : Nat} (hk : k < 9218868437227405312) : sdK s (val k * 2 ^ kV) k = 0 := by
  have h : ¬ k = 9218868437227405312 := by omega
  unfold sdK
  rw [if_neg h, Int.sub_self]
  cases s <;> rfl
/-- .. and Fused of it. -/
theorem fuW_zero {a b c p : Nat} (m : Int) (hp : p < 18446744073709551616) (hc : c < 18446744073709551616) (h : rung a = 0 ∨ rung b = 0) (p0 : rung p = 0) (ps : sgn p = (sgn a != sgn b)) (fc : finB c = true) : fuW a b c m = addV p c m := by
  have hz : vI a * vI b = 0 := by
    rcases h with h | h
    · have : vI a = 0 := by unfold vI; rw [h, val_zero]; split <;> rfl
      rw [this, Int.zero_mul]
    · have : vI b = 0 := by unfold vI; rw [h, val_zero]; split <;> rfl
      rw [this, Int.mul_zero]
  have hb0 : (rung a == 0 || rung b == 0) = true := by
    rcases h with h | h <;> simp [h]
  have eX : exX a b c = vI c * 2 ^ twP := by rw [exX_un (L := twP) rfl, hz, Int.zero_add]
  obtain ⟨z1, z2⟩ := nought_sum hp hc p0 fc
  unfold addV addM fuW
  by_cases c0 : rung c = 0
  · have vc : vI c = 0 := by unfold vI; rw [c0, val_zero]; split <;> rfl
    rw [if_pos (by rw [eX, vc, Int.zero_mul]), z1 c0, hb0, ← ps]
    unfold noughtR noughtF
    have e1 := rung_of p hp
    have e2 := rung_of c hc
    rw [p0] at e1
    rw [c0] at e2 ⊢
    cases s1 : sgn p <;> cases s2 : sgn c <;> rw [s1] at e1 <;> rw [s2] at e2 <;> simp at e1 e2 ⊢ <;> first | omega | (rw [e1, e2])
  · obtain ⟨n1, n2⟩ := z2 c0
    have vc : vI c ≠ 0 := by
      intro hv
      have e : val (rung c) = 0 := by unfold vI at hv; split at hv <;> omega
      have := val_lt (Nat.pos_of_ne_zero c0)
      omega
    have hX0 : exX a b c ≠ 0 := by rw [eX]; exact fun h => vc (neg_pw.2.1 h)
    rw [if_neg hX0, n1, if_neg (by simpa using c0), n2]
    have habs : (vI c).natAbs = val (rung c) := by unfold vI; split <;> omega
    have eA : (exX a b c).natAbs * 2 ^ puH = val (rung c) * 2 ^ kV := by
      rw [eX, Int.natAbs_mul, pw_abs, habs, Nat.mul_assoc, ← Nat.pow_add, show twP + puH = kV from rfl]
    have hk := fin_rung fc
    have hN := val_near (rung c) hk
    rw [← eA] at hN
    rw [fuV_of hX0 hN, eA]
    have es : decide (exX a b c < 0) = sgn c := by
      have h1 : (exX a b c < 0) ↔ (vI c < 0) := by rw [eX]; exact neg_pw.1
      have hv : (0 : Int) ≤ (val (rung c) : Int) := by omega
      rcases Bool.eq_false_or_eq_true (sgn c) with hs | hs
      · have e : vI c = -(val (rung c) : Int) := by unfold vI; rw [hs]; rfl
        rw [hs]
        exact decide_eq_true (h1.2 (by omega))
      · have e : vI c = (val (rung c) : Int) := by unfold vI; rw [hs]; rfl
        rw [hs]
        exact decide_eq_false (fun h => by have := h1.1 h; omega)
    rw [es]
    have ew : Ieee.double.word (sgn c) (rung c) = c := by
      have e1 := word_k (sgn c) (k := rung c) (by omega)
      rw [e1, ← rung_of c hc]
    rw [ew, sd_self (sgn c) hk]
theorem fuW_lt (a b c : Nat) (m : Int) (hc : c < 18446744073709551616) : fuW a b c m < 18446744073709551616 := by
  unfold fuW
  split
  · unfold noughtR
    (repeat' split) <;> omega
  · have h0 : fuK (exX a b c) ≤ 9218868437227405312 := (fuK_near (by assumption)).1
    exact stepF_lt _ _ (word_lt64 _ (by omega))
end Go.Proofs.YtlhoidkfphellaaDoor
