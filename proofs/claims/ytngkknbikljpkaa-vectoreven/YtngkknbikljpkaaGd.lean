/- Norms of lists times a power of two; lists that come to nothing; which list is which; a difference by Axpy: plain (for VectorEven). -/
import Derived.Test.YtngkknbikljpkaaGc
namespace Go.Proofs.Ytngkknbikljpkaa
open Go.RowKit

theorem vI_low {s : Nat} (h : s < 9223372036854775808) : vI s = (val s : Int) := by
  unfold vI
  rw [sgn_small h, rung_small h]; rfl
/-- A sum upwards of floats not below 0, between two floats. -/
theorem up_add {s x : Nat} (hs : s < 9218868437227405312) (hx : x < 9218868437227405312) (h0 : val s + val x ≠ 0) : 0 < addV s x 2 ∧ addV s x 2 ≤ 9218868437227405312 ∧ (addV s x 2 < 9218868437227405312 → val s + val x ≤ val (addV s x 2)) ∧ val (addV s x 2 - 1) < val s + val x := by
  have es := vI_low (s := s) (by omega)
  have ex := vI_low (s := x) (by omega)
  have fs : finB s = true := by unfold finB; rw [rung_small (by omega)]; simpa using hs
  have fx : finB x = true := by unfold finB; rw [rung_small (by omega)]; simpa using hx
  have hz : vI s + vI x ≠ 0 := by rw [es, ex]; omega
  have hp : 0 < (vI s + vI x) * 2 ^ twP := by
    have : 0 < vI s + vI x := by rw [es, ex] at hz ⊢; omega
    exact Int.mul_pos this (pw_pos twP)
  have hne : (vI s + vI x) * 2 ^ twP ≠ 0 := by omega
  have hv := add_fu 2 (show s < 18446744073709551616 by omega) (show x < 18446744073709551616 by omega) fs fx hz
  rw [fuV_pos 2 hp] at hv
  have hN := fuK_near hne
  have hA := fu_units hne
  obtain ⟨r1, r2, r3, r4⟩ := rg_up hN hA
  rw [← hv] at r1 r2 r3 r4
  have eA : ((vI s + vI x) * 2 ^ twP).natAbs * 2 ^ puH = (val s + val x) * 2 ^ kV := by
    rw [Int.natAbs_mul, pw_abs, es, ex, show ((val s : Int) + (val x : Int)).natAbs = val s + val x by omega, Nat.mul_assoc, ← Nat.pow_add, show twP + puH = kV from rfl]
  rw [eA] at r3 r4
  have hK := Nat.two_pow_pos kV
  generalize 2 ^ kV = K at *
  exact ⟨r1, r2, fun hr => Nat.le_of_mul_le_mul_right (r3 hr) hK, Nat.lt_of_mul_lt_mul_right r4⟩
theorem up_zero : addV 0 0 2 = 0 := by
  have h0 : vI 0 + vI 0 = 0 := by decide
  obtain ⟨e1, _⟩ := add_nought 2 (show 0 < 18446744073709551616 by omega) (show 0 < 18446744073709551616 by omega) (by decide) (by decide) h0
  rw [e1]; decide
theorem ups_step {s x s' x' j i : Nat} (hs : s < 9218868437227405312) (hx : x < 9218868437227405312) (hs' : s' < 9218868437227405312) (hx' : x' < 9218868437227405312) (es : val s' = val s * 2 ^ j) (ex : val x' = val x * 2 ^ j) (ls : s = 0 ∨ 2 ^ 60 ≤ val s) (lx : x = 0 ∨ 2 ^ 60 ≤ val x) (hi : val s + val x ≤ 2 ^ i) (hij : i + j ≤ 2090) :
    addV s x 2 < 9218868437227405312 ∧ addV s' x' 2 < 9218868437227405312 ∧ val (addV s' x' 2) = val (addV s x 2) * 2 ^ j ∧ (addV s x 2 = 0 ∨ 2 ^ 60 ≤ val (addV s x 2)) ∧ val (addV s x 2) ≤ 2 ^ i := by
  have hp := Nat.two_pow_pos j
  by_cases h0 : val s + val x = 0
  · have z : ∀ r, val r = 0 → r = 0 := fun r h => val_inj (by rw [h, val_zero])
    have s0 := z s (by omega)
    have x0 := z x (by omega)
    subst s0 x0
    rw [val_zero, Nat.zero_mul] at es ex
    rw [z _ es, z _ ex, up_zero, val_zero]
    exact ⟨by omega, by omega, by omega, Or.inl rfl, Nat.zero_le _⟩
  · have hX : 2 ^ 60 ≤ val s + val x := by
      rcases ls with rfl | ls
      · rcases lx with rfl | lx
        · rw [val_zero] at h0; omega
        · omega
      · omega
    have eX : val s' + val x' = (val s + val x) * 2 ^ j := by rw [es, ex, Nat.add_mul]
    have h0' : val s' + val x' ≠ 0 := by
      rw [eX]; exact Nat.mul_ne_zero h0 (by omega)
    obtain ⟨a1, a2, a3, a4⟩ := up_add hs hx h0
    obtain ⟨b1, b2, b3, b4⟩ := up_add hs' hx' h0'
    generalize addV s x 2 = r at *
    generalize addV s' x' 2 = r' at *
    rw [eX] at b3 b4
    generalize val s + val x = X at *
    have bd : ∀ {t Y l : Nat}, l ≤ 2090 → 0 < t → val (t - 1) < Y → Y ≤ 2 ^ l → val t ≤ 2 ^ l := fun {t Y l} hl h1 h2 h3 => by
      obtain ⟨k, hk, _⟩ := two_val hl
      rw [← hk] at h3 ⊢
      have := val_le_iff (Nat.lt_of_lt_of_le h2 h3)
      exact val_le_D (by omega)
    have l1 := bd (show i ≤ 2090 by omega) a1 a4 hi
    have l2 := bd hij b1 b4 (by rw [Nat.pow_add]; exact Nat.mul_le_mul_right _ hi)
    have f1 := le_fin (by omega) l1
    have f2 := le_fin hij l2
    have a3 := a3 f1
    have b3 := b3 f2
    have hB : 4503599627370496 < r := big_rung (q := 60) (by omega) (by omega)
    have e1 := val_shift j (Nat.le_of_lt hB)
    have e2 := val_shift (r := r - 1) j (by omega)
    have c1 : r' - 1 < r + j * 4503599627370496 := val_le_iff (by
      rw [e1]
      exact Nat.lt_of_lt_of_le b4 (Nat.mul_le_mul_right _ a3))
    have c2 : r - 1 + j * 4503599627370496 < r' := val_le_iff (by
      rw [e2]
      exact Nat.lt_of_lt_of_le (Nat.mul_lt_mul_of_pos_right a4 hp) b3)
    have er : r' = r + j * 4503599627370496 := by omega
    exact ⟨f1, f2, by rw [er, e1], Or.inr (by omega), l1⟩
theorem adU_fin {s x : Nat} (hs : s < 9218868437227405312) (hx : x < 9218868437227405312) : adU s x = some (addV s x 2) := by
  have fs : finB s = true := by unfold finB; rw [rung_small (by omega)]; simpa using hs
  have fx : finB x = true := by unfold finB; rw [rung_small (by omega)]; simpa using hx
  unfold adU
  rw [fs, fx]; rfl
theorem norm_sf {j i n : Nat} {xs xs' : List Nat} (hx : ∀ k, k < n → Sf j (xs.getD k 0) (xs'.getD k 0) ∧ (rung (xs.getD k 0) = 0 ∨ 2 ^ 60 ≤ val (rung (xs.getD k 0))) ∧ val (rung (xs.getD k 0)) ≤ 2 ^ i) (hij : i + n + j ≤ 2090) :
    ∀ k, k ≤ n → ∃ s s', nrO xs k = some s ∧ nrO xs' k = some s' ∧ s < 9218868437227405312 ∧ s' < 9218868437227405312 ∧ val s' = val s * 2 ^ j ∧ (s = 0 ∨ 2 ^ 60 ≤ val s) ∧ val s ≤ 2 ^ (i + k) := by
  intro k
  induction k with
  | zero => exact fun _ => ⟨0, 0, rfl, rfl, by omega, by omega, by rw [val_zero, Nat.zero_mul], Or.inl rfl, by rw [val_zero]; exact Nat.zero_le _⟩
  | succ k ih =>
    intro hk
    obtain ⟨s, s', e1, e2, h1, h2, h3, h4, h5⟩ := ih (by omega)
    obtain ⟨hS, m1, m2⟩ := hx k (by omega)
    have f1 := fin_rung hS.2.2.1
    have f2 := fin_rung hS.2.2.2.1
    have hl : val s + val (rung (xs.getD k 0)) ≤ 2 ^ (i + (k + 1)) := by
      have : 2 ^ i ≤ 2 ^ (i + k) := pw_le (by omega)
      rw [← Nat.add_assoc, Nat.pow_succ]; omega
    obtain ⟨a1, a2, a3, a4, a5⟩ := ups_step h1 f1 h2 f2 h3 hS.2.2.2.2.2 h4 m1 hl (by omega)
    refine ⟨_, _, ?_, ?_, a1, a2, a3, a4, a5⟩
    · show (nrO xs k).bind _ = _
      rw [e1]; exact adU_fin h1 f1
    · show (nrO xs' k).bind _ = _
      rw [e2]; exact adU_fin h2 f2
theorem word_ext {a b : Nat} (ha : a < 18446744073709551616) (hb : b < 18446744073709551616) (h1 : rung a = rung b) (h2 : sgn a = sgn b) : a = b := by
  rw [word_of ha, word_of hb, h1, h2]
/-- A product that is a float. -/
theorem mul_is {t p r : Nat} (ht : t < 18446744073709551616) (hp : p < 18446744073709551616) (hr : r < 18446744073709551616) (ft : finB t = true) (fp : finB p = true) (fr : finB r = true) (h : vI t * vI p = vI r * 2 ^ twP) (hs : sgn r = (sgn t ^^ sgn p)) : floatBits .mul .f64 t p = some r := by
  obtain ⟨q, q1, q2, q3, q4, q5⟩ := mul_near ht hp ft fp
  rw [q1, Option.some.injEq]
  refine word_ext q2 hr ?_ (by rw [q3, hs])
  by_cases h0 : vI t * vI p = 0
  · rw [q4 h0]
    rw [h] at h0
    exact (vI_zero.1 (neg_pw.2.1 h0)).symm
  · have n1 := q5 h0
    have eA : (vI t * vI p).natAbs * 2 ^ puH = val (rung r) * 2 ^ kV := by
      rw [h, Int.natAbs_mul, pw_abs, vI_abs, Nat.mul_assoc, ← Nat.pow_add, show twP + puH = kV from rfl]
    rw [eA] at n1
    exact nearK_uniq n1 (val_near _ (fin_rung fr))
/-- t is 2^j, or 2^-j. -/
def PwU (t j : Nat) : Prop := t < 18446744073709551616 ∧ finB t = true ∧ sgn t = false ∧ vI t = 2 ^ twP * 2 ^ j
def PwD (t j : Nat) : Prop := t < 18446744073709551616 ∧ finB t = true ∧ sgn t = false ∧ vI t * 2 ^ j = 2 ^ twP
theorem pw_parts {e : Nat} (h1 : 1 ≤ e) (h2 : e ≤ 2046) : e * 4503599627370496 < 18446744073709551616 ∧ finB (e * 4503599627370496) = true ∧ sgn (e * 4503599627370496) = false ∧ vI (e * 4503599627370496) = 2 ^ (e + 51) := by
  have hr : rung (e * 4503599627370496) = e * 4503599627370496 := rung_small (by omega)
  have hs : sgn (e * 4503599627370496) = false := sgn_small (by omega)
  refine ⟨by omega, fin_rg (by rw [hr]; omega), hs, ?_⟩
  unfold vI
  rw [hs, hr]
  simp only [Bool.false_eq_true, if_false]
  obtain ⟨d, rfl⟩ : ∃ d, e = d + 1 := ⟨e - 1, by omega⟩
  have := val_shift (r := 4503599627370496) d (Nat.le_refl _)
  rw [show (d + 1) * 4503599627370496 = 4503599627370496 + d * 4503599627370496 by omega, this, show val 4503599627370496 = 2 ^ 52 by decide, ← Nat.pow_add, show d + 1 + 51 = 52 + d by omega]
  push_cast; rfl
theorem pwU {j : Nat} (h : j ≤ 20) : PwU ((1023 + j) * 4503599627370496) j := by
  obtain ⟨a, b, c, d⟩ := pw_parts (e := 1023 + j) (by omega) (by omega)
  exact ⟨a, b, c, by rw [d, ← Int.pow_add]; congr 1; unfold twP; omega⟩
theorem pwD {j : Nat} (h : j ≤ 20) : PwD ((1023 - j) * 4503599627370496) j := by
  obtain ⟨a, b, c, d⟩ := pw_parts (e := 1023 - j) (by omega) (by omega)
  exact ⟨a, b, c, by rw [d, ← Int.pow_add]; congr 1; unfold twP; omega⟩
theorem mul_up {t j p r : Nat} (ht : PwU t j) (h : Sf j p r) : floatBits .mul .f64 t p = some r := by
  refine mul_is ht.1 h.1 h.2.1 ht.2.1 h.2.2.1 h.2.2.2.1 ?_ (by rw [h.2.2.2.2.1, ht.2.2.1, Bool.false_xor])
  rw [ht.2.2.2, h.val, Int.mul_assoc, Int.mul_comm (2 ^ j), Int.mul_comm]
theorem mul_dn {t j p r : Nat} (ht : PwD t j) (h : Sf j r p) : floatBits .mul .f64 t p = some r := by
  refine mul_is ht.1 h.2.1 h.1 ht.2.1 h.2.2.2.1 h.2.2.1 ?_ (by rw [← h.2.2.2.2.1, ht.2.2.1, Bool.false_xor])
  rw [h.val, ← ht.2.2.2, Int.mul_comm (vI r), ← Int.mul_assoc, Int.mul_comm]
/-- Of sizes from 2^-200 to 2^200, or 0. -/
def Tame (x : Nat) : Prop := x < 18446744073709551616 ∧ (rung x = 0 ∨ (3706462493325918208 ≤ rung x ∧ rung x ≤ 5507902344274116608))
theorem val_bd {r : Nat} (d u U : Nat) (hU : 52 + u = U) (h1 : 4503599627370496 * (d + 1) ≤ r) (h2 : r ≤ 4503599627370496 * (u + 1)) : 2 ^ d ∣ val r ∧ 2 ^ (52 + d) ≤ val r ∧ val r ≤ 2 ^ U := by
  subst hU
  have p1 : ∀ d, val (4503599627370496 * (d + 1)) = 2 ^ (52 + d) := fun d => by
    have := val_shift (r := 4503599627370496) d (Nat.le_refl _)
    rw [show 4503599627370496 * (d + 1) = 4503599627370496 + d * 4503599627370496 by omega, this, show val 4503599627370496 = 2 ^ 52 by decide, ← Nat.pow_add]
  refine ⟨?_, ?_, ?_⟩
  · rw [← mg_up]
    have hu : d ≤ up r := by unfold up; rw [if_neg (by omega)]; omega
    exact Nat.dvd_trans (Nat.pow_dvd_pow 2 hu) (Nat.dvd_mul_left _ _)
  · rw [← p1]; exact val_le_D h1
  · rw [← p1]; exact val_le_D h2
theorem tame_fin {x : Nat} (h : Tame x) : finB x = true := fin_rg (by rcases h.2 with e | ⟨_, e⟩ <;> omega)
theorem mid_zero {q i x : Nat} (h : x < 18446744073709551616) (f : finB x = true) (e : rung x = 0) : Mid q i x := ⟨h, f, by rw [e, val_zero]; exact Nat.dvd_zero _, by rw [e, val_zero]; exact Nat.zero_le _⟩
theorem tame_mid {x : Nat} (h : Tame x) : Mid 822 1274 x ∧ (rung x = 0 ∨ 2 ^ 60 ≤ val (rung x)) := by
  rcases h.2 with e | ⟨e1, e2⟩
  · exact ⟨mid_zero h.1 (tame_fin h) e, Or.inl e⟩
  · obtain ⟨a, b, c⟩ := val_bd (r := rung x) 822 1222 1274 rfl (by omega) (by omega)
    exact ⟨⟨h.1, tame_fin h, a, c⟩, Or.inr (Nat.le_trans (pw_le (by omega)) b)⟩
theorem tame_up {j x : Nat} (hj : j ≤ 20) (h : Tame x) : ∃ r, Sf j x r := by
  rcases h.2 with e | ⟨e1, e2⟩
  · exact ⟨x, h.1, h.1, tame_fin h, tame_fin h, rfl, by rw [e, val_zero, Nat.zero_mul]⟩
  · have hl : rung x + j * 4503599627370496 < 9218868437227405312 := by omega
    obtain ⟨w1, w2⟩ := word_rung (sgn x) (show rung x + j * 4503599627370496 < 9223372036854775808 by omega)
    exact ⟨Ieee.double.word (sgn x) (rung x + j * 4503599627370496), h.1, word_lt64 _ (by omega), tame_fin h, fin_rg (by rw [w1]; exact hl), w2, by rw [w1]; exact val_shift j (by omega)⟩
theorem tame_dn {j x : Nat} (hj : j ≤ 20) (h : Tame x) : ∃ r, Sf j r x ∧ Mid 802 1274 r ∧ (rung r = 0 ∨ 2 ^ 60 ≤ val (rung r)) := by
  rcases h.2 with e | ⟨e1, e2⟩
  · exact ⟨x, ⟨h.1, h.1, tame_fin h, tame_fin h, rfl, by rw [e, val_zero, Nat.zero_mul]⟩, mid_zero h.1 (tame_fin h) e, Or.inl e⟩
  · obtain ⟨y, hy⟩ : ∃ y, rung x = y + j * 4503599627370496 := ⟨rung x - j * 4503599627370496, by omega⟩
    obtain ⟨w1, w2⟩ := word_rung (sgn x) (show y < 9223372036854775808 by omega)
    obtain ⟨a, b, c⟩ := val_bd (r := y) 802 1222 1274 rfl (by omega) (by omega)
    refine ⟨Ieee.double.word (sgn x) y, ⟨word_lt64 _ (by omega), h.1, fin_rg (by rw [w1]; omega), tame_fin h, w2.symm, ?_⟩, ⟨word_lt64 _ (by omega), fin_rg (by rw [w1]; omega), by rw [w1]; exact a, by rw [w1]; exact c⟩, Or.inr (by rw [w1]; exact Nat.le_trans (pw_le (by omega)) b)⟩
    rw [w1, hy]
    exact val_shift j (by omega)
theorem sc_at {t n k r : Nat} {xs rs : List Nat} (h : LN (tab n (scO t xs)) rs) (hk : k < n) (ft : finB t = true) (fx : finB (xs.getD k 0) = true) (hm : floatBits .mul .f64 t (xs.getD k 0) = some r) : rs.getD k 0 = r := by
  have h2 := h.2 k (by rw [tab_len]; exact hk)
  rw [tab_at hk] at h2
  have e : scO t xs k = some r := by
    unfold scO
    rw [toO_fin ft, toO_fin fx]
    exact hm
  rw [e] at h2
  exact h2.2
theorem Sf.word {j s s' : Nat} (h1 : s < 9218868437227405312) (h2 : s' < 9218868437227405312) (h3 : Go.Proofs.Ytngkknbikljpkaa.val s' = Go.Proofs.Ytngkknbikljpkaa.val s * 2 ^ j) : Sf j s s' := by
  have r1 : rung s = s := rung_small (by omega)
  have r2 : rung s' = s' := rung_small (by omega)
  exact ⟨by omega, by omega, fin_rg (by omega), fin_rg (by omega), by rw [sgn_small (by omega), sgn_small (by omega)], by rw [r1, r2]; exact h3⟩
/-- t is a power of two, from 2^-20 to 2^20. -/
def PwT (t : Nat) : Prop := ∃ j, j ≤ 20 ∧ (PwU t j ∨ PwD t j)
/-- A list times a power of two: its product with another list, and its norm. -/
theorem even_two {t n : Nat} {xs ys rs : List Nat} (ht : PwT t) (hn : n ≤ 300) (hx : ∀ k, k < n → Tame (xs.getD k 0)) (hy : ∀ k, k < n → Tame (ys.getD k 0)) (h : LN (tab n (scO t xs)) rs) :
    (∃ p r, dtO xs ys n = some p ∧ dtO rs ys n = some r ∧ floatBits .mul .f64 t p = some r) ∧ (∃ p r, nrO xs n = some p ∧ nrO rs n = some r ∧ floatBits .mul .f64 t p = some r) := by
  have hM : ∀ k, k < n → Mid 822 1274 (ys.getD k 0) := fun k hk => (tame_mid (hy k hk)).1
  obtain ⟨j, hj, hU | hD⟩ := ht
  · have h1 : ∀ k, k < n → Sf j (xs.getD k 0) (rs.getD k 0) := fun k hk => by
      obtain ⟨r, hr⟩ := tame_up hj (hx k hk)
      rw [sc_at h hk hU.2.1 (tame_fin (hx k hk)) (mul_up hU hr)]
      exact hr
    obtain ⟨p, r, d1, d2, d3, _, _⟩ := dot_sf (q := 570) (i := 1474) (fun k hk => ⟨h1 k hk, (tame_mid (hx k hk)).1⟩) hM rfl rfl (by omega) (by omega) (by omega) n (Nat.le_refl _)
    obtain ⟨s, u, n1, n2, n3, n4, n5, _, _⟩ := norm_sf (i := 1274) (fun k hk => ⟨h1 k hk, (tame_mid (hx k hk)).2, (tame_mid (hx k hk)).1.2.2.2⟩) (by omega) n (Nat.le_refl _)
    exact ⟨⟨p, r, d1, d2, mul_up hU d3⟩, s, u, n1, n2, mul_up hU (Sf.word n3 n4 n5)⟩
  · have h1 : ∀ k, k < n → Sf j (rs.getD k 0) (xs.getD k 0) ∧ Mid 802 1274 (rs.getD k 0) ∧ (rung (rs.getD k 0) = 0 ∨ 2 ^ 60 ≤ val (rung (rs.getD k 0))) := fun k hk => by
      obtain ⟨r, hr, hr2⟩ := tame_dn hj (hx k hk)
      rw [sc_at h hk hD.2.1 (tame_fin (hx k hk)) (mul_dn hD hr)]
      exact ⟨hr, hr2⟩
    obtain ⟨p, r, d1, d2, d3, _, _⟩ := dot_sf (q := 550) (i := 1474) (fun k hk => ⟨(h1 k hk).1, (h1 k hk).2.1⟩) hM rfl rfl (by omega) (by omega) (by omega) n (Nat.le_refl _)
    obtain ⟨s, u, n1, n2, n3, n4, n5, _, _⟩ := norm_sf (i := 1274) (fun k hk => ⟨(h1 k hk).1, (h1 k hk).2.2, (h1 k hk).2.1.2.2.2⟩) (by omega) n (Nat.le_refl _)
    exact ⟨⟨r, p, d2, d1, mul_dn hD d3⟩, u, s, n2, n1, mul_dn hD (Sf.word n3 n4 n5)⟩
theorem neg_one {x : Nat} (hx : x < 18446744073709551616) (hn : nanB x = false) : floatBits .mul .f64 13830554455654793216 x = some (negW x) := by
  have h := mul_oneW true hx hn
  have hr : rung x ≤ 9218868437227405312 := by unfold nanB at hn; simpa using hn
  rw [show oneW true = 13830554455654793216 from by decide] at h
  rw [h, Bool.true_xor, word_opp _ hr, ← word_of hx]
theorem neg_at {n k : Nat} {xs rs : List Nat} (h : LN (tab n (scO 13830554455654793216 xs)) rs) (hk : k < n) (hx : xs.getD k 0 < 18446744073709551616) (fx : finB (xs.getD k 0) = true) : rs.getD k 0 = negW (xs.getD k 0) :=
  sc_at h hk (by decide) fx (neg_one hx (rung_nan (Nat.le_of_lt (fin_rung fx))))
theorem pl_core {va vb ra rb : Nat} (i1 : va = vb → ra = rb) (z1 : va = 0 → ra = 0) (z2 : vb = 0 → rb = 0) (s t : Bool) (h : (if s then -(va : Int) else (va : Int)) = if t then -(vb : Int) else (vb : Int)) : (if s then -(ra : Int) else (ra : Int)) = if t then -(rb : Int) else (rb : Int) := by
  cases s <;> cases t <;> simp only [if_true, Bool.false_eq_true, if_false] at h ⊢
  · rw [i1 (by omega)]
  · rw [z1 (by omega), z2 (by omega)]; rfl
  · rw [z1 (by omega), z2 (by omega)]; rfl
  · rw [i1 (by omega)]
theorem vI_place {a b : Nat} (h : vI a = vI b) : place a = place b :=
  pl_core (va := val (rung a)) (vb := val (rung b)) val_inj (fun h => val_inj (by rw [h, val_zero])) (fun h => val_inj (by rw [h, val_zero])) _ _ h
/-- A list with its signs turned. -/
theorem even_neg {n : Nat} {xs ys rs : List Nat} (hn : n ≤ 300) (hx : ∀ k, k < n → Tame (xs.getD k 0)) (hy : ∀ k, k < n → Tame (ys.getD k 0)) (h : LN (tab n (scO 13830554455654793216 xs)) rs) :
    ∃ p r, dtO xs ys n = some p ∧ dtO rs ys n = some r ∧ Ng p r := by
  refine dot_ng (q := 570) (i := 1474) (fun k hk => ⟨neg_at h hk (hx k hk).1 (tame_fin (hx k hk)), (tame_mid (hx k hk)).1⟩) (fun k hk => (tame_mid (hy k hk)).1) rfl rfl (by omega) (by omega) (by omega) n (Nat.le_refl _)
theorem none_norm {n : Nat} {xs rs zs : List Nat} (hx : ∀ k, k < n → Tame (xs.getD k 0)) (h : LN (tab n (scO 13830554455654793216 xs)) rs) (hz : LN (tab n (adO xs rs)) zs) : ∀ k, k ≤ n → nrO zs k = some 0 := by
  intro k
  induction k with
  | zero => exact fun _ => rfl
  | succ k ih =>
    intro hk
    have t := hx k (by omega)
    have ft := tame_fin t
    have e := neg_at h (show k < n by omega) t.1 ft
    have g := hz.2 k (by rw [tab_len]; omega)
    rw [tab_at (by omega)] at g
    obtain ⟨r, r1, r2, r3, _⟩ := add_near t.1 (negW_lt t.1) ft ((neg_fin t.1).trans ft)
    have ea : adO xs rs k = some r := by
      unfold adO
      rw [e, toO_fin ft, toO_fin ((neg_fin t.1).trans ft)]
      exact r1
    rw [ea] at g
    have ez : zs.getD k 0 = r := g.2
    have hr := (r3 (by rw [vI_ng t.1]; omega)).1
    show (nrO zs k).bind _ = _
    rw [ih (by omega), ez, hr]
    show adU 0 0 = some 0
    rw [adU_fin (by omega) (by omega), up_zero]
theorem opO_comm (o p : Option Nat) : opO .mul o p = opO .mul p o := by
  cases o with
  | none => cases p <;> rfl
  | some a =>
    cases p with
    | none => rfl
    | some b => exact (bits_comm a b).2
theorem dt_comm (xs ys : List Nat) (k : Nat) : dtO ys xs k = dtO xs ys k := by
  induction k with
  | zero => rfl
  | succ k ih => rw [dtO, dtO, ih, opO_comm]
theorem ax_neg {xs ys : List Nat} (hF : FW xs) {k : Nat} (hk : k < xs.length) : axO 13830554455654793216 xs ys k = sbO ys xs k := by
  have hx := hF.at hk
  unfold axO sbO
  rw [show toO 13830554455654793216 = some 13830554455654793216 from by decide]
  generalize xs.getD k 0 = x at *
  cases hn : nanB x
  · have e : toO x = some x := by unfold toO; rw [hn]; rfl
    have e2 : opO .mul (some 13830554455654793216) (some x) = some (negW x) := neg_one hx hn
    rw [e, e2]
    cases toO (ys.getD k 0) with
    | none => rfl
    | some u =>
      show floatBits .add .f64 (negW x) u = floatBits .sub .f64 u x
      rw [fsub_add hx, (bits_comm u (negW x)).1]
  · have e : toO x = none := by unfold toO; rw [hn]; rfl
    rw [e]
    cases toO (ys.getD k 0) <;> rfl
theorem ax_neg_tab {xs ys : List Nat} (hF : FW xs) : tab xs.length (axO 13830554455654793216 xs ys) = tab xs.length (sbO ys xs) := tab_congr fun _ hk => ax_neg hF hk
end Go.Proofs.Ytngkknbikljpkaa
