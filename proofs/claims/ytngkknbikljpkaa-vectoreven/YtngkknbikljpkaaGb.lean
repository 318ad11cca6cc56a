/- Powers of two: a number times 2^j is rounded to what the number is rounded to, times 2^j, where nothing is subnormal: plain (for VectorEven). -/
import Derived.Test.YtngkknbikljpkaaY5
import Derived.Test.YtngkknbikljpkaaY1
namespace Go.Proofs.Ytngkknbikljpkaa
open Go.RowKit

theorem val_shift {r : Nat} (j : Nat) (h : 4503599627370496 ≤ r) : val (r + j * 4503599627370496) = val r * 2 ^ j := by
  unfold val
  rw [if_neg (by omega), if_neg (by omega)]
  have e1 : (r + j * 4503599627370496) % 4503599627370496 = r % 4503599627370496 := Nat.add_mul_mod_self_right _ _ _
  have e2 : (r + j * 4503599627370496) / 4503599627370496 - 1 = (r / 4503599627370496 - 1) + j := by
    rw [Nat.add_mul_div_right _ _ (by omega)]; omega
  rw [e1, e2, Nat.pow_add, Nat.mul_assoc]
theorem above_shift {K A r : Nat} (j : Nat) (h : 4503599627370496 ≤ r) : aboveD K (A * 2 ^ j) (r + j * 4503599627370496) ↔ aboveD K A r := by
  unfold aboveD
  have e1 := val_shift j h
  have e2 : val (r + j * 4503599627370496 + 1) = val (r + 1) * 2 ^ j := by
    rw [show r + j * 4503599627370496 + 1 = (r + 1) + j * 4503599627370496 by omega]; exact val_shift j (by omega)
  rw [e1, e2, ← Nat.add_mul]
  have hp := Nat.two_pow_pos j
  generalize val r + val (r + 1) = S at *
  generalize 2 ^ K = Q at *
  have e3 : S * 2 ^ j * Q = S * Q * 2 ^ j := by ac_rfl
  have e4 : 2 * (A * 2 ^ j) = 2 * A * 2 ^ j := by rw [Nat.mul_assoc]
  have e5 : (r + j * 4503599627370496) % 2 = r % 2 := by omega
  rw [e3, e4, e5]
  constructor
  · rintro (h | ⟨h, g⟩)
    · exact Or.inl (Nat.lt_of_mul_lt_mul_right h)
    · exact Or.inr ⟨Nat.eq_of_mul_eq_mul_right hp h, g⟩
  · rintro (h | ⟨h, g⟩)
    · exact Or.inl (Nat.mul_lt_mul_of_pos_right h hp)
    · exact Or.inr ⟨by rw [h], g⟩
theorem above_low {K A r q : Nat} (h : r < q) (g : aboveD K A q) : aboveD K A r := by
  left
  have v1 := val_lt h
  have v2 := val_lt (show r + 1 < q + 1 by omega)
  have : (val r + val (r + 1)) * 2 ^ K < (val q + val (q + 1)) * 2 ^ K := Nat.mul_lt_mul_of_pos_right (by omega) (Nat.two_pow_pos K)
  rcases g with g | ⟨g, _⟩
  · exact Nat.lt_trans this g
  · rw [← g]; exact this
theorem near_shiftK {A k : Nat} (j : Nat) (h : NearK A k) (hB : 4503599627370496 < k) (hI : k + j * 4503599627370496 < 9218868437227405312) : NearK (A * 2 ^ j) (k + j * 4503599627370496) := by
  refine ⟨by omega, fun r hr => ?_⟩
  rcases Nat.lt_or_ge r (4503599627370496 + j * 4503599627370496) with c | c
  · refine ⟨fun _ => ?_, fun _ => by omega⟩
    exact above_low c ((above_shift j (Nat.le_refl _)).2 ((h.2 _ (by omega)).1 hB))
  · obtain ⟨q, rfl⟩ : ∃ q, r = q + j * 4503599627370496 := ⟨r - j * 4503599627370496, by omega⟩
    rw [above_shift j (by omega), ← h.2 q (by omega)]
    omega
theorem two_val {i : Nat} (hi : i ≤ 2090) : ∃ k, val k = 2 ^ i ∧ k < 9218868437227405312 := by
  obtain ⟨k, hk⟩ := rep_ladder i 1 (by omega)
  rw [Nat.one_mul] at hk
  refine ⟨k, hk, ?_⟩
  obtain ⟨V, hV⟩ : ∃ V, V = 2090 := ⟨_, rfl⟩
  have h1 := top_val hV
  have h2 : 2 ^ i ≤ 2 ^ V := pw_le (by omega)
  have := val_le_iff (i := k) (j := 9218868437227405311) (by rw [hk]; exact Nat.lt_of_le_of_lt h2 h1)
  omega
theorem near_leK {A k i : Nat} (h : NearK A k) (hi : i ≤ 2090) (hA : A ≤ 2 ^ i * 2 ^ kV) : val k ≤ 2 ^ i := by
  obtain ⟨q, hq, hq2⟩ := two_val hi
  rw [← hq] at hA ⊢
  exact val_le_D (near_mono hA h (val_near q hq2))
theorem near_geK {A k i : Nat} (h : NearK A k) (hi : i ≤ 2090) (hA : 2 ^ i * 2 ^ kV ≤ A) : 2 ^ i ≤ val k := by
  obtain ⟨q, hq, hq2⟩ := two_val hi
  rw [← hq] at hA ⊢
  exact val_le_D (near_mono hA (val_near q hq2) h)
theorem le_fin {k i : Nat} (hi : i ≤ 2090) (h : val k ≤ 2 ^ i) : k < 9218868437227405312 := by
  obtain ⟨q, hq, hq2⟩ := two_val hi
  rw [← hq] at h
  rcases Nat.lt_or_ge q k with c | c
  · have := val_lt c; omega
  · omega
theorem near_dvd {A k q : Nat} (h : NearK A k) (hq : q ≤ 2000) (hA : 2 ^ q * 2 ^ kV ∣ A) : 2 ^ q ∣ val k := by
  obtain ⟨m, rfl⟩ := hA
  by_cases c : m ≤ 9007199254740992
  · obtain ⟨r, hr⟩ := rep_ladder q m c
    have hr2 : r < 9218868437227405312 := by
      refine le_fin (i := 53 + q) (by omega) ?_
      rw [hr, Nat.pow_add]
      exact Nat.mul_le_mul_right _ c
    have hA2 : 2 ^ q * 2 ^ kV * m = val r * 2 ^ kV := by
      rw [hr]
      generalize 2 ^ kV = Q
      ac_rfl
    rw [hA2] at h
    rw [nearK_uniq h (val_near r hr2), hr]
    exact Nat.dvd_mul_left _ _
  · have h2 : 2 ^ (53 + q) ≤ val k := near_geK h (by omega) (by
      rw [Nat.pow_add]
      generalize 2 ^ kV = Q
      rw [show 2 ^ q * Q * m = m * 2 ^ q * Q by ac_rfl]
      exact Nat.mul_le_mul_right _ (Nat.mul_le_mul_right _ (by omega)))
    rw [← mg_up] at h2 ⊢
    have m1 := mg_lt k
    have hu : q ≤ up k := by
      rcases Nat.lt_or_ge (up k) q with d | d
      · exfalso
        have a1 : mg k * 2 ^ up k ≤ mg k * 2 ^ q := Nat.mul_le_mul_left _ (pw_le (by omega))
        have a2 : mg k * 2 ^ q < 2 ^ 53 * 2 ^ q := Nat.mul_lt_mul_of_pos_right (by omega) (Nat.two_pow_pos q)
        rw [Nat.pow_add] at h2
        omega
      · exact d
    exact Nat.dvd_trans (Nat.pow_dvd_pow 2 hu) (Nat.dvd_mul_left _ _)
theorem dvd_ge {q A : Nat} (h : 2 ^ q * 2 ^ kV ∣ A) (h0 : A ≠ 0) : 2 ^ q * 2 ^ kV ≤ A := Nat.le_of_dvd (Nat.pos_of_ne_zero h0) h
theorem big_rung {k q : Nat} (hq : 53 ≤ q) (h : 2 ^ q ≤ val k) : 4503599627370496 < k := by
  have h1 : val 4503599627370496 < val k := by
    have e : val 4503599627370496 = 2 ^ 52 := by decide
    rw [e]
    exact Nat.lt_of_lt_of_le (Nat.pow_lt_pow_right (by omega) (by omega)) h
  exact val_le_iff h1
/-- What is rounded of a number and of 2^j times it. -/
theorem sh_step {A j k k' q i : Nat} (h : NearK A k) (h' : NearK (A * 2 ^ j) k') (h0 : A ≠ 0) (hd : 2 ^ q * 2 ^ kV ∣ A) (hq : 53 ≤ q) (hq2 : q ≤ 2000) (hi : A ≤ 2 ^ i * 2 ^ kV) (hij : i + j ≤ 2090) :
    k < 9218868437227405312 ∧ k' < 9218868437227405312 ∧ val k' = val k * 2 ^ j ∧ 2 ^ q ∣ val k ∧ val k ≤ 2 ^ i := by
  have a1 := near_leK h (by omega) hi
  have a2 := near_geK h (by omega) (dvd_ge hd h0)
  have a3 := big_rung hq a2
  have a4 := le_fin (by omega) a1
  have a5 := val_shift j (Nat.le_of_lt a3)
  have a6 : k + j * 4503599627370496 < 9218868437227405312 := by
    refine le_fin (i := i + j) hij ?_
    rw [a5, Nat.pow_add]
    exact Nat.mul_le_mul_right _ a1
  have e := nearK_uniq h' (near_shiftK j h a3 a6)
  rw [e]
  exact ⟨a4, a6, a5, near_dvd h hq2 hd, a1⟩
theorem vI_abs (x : Nat) : (vI x).natAbs = val (rung x) := by unfold vI; split <;> omega
theorem vI_zero {x : Nat} : vI x = 0 ↔ rung x = 0 := by
  constructor
  · intro h
    have : val (rung x) = 0 := by rw [← vI_abs, h]; rfl
    exact val_inj (by rw [this, val_zero])
  · intro h
    unfold vI
    rw [h, val_zero]; split <;> rfl
/-- A sum of finite floats. -/
theorem add_near {x y : Nat} (hx : x < 18446744073709551616) (hy : y < 18446744073709551616) (fx : finB x = true) (fy : finB y = true) : ∃ r, floatBits .add .f64 x y = some r ∧ r < 18446744073709551616 ∧ (vI x + vI y = 0 → rung r = 0 ∧ sgn r = (sgn x && sgn y)) ∧ (vI x + vI y ≠ 0 → sgn r = decide (vI x + vI y < 0) ∧ NearK ((vI x + vI y).natAbs * 2 ^ kV) (rung r)) := by
  rw [(fbits_map x y).1, read_fin hx fx, read_fin hy fy, sum_val]
  simp only [Option.map_some, Ieee.Format.write]
  obtain ⟨u, hu⟩ : ∃ u, min (up (rung x)) (up (rung y)) = u := ⟨_, rfl⟩
  have e1 := sgn_val x (u := u) (by omega)
  have e2 := sgn_val y (u := u) (by omega)
  rw [hu]
  generalize Ieee.signed (sgn x) (mg (rung x)) (up (rung x) - u) = P at *
  generalize Ieee.signed (sgn y) (mg (rung y)) (up (rung y) - u) = Q at *
  have e3 : vI x + vI y = (P + Q) * 2 ^ u := by
    rw [← e1, ← e2, ← Int.add_mul]; push_cast; rfl
  by_cases h0 : P + Q = 0
  · rw [if_pos h0, h0]
    refine ⟨_, rfl, ?_, fun _ => ?_, fun h => absurd (by rw [e3, h0, Int.zero_mul]) h⟩
    · show Ieee.double.nearest _ 0 _ < _
      exact word_lt64 _ (by omega)
    · show rung (Ieee.double.nearest _ 0 _) = 0 ∧ sgn (Ieee.double.nearest _ 0 _) = _
      exact word_rung _ (by omega)
  · rw [if_neg h0]
    obtain ⟨k, ek, hN⟩ := nearK_of (decide (P + Q < 0)) (m := (P + Q).natAbs) (p := -1074 + (u : Int)) (by omega) (by omega)
    have hk := hN.1
    obtain ⟨w1, w2⟩ := word_rung (decide (P + Q < 0)) (show k < 9223372036854775808 by omega)
    refine ⟨_, rfl, by rw [ek]; exact word_lt64 _ (by omega), fun h => ?_, fun _ => ?_⟩
    · exfalso
      rw [e3] at h
      exact h0 (neg_pw.2.1 h)
    · rw [ek, w1, w2]
      refine ⟨?_, ?_⟩
      · rw [e3]; exact decide_eq_decide.2 neg_pw.1.symm
      · have eA : (P + Q).natAbs * 2 ^ (-1074 + (u : Int) + 65536).toNat = (vI x + vI y).natAbs * 2 ^ kV := by
          rw [e3, Int.natAbs_mul, pw_abs, Nat.mul_assoc, ← Nat.pow_add, show (-1074 + (u : Int) + 65536).toNat = u + kV by have := kV_eq; omega]
        rw [← eA]; exact hN
/-- A product of finite floats. -/
theorem mul_near {a b : Nat} (ha : a < 18446744073709551616) (hb : b < 18446744073709551616) (fa : finB a = true) (fb : finB b = true) : ∃ r, floatBits .mul .f64 a b = some r ∧ r < 18446744073709551616 ∧ sgn r = (sgn a ^^ sgn b) ∧ (vI a * vI b = 0 → rung r = 0) ∧ (vI a * vI b ≠ 0 → NearK ((vI a * vI b).natAbs * 2 ^ puH) (rung r)) := by
  have hq : floatBits .mul .f64 a b = some (Ieee.double.nearest (sgn a ^^ sgn b) (mg (rung a) * mg (rung b)) (-1074 + ((up (rung a) : Nat) : Int) + (-1074 + ((up (rung b) : Nat) : Int)))) := by
    rw [(fbits_map a b).2.2.1, read_fin ha fa, read_fin hb fb]
    rfl
  rw [hq]
  have hab : ∀ x, (vI x).natAbs = mg (rung x) * 2 ^ up (rung x) := fun x => by rw [vI_abs, mg_up]
  by_cases h0 : mg (rung a) * mg (rung b) = 0
  · rw [h0]
    refine ⟨_, rfl, ?_, ?_, fun _ => ?_, fun h => ?_⟩
    · show Ieee.double.nearest _ 0 _ < _
      exact word_lt64 _ (by omega)
    · show sgn (Ieee.double.nearest _ 0 _) = _
      exact (word_rung _ (by omega)).2
    · show rung (Ieee.double.nearest _ 0 _) = 0
      exact (word_rung _ (by omega)).1
    · exfalso
      apply h
      apply Int.natAbs_eq_zero.1
      rw [Int.natAbs_mul, hab, hab]
      rcases Nat.mul_eq_zero.1 h0 with g | g
      · rw [g, Nat.zero_mul, Nat.zero_mul]
      · rw [g, Nat.zero_mul, Nat.mul_zero]
  · obtain ⟨k, ek, hN⟩ := nearK_of (sgn a ^^ sgn b) (m := mg (rung a) * mg (rung b)) (p := -1074 + ((up (rung a) : Nat) : Int) + (-1074 + ((up (rung b) : Nat) : Int))) h0 (by omega)
    have hk := hN.1
    obtain ⟨w1, w2⟩ := word_rung (sgn a ^^ sgn b) (show k < 9223372036854775808 by omega)
    have eA : mg (rung a) * mg (rung b) * 2 ^ (-1074 + ((up (rung a) : Nat) : Int) + (-1074 + ((up (rung b) : Nat) : Int)) + 65536).toNat = (vI a * vI b).natAbs * 2 ^ puH := by
      rw [Int.natAbs_mul, hab, hab, show (-1074 + ((up (rung a) : Nat) : Int) + (-1074 + ((up (rung b) : Nat) : Int)) + 65536).toNat = up (rung a) + up (rung b) + puH by unfold puH; omega, Nat.pow_add, Nat.pow_add]
      generalize puH = v
      ac_rfl
    rw [eA] at hN
    refine ⟨_, rfl, by rw [ek]; exact word_lt64 _ (by omega), by rw [ek]; exact w2, fun h => ?_, fun _ => by rw [ek, w1]; exact hN⟩
    exfalso
    rw [h] at eA
    have : 0 < mg (rung a) * mg (rung b) * 2 ^ (-1074 + ((up (rung a) : Nat) : Int) + (-1074 + ((up (rung b) : Nat) : Int)) + 65536).toNat := Nat.mul_pos (Nat.pos_of_ne_zero h0) (Nat.two_pow_pos _)
    rw [eA] at this
    simp at this
end Go.Proofs.Ytngkknbikljpkaa
