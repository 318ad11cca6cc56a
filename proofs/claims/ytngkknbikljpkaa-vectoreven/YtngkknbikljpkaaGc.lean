/- Lists times a power of two, and lists with their signs turned: their products with another list, and their norms: plain (for VectorEven). -/
import Derived.Test.YtngkknbikljpkaaGb
import Derived.Test.YtngkknbikljpkaaY1
namespace Go.Proofs.Ytngkknbikljpkaa
open Go.RowKit

/-- b is a times 2^j; both are finite. -/
def Sf (j a b : Nat) : Prop := a < 18446744073709551616 ∧ b < 18446744073709551616 ∧ finB a = true ∧ finB b = true ∧ sgn b = sgn a ∧ val (rung b) = val (rung a) * 2 ^ j
theorem Sf.val {j a b : Nat} (h : Sf j a b) : vI b = vI a * 2 ^ j := by
  obtain ⟨_, _, _, _, h5, h6⟩ := h
  unfold vI
  rw [h5, h6]
  cases sgn a
  · simp only [Bool.false_eq_true, if_false]; push_cast; rfl
  · simp only [if_true]; rw [Int.neg_mul]; push_cast; rfl
theorem fin_zero {r : Nat} (h : rung r = 0) : finB r = true := by unfold finB; rw [h]; rfl
theorem fin_rg {r : Nat} (h : rung r < 9218868437227405312) : finB r = true := by unfold finB; simpa using h
theorem dvd_abs {q : Nat} {x : Nat} : 2 ^ q ∣ Go.Proofs.Ytngkknbikljpkaa.val (rung x) ↔ ((2 ^ q : Nat) : Int) ∣ vI x := by
  rw [Int.ofNat_dvd_left, vI_abs]
theorem add_sf {j a a' b b' q i : Nat} (h : Sf j a a') (g : Sf j b b') (hq : 53 ≤ q) (hq2 : q ≤ 2000) (d1 : 2 ^ q ∣ val (rung a)) (d2 : 2 ^ q ∣ val (rung b)) (l1 : val (rung a) ≤ 2 ^ i) (l2 : val (rung b) ≤ 2 ^ i) (hij : i + 1 + j ≤ 2090) :
    ∃ r r', floatBits .add .f64 a b = some r ∧ floatBits .add .f64 a' b' = some r' ∧ Sf j r r' ∧ 2 ^ q ∣ val (rung r) ∧ val (rung r) ≤ 2 ^ (i + 1) := by
  obtain ⟨r, r1, r2, r3, r4⟩ := add_near h.1 g.1 h.2.2.1 g.2.2.1
  obtain ⟨r', q1, q2, q3, q4⟩ := add_near h.2.1 g.2.1 h.2.2.2.1 g.2.2.2.1
  have eX : vI a' + vI b' = (vI a + vI b) * 2 ^ j := by rw [h.val, g.val, Int.add_mul]
  refine ⟨r, r', r1, q1, ?_⟩
  by_cases h0 : vI a + vI b = 0
  · obtain ⟨z1, z2⟩ := r3 h0
    obtain ⟨z3, z4⟩ := q3 (by rw [eX, h0, Int.zero_mul])
    rw [z1, val_zero]
    refine ⟨⟨r2, q2, fin_zero z1, fin_zero z3, by rw [z2, z4, h.2.2.2.2.1, g.2.2.2.2.1], by rw [z1, z3, val_zero, Nat.zero_mul]⟩, Nat.dvd_zero _, Nat.zero_le _⟩
  · obtain ⟨s1, n1⟩ := r4 h0
    obtain ⟨s2, n2⟩ := q4 (fun e => h0 (by rw [eX] at e; exact neg_pw.2.1 e))
    rw [eX, Int.natAbs_mul, pw_abs] at n2
    have dX : 2 ^ q ∣ (vI a + vI b).natAbs := by
      rw [← Int.ofNat_dvd_left]
      exact Int.dvd_add (dvd_abs.1 d1) (dvd_abs.1 d2)
    have lX : (vI a + vI b).natAbs ≤ 2 ^ (i + 1) := by
      have e1 := vI_abs a
      have e2 := vI_abs b
      rw [Nat.pow_succ]
      omega
    have nX : (vI a + vI b).natAbs ≠ 0 := by omega
    have s1' : sgn r' = sgn r := by
      rw [s1, s2, eX]
      exact decide_eq_decide.2 neg_pw.1
    generalize (vI a + vI b).natAbs = X at *
    have hK := Nat.two_pow_pos kV
    have n2' : NearK (X * 2 ^ kV * 2 ^ j) (rung r') := by
      rw [show X * 2 ^ kV * 2 ^ j = X * 2 ^ j * 2 ^ kV by generalize 2 ^ kV = Q; ac_rfl]
      exact n2
    obtain ⟨t1, t2, t3, t4, t5⟩ := sh_step n1 n2' (Nat.mul_ne_zero nX (by omega)) (Nat.mul_dvd_mul_right dX _) hq hq2 (Nat.mul_le_mul_right _ lX) hij
    exact ⟨⟨r2, q2, fin_rg t1, fin_rg t2, s1', t3⟩, t4, t5⟩
theorem mul_sf {j a a' b q1 q2 q i1 i2 i : Nat} (h : Sf j a a') (hb : b < 18446744073709551616) (fb : finB b = true) (d1 : 2 ^ q1 ∣ val (rung a)) (d2 : 2 ^ q2 ∣ val (rung b)) (hqq : q1 + q2 = q + twP) (l1 : val (rung a) ≤ 2 ^ i1) (l2 : val (rung b) ≤ 2 ^ i2) (hii : i1 + i2 = i + twP) (hq : 53 ≤ q) (hq2 : q ≤ 2000) (hij : i + j ≤ 2090) :
    ∃ r r', floatBits .mul .f64 a b = some r ∧ floatBits .mul .f64 a' b = some r' ∧ Sf j r r' ∧ 2 ^ q ∣ val (rung r) ∧ val (rung r) ≤ 2 ^ i := by
  obtain ⟨r, r1, r2, r3, r4, r5⟩ := mul_near h.1 hb h.2.2.1 fb
  obtain ⟨r', p1, p2, p3, p4, p5⟩ := mul_near h.2.1 hb h.2.2.2.1 fb
  have eX : vI a' * vI b = (vI a * vI b) * 2 ^ j := by rw [h.val, Int.mul_assoc, Int.mul_comm (2 ^ j), ← Int.mul_assoc]
  refine ⟨r, r', r1, p1, ?_⟩
  have es : sgn r' = sgn r := by rw [r3, p3, h.2.2.2.2.1]
  by_cases h0 : vI a * vI b = 0
  · have z1 := r4 h0
    have z3 := p4 (by rw [eX, h0, Int.zero_mul])
    rw [z1, val_zero]
    exact ⟨⟨r2, p2, fin_zero z1, fin_zero z3, es, by rw [z1, z3, val_zero, Nat.zero_mul]⟩, Nat.dvd_zero _, Nat.zero_le _⟩
  · have n1 := r5 h0
    have n2 := p5 (fun e => h0 (by rw [eX] at e; exact neg_pw.2.1 e))
    rw [eX, Int.natAbs_mul, pw_abs] at n2
    have eV : (vI a * vI b).natAbs = val (rung a) * val (rung b) := by rw [Int.natAbs_mul, vI_abs, vI_abs]
    have nX : (vI a * vI b).natAbs ≠ 0 := by omega
    have eK : 2 ^ kV = 2 ^ twP * 2 ^ puH := by rw [show kV = twP + puH from rfl, Nat.pow_add]
    have dX : 2 ^ q * 2 ^ kV ∣ (vI a * vI b).natAbs * 2 ^ puH := by
      rw [eK, ← Nat.mul_assoc, ← Nat.pow_add, ← hqq, Nat.pow_add, eV]
      exact Nat.mul_dvd_mul_right (Nat.mul_dvd_mul d1 d2) _
    have lX : (vI a * vI b).natAbs * 2 ^ puH ≤ 2 ^ i * 2 ^ kV := by
      rw [eK, ← Nat.mul_assoc, ← Nat.pow_add, ← hii, Nat.pow_add, eV]
      exact Nat.mul_le_mul_right _ (Nat.mul_le_mul l1 l2)
    generalize (vI a * vI b).natAbs = X at *
    have hK := Nat.two_pow_pos puH
    have n2' : NearK (X * 2 ^ puH * 2 ^ j) (rung r') := by
      rw [show X * 2 ^ puH * 2 ^ j = X * 2 ^ j * 2 ^ puH by generalize 2 ^ puH = Q; ac_rfl]
      exact n2
    obtain ⟨t1, t2, t3, t4, t5⟩ := sh_step n1 n2' (Nat.mul_ne_zero nX (by omega)) dX hq hq2 lX hij
    exact ⟨⟨r2, p2, fin_rg t1, fin_rg t2, es, t3⟩, t4, t5⟩
theorem toO_fin {x : Nat} (h : finB x = true) : toO x = some x := by
  unfold toO
  rw [rung_nan (Nat.le_of_lt (fin_rung h))]; rfl
theorem Sf.zero (j : Nat) : Sf j 0 0 := ⟨by omega, by omega, by decide, by decide, rfl, by rw [show rung 0 = 0 from rfl, val_zero, Nat.zero_mul]⟩
/-- What is asked of each float of a list. -/
def Mid (q i x : Nat) : Prop := x < 18446744073709551616 ∧ finB x = true ∧ 2 ^ q ∣ val (rung x) ∧ val (rung x) ≤ 2 ^ i
theorem dot_sf {j q1 q2 q i1 i2 i n : Nat} {xs xs' ys : List Nat} (hx : ∀ k, k < n → Sf j (xs.getD k 0) (xs'.getD k 0) ∧ Mid q1 i1 (xs.getD k 0)) (hy : ∀ k, k < n → Mid q2 i2 (ys.getD k 0)) (hqq : q1 + q2 = q + twP) (hii : i1 + i2 = i + twP) (hq : 53 ≤ q) (hq2 : q ≤ 2000) (hij : i + n + j ≤ 2090) :
    ∀ k, k ≤ n → ∃ s s', dtO xs ys k = some s ∧ dtO xs' ys k = some s' ∧ Sf j s s' ∧ 2 ^ q ∣ val (rung s) ∧ val (rung s) ≤ 2 ^ (i + k) := by
  intro k
  induction k with
  | zero => exact fun _ => ⟨0, 0, rfl, rfl, Sf.zero j, by rw [show rung 0 = 0 from rfl, val_zero]; exact Nat.dvd_zero _, by rw [show rung 0 = 0 from rfl, val_zero]; exact Nat.zero_le _⟩
  | succ k ih =>
    intro hk
    obtain ⟨s, s', e1, e2, hS, hd, hl⟩ := ih (by omega)
    obtain ⟨hX, m1, m2, m3, m4⟩ := hx k (by omega)
    obtain ⟨p1, p2, p3, p4⟩ := hy k (by omega)
    obtain ⟨u, u', f1, f2, hU, gd, gl⟩ := mul_sf hX p1 p2 m3 p3 hqq m4 p4 hii hq hq2 (by omega)
    obtain ⟨r, r', g1, g2, hR, rd, rl⟩ := add_sf hS hU hq hq2 hd gd hl (Nat.le_trans gl (pw_le (by omega))) (by omega)
    refine ⟨r, r', ?_, ?_, hR, rd, rl⟩
    · rw [dtO, e1, toO_fin m2, toO_fin p2]
      show floatBits .mul .f64 _ _ >>= _ = _
      rw [f1]; exact g1
    · rw [dtO, e2, toO_fin hX.2.2.2.1, toO_fin p2]
      show floatBits .mul .f64 _ _ >>= _ = _
      rw [f2]; exact g2
/-- With its sign turned (of noughts: whichever). -/
def Ng (a b : Nat) : Prop := a < 18446744073709551616 ∧ b < 18446744073709551616 ∧ finB a = true ∧ finB b = true ∧ vI b = -vI a
theorem vI_of {r : Nat} {X : Int} (_h : X ≠ 0) (hs : sgn r = decide (X < 0)) (k : Nat) (hr : rung r = k) : vI r = if X < 0 then -(val k : Int) else (val k : Int) := by
  unfold vI
  rw [hs, hr]
  by_cases c : X < 0 <;> simp [c]
theorem add_ng {a a' b b' r : Nat} (h : Ng a a') (g : Ng b b') (hr : floatBits .add .f64 a b = some r) (fr : finB r = true) : ∃ r', floatBits .add .f64 a' b' = some r' ∧ Ng r r' := by
  obtain ⟨q, r1, r2, r3, r4⟩ := add_near h.1 g.1 h.2.2.1 g.2.2.1
  rw [hr] at r1
  cases r1
  obtain ⟨r', q1, q2, q3, q4⟩ := add_near h.2.1 g.2.1 h.2.2.2.1 g.2.2.2.1
  have eX : vI a' + vI b' = -(vI a + vI b) := by rw [h.2.2.2.2, g.2.2.2.2]; omega
  refine ⟨r', q1, r2, q2, fr, ?_⟩
  by_cases h0 : vI a + vI b = 0
  · obtain ⟨z1, _⟩ := r3 h0
    obtain ⟨z3, _⟩ := q3 (by rw [eX, h0]; rfl)
    exact ⟨fin_zero z3, by rw [vI_zero.2 z1, vI_zero.2 z3]; rfl⟩
  · obtain ⟨s1, n1⟩ := r4 h0
    obtain ⟨s2, n2⟩ := q4 (by rw [eX]; omega)
    rw [eX, Int.natAbs_neg] at n2
    have ek := nearK_uniq n2 n1
    refine ⟨by unfold finB at fr ⊢; rw [ek]; exact fr, ?_⟩
    rw [eX] at s2
    rw [vI_of (X := -(vI a + vI b)) (by omega) s2 _ ek, vI_of h0 s1 _ rfl]
    by_cases c : vI a + vI b < 0
    · rw [if_pos c, if_neg (by omega)]; omega
    · rw [if_neg c, if_pos (by omega)]
theorem mul_ng {a a' b r : Nat} (h : Ng a a') (hb : b < 18446744073709551616) (fb : finB b = true) (hr : floatBits .mul .f64 a b = some r) (fr : finB r = true) (hs : sgn a' = !sgn a) : ∃ r', floatBits .mul .f64 a' b = some r' ∧ Ng r r' := by
  obtain ⟨q, r1, r2, r3, r4, r5⟩ := mul_near h.1 hb h.2.2.1 fb
  rw [hr] at r1
  cases r1
  obtain ⟨r', q1, q2, q3, q4, q5⟩ := mul_near h.2.1 hb h.2.2.2.1 fb
  have eX : vI a' * vI b = -(vI a * vI b) := by rw [h.2.2.2.2, Int.neg_mul]
  refine ⟨r', q1, r2, q2, fr, ?_⟩
  by_cases h0 : vI a * vI b = 0
  · have z1 := r4 h0
    have z3 := q4 (by rw [eX, h0]; rfl)
    exact ⟨fin_zero z3, by rw [vI_zero.2 z1, vI_zero.2 z3]; rfl⟩
  · have n1 := r5 h0
    have n2 := q5 (by rw [eX]; omega)
    rw [eX, Int.natAbs_neg] at n2
    have ek := nearK_uniq n2 n1
    refine ⟨by unfold finB at fr ⊢; rw [ek]; exact fr, ?_⟩
    have es : sgn r' = !sgn r := by rw [q3, r3, hs]; cases sgn a <;> cases sgn b <;> rfl
    unfold vI
    rw [es, ek]
    cases sgn r <;> simp
/-- The product of a list whose signs are turned. -/
theorem dot_ng {q1 q2 q i1 i2 i n : Nat} {xs xs' ys : List Nat} (hx : ∀ k, k < n → xs'.getD k 0 = negW (xs.getD k 0) ∧ Mid q1 i1 (xs.getD k 0)) (hy : ∀ k, k < n → Mid q2 i2 (ys.getD k 0)) (hqq : q1 + q2 = q + twP) (hii : i1 + i2 = i + twP) (hq : 53 ≤ q) (hq2 : q ≤ 2000) (hij : i + n ≤ 2090) :
    ∀ k, k ≤ n → ∃ s s', dtO xs ys k = some s ∧ dtO xs' ys k = some s' ∧ Ng s s' := by
  have self : ∀ k, k < n → Sf 0 (xs.getD k 0) (xs.getD k 0) ∧ Mid q1 i1 (xs.getD k 0) := fun k hk => by
    obtain ⟨_, m1, m2, m3, m4⟩ := hx k hk
    exact ⟨⟨m1, m1, m2, m2, rfl, by rw [Nat.pow_zero, Nat.mul_one]⟩, m1, m2, m3, m4⟩
  have hD := dot_sf self hy hqq hii hq hq2 (by omega)
  intro k
  induction k with
  | zero => exact fun _ => ⟨0, 0, rfl, rfl, by omega, by omega, by decide, by decide, by decide⟩
  | succ k ih =>
    intro hk
    obtain ⟨s, s', e1, e2, hS⟩ := ih (by omega)
    obtain ⟨hX, m1, m2, m3, m4⟩ := hx k (by omega)
    obtain ⟨p1, p2, p3, p4⟩ := hy k (by omega)
    obtain ⟨u, _, f1, _, hU, _, _⟩ := mul_sf (self k (by omega)).1 p1 p2 m3 p3 hqq m4 p4 hii hq hq2 (by omega)
    obtain ⟨r, _, g1, _, hR, _, _⟩ := hD (k + 1) hk
    have hn : Ng (xs.getD k 0) (xs'.getD k 0) := by
      rw [hX]
      exact ⟨m1, negW_lt m1, m2, (neg_fin m1).trans m2, vI_ng m1⟩
    obtain ⟨u', f2, hU'⟩ := mul_ng hn p1 p2 f1 hU.2.2.1 (by rw [hX]; exact (neg_rung m1).2)
    have g1' : floatBits .add .f64 s u = some r := by
      rw [dtO, e1, toO_fin m2, toO_fin p2] at g1
      have g2 : (floatBits .mul .f64 (xs.getD k 0) (ys.getD k 0) >>= fun v => floatBits .add .f64 s v) = some r := g1
      rw [f1] at g2; exact g2
    obtain ⟨r', g3, hR'⟩ := add_ng hS hU' g1' hR.2.2.1
    refine ⟨r, r', g1, ?_, hR'⟩
    rw [dtO, e2, toO_fin hn.2.2.2.1, toO_fin p2]
    show floatBits .mul .f64 _ _ >>= _ = _
    rw [f2]; exact g3
end Go.Proofs.Ytngkknbikljpkaa
