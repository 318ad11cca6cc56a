/- LowerBack, plain: of small whole numbers and pivots of few units Times is exact, and what Times tells is taken apart as it was. -/
import Derived.Test.YtbnjjoaippoinaaU11
import Derived.Test.YtbnjjoaippoinaaW4
namespace Go.Proofs.Ytbnjjoaippoinaa
open Go.RowKit

/-- x is X units of 2^(e - 1074). -/
def Ev (e x : Nat) (X : Int) : Prop := x < 18446744073709551616 ∧ finB x = true ∧ vI x = X * 2 ^ e
/-- The same; nought is +0. -/
def Ex (e x : Nat) (X : Int) : Prop := Ev e x X ∧ sgn x = decide (X < 0)
theorem vI_sgn {x : Nat} : (vI x < 0 → sgn x = true) ∧ (0 < vI x → sgn x = false) := by
  unfold vI
  cases sgn x <;> simp <;> omega
theorem ev_sgn {e x : Nat} {X : Int} (h : Ev e x X) : (X < 0 → sgn x = true) ∧ (0 < X → sgn x = false) := by
  have hp := pw_pos e
  have e1 := h.2.2
  refine ⟨fun c => vI_sgn.1 ?_, fun c => vI_sgn.2 ?_⟩
  · rw [e1]; exact Int.mul_neg_of_neg_of_pos c hp
  · rw [e1]; exact Int.mul_pos c hp
theorem ev_ex {e x : Nat} {X : Int} (h : Ev e x X) (h0 : X ≠ 0) : Ex e x X := by
  refine ⟨h, ?_⟩
  by_cases c : X < 0
  · rw [(ev_sgn h).1 c, decide_eq_true c]
  · rw [(ev_sgn h).2 (by omega), decide_eq_false c]
theorem ev_abs {e x : Nat} {X : Int} (h : Ev e x X) : val (rung x) = X.natAbs * 2 ^ e := by
  rw [← vI_abs, h.2.2, Int.natAbs_mul, pw_abs]
theorem ex_one {e x y : Nat} {X : Int} (h : Ex e x X) (g : Ex e y X) : x = y :=
  word_ext h.1.1 g.1.1 (val_inj (by rw [ev_abs h.1, ev_abs g.1])) (by rw [h.2, g.2])
theorem ex_has {e : Nat} {X : Int} (h : X.natAbs ≤ 9007199254740992) (he : e ≤ 2030) : ∃ x, Ex e x X := by
  obtain ⟨k, hk⟩ := rep_ladder e X.natAbs h
  have hf : k < 9218868437227405312 := by
    refine le_fin (i := 53 + e) (by omega) ?_
    rw [hk, Nat.pow_add]
    exact Nat.mul_le_mul_right _ h
  by_cases c : X < 0
  · have hr : rung (k + 9223372036854775808) = k := by unfold rung; omega
    have hs : sgn (k + 9223372036854775808) = true := by unfold sgn; simp
    refine ⟨k + 9223372036854775808, ⟨by omega, fin_rg (by rw [hr]; exact hf), ?_⟩, by rw [hs, decide_eq_true c]⟩
    have e1 : vI (k + 9223372036854775808) = -(val (rung (k + 9223372036854775808)) : Int) := by unfold vI; rw [if_pos hs]
    rw [e1, hr, hk, Int.natCast_mul, pw_cast, ← Int.neg_mul]
    exact congrArg (· * (2 : Int) ^ e) (by omega)
  · have hr : rung k = k := by unfold rung; omega
    have hs : sgn k = false := by unfold sgn; simp; omega
    refine ⟨k, ⟨by omega, fin_rg (by rw [hr]; exact hf), ?_⟩, by rw [hs, decide_eq_false c]⟩
    have e1 : vI k = (val (rung k) : Int) := by unfold vI; rw [if_neg (by rw [hs]; simp)]
    rw [e1, hr, hk, Int.natCast_mul, pw_cast]
    exact congrArg (· * (2 : Int) ^ e) (by omega)
theorem ex_add {e x y z : Nat} {X Y : Int} (h : Ex e x X) (g : Ev e y Y) (hz : Ex e z (X + Y)) : floatBits .add .f64 x y = some z := by
  obtain ⟨r, r1, r2, r3, r4⟩ := add_near h.1.1 g.1 h.1.2.1 g.2.1
  have hp := pw_pos e
  have es : vI x + vI y = (X + Y) * 2 ^ e := by rw [h.1.2.2, g.2.2, Int.add_mul]
  rw [r1, Option.some.injEq]
  by_cases c : X + Y = 0
  · obtain ⟨q1, q2⟩ := r3 (by rw [es, c, Int.zero_mul])
    refine word_ext r2 hz.1.1 ?_ ?_
    · rw [q1]
      have := ev_abs hz.1
      rw [c] at this
      exact (val_inj (show val (rung z) = val 0 by rw [this, val_zero]; simp)).symm
    · rw [q2, hz.2, c]
      by_cases cx : X < 0
      · rw [(ev_sgn g).2 (by omega)]; simp
      · rw [h.2, decide_eq_false cx]; simp
  · have hne : vI x + vI y ≠ 0 := by
      rw [es]; exact fun e0 => c ((Int.mul_eq_zero.1 e0).resolve_right (by omega))
    obtain ⟨q1, q2⟩ := r4 hne
    have eA : (vI x + vI y).natAbs = val (rung z) := by rw [es, ← hz.1.2.2, vI_abs]
    rw [eA] at q2
    refine word_ext r2 hz.1.1 (nearK_uniq q2 (val_near _ (fin_rung hz.1.2.1))) ?_
    rw [q1, hz.2, es]
    by_cases d : X + Y < 0
    · rw [decide_eq_true d, decide_eq_true (Int.mul_neg_of_neg_of_pos d hp)]
    · rw [decide_eq_false d, decide_eq_false (by have := Int.mul_nonneg (show 0 ≤ X + Y by omega) (Int.le_of_lt hp); omega)]
theorem ev_neg {e y : Nat} {Y : Int} (g : Ev e y Y) : Ev e (negW y) (-Y) :=
  ⟨negW_lt g.1, by rw [neg_fin g.1]; exact g.2.1, by rw [vI_neg g.1, g.2.2, Int.neg_mul]⟩
theorem ex_sub {e x y z : Nat} {X Y : Int} (h : Ex e x X) (g : Ev e y Y) (hz : Ex e z (X - Y)) : floatBits .sub .f64 x y = some z := by
  rw [fsub_add g.1]
  exact ex_add h (ev_neg g) (by rw [← Int.sub_eq_add_neg]; exact hz)
theorem ev_mul {e a b : Nat} {A B : Int} (h : Ev twP a A) (g : Ev e b B) (hb : (A * B).natAbs ≤ 9007199254740992) (he : e ≤ 2030) : ∃ z, floatBits .mul .f64 a b = some z ∧ Ev e z (A * B) ∧ sgn z = (sgn a ^^ sgn b) := by
  obtain ⟨r, r1, r2, r3, r4, r5⟩ := mul_near h.1 g.1 h.2.1 g.2.1
  obtain ⟨z, hz⟩ := ex_has hb he
  have ep : vI a * vI b = vI z * 2 ^ twP := by
    rw [h.2.2, g.2.2, hz.1.2.2]
    rw [Int.mul_assoc, Int.mul_comm (2 ^ twP), ← Int.mul_assoc, ← Int.mul_assoc]
  refine ⟨r, r1, ?_, r3⟩
  have hr : rung r = rung z := by
    by_cases h0 : vI a * vI b = 0
    · rw [r4 h0]
      rw [ep] at h0
      exact (vI_zero.1 (neg_pw.2.1 h0)).symm
    · have n1 := r5 h0
      have eA : (vI a * vI b).natAbs * 2 ^ puH = val (rung z) * 2 ^ kV := by
        rw [ep, Int.natAbs_mul, pw_abs, vI_abs, Nat.mul_assoc, ← Nat.pow_add, show twP + puH = kV from rfl]
      rw [eA] at n1
      exact nearK_uniq n1 (val_near _ (fin_rung hz.1.2.1))
  refine ⟨r2, fin_rg (by rw [hr]; exact fin_rung hz.1.2.1), ?_⟩
  by_cases c : A * B = 0
  · have hv : vI r = 0 := by
      rw [vI_zero, hr]
      have := ev_abs hz.1
      rw [c] at this
      exact val_inj (by rw [this, val_zero]; simp)
    rw [hv, c, Int.zero_mul]
  · have hs : sgn r = sgn z := by
      have ha0 : A ≠ 0 := fun e0 => c (by rw [e0, Int.zero_mul])
      have hb0 : B ≠ 0 := fun e0 => c (by rw [e0, Int.mul_zero])
      rw [r3, (ev_ex h ha0).2, (ev_ex g hb0).2, hz.2]
      by_cases p : A < 0
      · by_cases q : B < 0
        · rw [decide_eq_true p, decide_eq_true q, decide_eq_false (by have := Int.mul_pos_of_neg_of_neg p q; omega)]; rfl
        · rw [decide_eq_true p, decide_eq_false q, decide_eq_true (Int.mul_neg_of_neg_of_pos p (by omega))]; rfl
      · by_cases q : B < 0
        · rw [decide_eq_false p, decide_eq_true q, decide_eq_true (Int.mul_neg_of_pos_of_neg (by omega) q)]; rfl
        · rw [decide_eq_false p, decide_eq_false q, decide_eq_false (by have := Int.mul_pos (show 0 < A by omega) (show 0 < B by omega); omega)]; rfl
    rw [word_ext r2 hz.1.1 hr hs]
    exact hz.1.2.2
theorem quo_some {a b : Nat} (ha : a < 18446744073709551616) (hb : b < 18446744073709551616) (sa : someB a = true) (sb : someB b = true) : floatBits .quo .f64 a b = some (kQ a b) := by
  obtain ⟨fa, _⟩ := some_rung sa
  obtain ⟨fb, b0⟩ := some_rung sb
  have b0' : rung b ≠ 0 := by simpa using b0
  have m2 : mg (rung b) ≠ 0 := mg_ne b0'
  obtain ⟨q, hq⟩ : ∃ q, floatBits .quo .f64 a b = some q := by
    rw [(fbits_map a b).2.2.2, read_fin ha fa, read_fin hb fb]
    simp only [Ieee.Datum.quotient]
    rw [if_neg m2]
    exact ⟨_, rfl⟩
  unfold kQ; rw [hq]; rfl
/-- A quotient that is exact. -/
theorem ex_quo {e s d l : Nat} {L D : Int} (hs : Ex e s (L * D)) (hd : Ex e d D) (hl : Ex twP l L) (h0 : 0 < D) (hL : L ≠ 0) : floatBits .quo .f64 s d = some l := by
  have hLD : L * D ≠ 0 := fun c => by rcases Int.mul_eq_zero.1 c with c | c <;> omega
  have vs := ev_abs hs.1
  have vd := ev_abs hd.1
  have vl := ev_abs hl.1
  have hp := Nat.two_pow_pos e
  have vz : val 0 = 0 := val_zero
  have some' : ∀ {x : Nat}, finB x = true → val (rung x) ≠ 0 → someB x = true := fun {x} f h => by
    have hr : rung x ≠ 0 := fun c => h (by rw [c]; exact val_zero)
    unfold someB
    rw [f]
    simpa using hr
  have ns : val (rung s) ≠ 0 := by rw [vs]; exact Nat.mul_ne_zero (by omega) (by omega)
  have nd : val (rung d) ≠ 0 := by rw [vd]; exact Nat.mul_ne_zero (by omega) (by omega)
  have s1 := some' hs.1.2.1 ns
  have s2 := some' hd.1.2.1 nd
  rw [quo_some hs.1.1 hd.1.1 s1 s2, Option.some.injEq]
  obtain ⟨k, r, hB, hf⟩ := div_told hs.1.1 hd.1.1 s1 s2
  have f0 : stepF (kQ s d) (kS s d) 0 = _ := hf 0
  have e0 : stepF (kQ s d) (kS s d) 0 = kQ s d := by unfold stepF dnB upB; simp
  rw [e0] at f0
  have hA : val (rung s) * 2 ^ twP = val (rung l) * val (rung d) := by
    rw [vs, vd, vl, Int.natAbs_mul, Nat.mul_assoc, Nat.mul_assoc, Nat.mul_assoc, Nat.mul_comm (2 ^ e), Nat.mul_left_comm D.natAbs]
  have hmono : ∀ a b, val a * val (rung d) < val b * val (rung d) → a < b := fun a b h => (val_lt_iff _ _).1 (Nat.lt_of_mul_lt_mul_right h)
  obtain ⟨_, b0, b1, b2⟩ := hB
  have hr0 : r = 0 := by
    rcases Int.lt_trichotomy r 0 with c | c | c
    · exfalso
      obtain ⟨c1, c2, c3⟩ := b2 c
      have c2 : val (k - 1) * val (rung d) < val (rung s) * 2 ^ twP := c2
      rw [hA] at c2
      have d1 := hmono _ _ c2
      have fl := fin_rung hl.1.2.1
      by_cases ck : k < 9218868437227405312
      · have c4 : val (rung s) * 2 ^ twP < val k * val (rung d) := c3 ck
        rw [hA] at c4
        have d2 := hmono _ _ c4
        omega
      · omega
    · exact c
    · exfalso
      obtain ⟨c1, c2, c3⟩ := b1 c
      have c2 : val k * val (rung d) < val (rung s) * 2 ^ twP := c2
      rw [hA] at c2
      have d1 := hmono _ _ c2
      have fl := fin_rung hl.1.2.1
      by_cases ck : k + 1 < 9218868437227405312
      · have c4 : val (rung s) * 2 ^ twP < val (k + 1) * val (rung d) := c3 ck
        rw [hA] at c4
        have d2 := hmono _ _ c4
        omega
      · omega
  obtain ⟨k1, k2⟩ := b0 hr0
  have k2 : val k * val (rung d) = val (rung s) * 2 ^ twP := k2
  rw [hA] at k2
  have ek : k = rung l := val_inj (Nat.eq_of_mul_eq_mul_right (by omega) k2)
  have e1 : rgS k r (if (sgn s ^^ sgn d) = true then tmd 0 else 0) = k := by
    rw [hr0]; unfold rgS; simp
  rw [f0, e1, ek, hs.2, hd.2, decide_eq_false (show ¬ D < 0 by omega)]
  have e2 : (decide (L * D < 0) ^^ false) = sgn l := by
    rw [Bool.xor_false, hl.2]
    by_cases c : L < 0
    · rw [decide_eq_true c, decide_eq_true (Int.mul_neg_of_neg_of_pos c h0)]
    · rw [decide_eq_false c, decide_eq_false (by have := Int.mul_nonneg (show 0 ≤ L by omega) (Int.le_of_lt h0); omega)]
  rw [e2]
  exact (word_of hl.1.1).symm
end Go.Proofs.Ytbnjjoaippoinaa

namespace Go.Proofs.Ytbnjjoaippoinaa
open Go.RowKit

/-- The whole numbers of L, the ones of the diagonal among them. -/
def lE (L : Nat → Nat → Int) (i k : Nat) : Int := if k = i then 1 else L i k
/-- The exact number at (i, j), of the first K products. -/
def xE (L : Nat → Nat → Int) (D : Nat → Int) (i j : Nat) : Nat → Int
  | 0 => 0
  | k + 1 => xE L D i j k + lE L j k * (lE L i k * D k)
/-- What L and D are. -/
structure Sm (e N : Nat) (L : Nat → Nat → Int) (D : Nat → Int) (f : Nat → Nat → Nat) (d : Nat → Nat) : Prop where
  n9 : N ≤ 9
  he : e ≤ 2030
  lf : ∀ i k, k < i → i < N → Ex twP (f i k) (L i k)
  lb : ∀ i k, (L i k).natAbs ≤ 4
  df : ∀ k, k < N → Ex e (d k) (D k)
  db : ∀ k, 1 ≤ D k ∧ D k ≤ 256
theorem one_ex : Ex twP 4607182418800017408 1 := by
  refine ⟨⟨by decide, by decide, ?_⟩, by decide⟩
  have h : vI 4607182418800017408 = 2 ^ twP := by kernel_rfl
  rw [h, Int.one_mul]
theorem lE_bd {L : Nat → Nat → Int} (h : ∀ i k, (L i k).natAbs ≤ 4) (i k : Nat) : (lE L i k).natAbs ≤ 4 := by
  unfold lE
  split
  · decide
  · exact h i k
theorem lE_ex {e N : Nat} {L : Nat → Nat → Int} {D : Nat → Int} {f : Nat → Nat → Nat} {d : Nat → Nat} (h : Sm e N L D f d) {i k : Nat} (hk : k ≤ i) (hi : i < N) : Ex twP (eL f i k) (lE L i k) := by
  unfold eL lE
  split
  · exact one_ex
  · exact h.lf i k (by omega) hi
theorem abs_mul_le {a b : Int} {m n : Nat} (h : a.natAbs ≤ m) (g : b.natAbs ≤ n) : (a * b).natAbs ≤ m * n := by
  rw [Int.natAbs_mul]; exact Nat.mul_le_mul h g
theorem xE_bd {L : Nat → Nat → Int} {D : Nat → Int} (h : ∀ i k, (L i k).natAbs ≤ 4) (g : ∀ k, 1 ≤ D k ∧ D k ≤ 256) (i j : Nat) : ∀ K, (xE L D i j K).natAbs ≤ K * 4096
  | 0 => by simp [xE]
  | K + 1 => by
    have h1 := xE_bd h g i j K
    have h2 := abs_mul_le (lE_bd h j K) (abs_mul_le (lE_bd h i K) (show (D K).natAbs ≤ 256 by have := g K; omega))
    rw [xE]
    omega
theorem bits_swap (a b : Nat) : floatBits .mul .f64 a b = floatBits .mul .f64 b a := (bits_comm a b).2
theorem ex_toO {e x : Nat} {X : Int} (h : Ev e x X) : toO x = some x := toO_fin h.2.1
theorem some_op (op : BinOp) (a b : Nat) : opO op (some a) (some b) = floatBits op .f64 a b := rfl
/-- Times is exact. -/
theorem back_times {e N : Nat} {L : Nat → Nat → Int} {D : Nat → Int} {f : Nat → Nat → Nat} {d : Nat → Nat} (h : Sm e N L D f d) {i j : Nat} (hj : j ≤ i) (hi : i < N) : ∀ K, K ≤ j + 1 → ∃ s, tiO f d i j K = some s ∧ Ex e s (xE L D i j K)
  | 0, _ => by
    obtain ⟨z, hz⟩ := ex_has (e := e) (X := 0) (by decide) h.he
    have e0 : z = 0 := by
      refine word_ext hz.1.1 (by omega) ?_ (by rw [hz.2]; decide)
      have := ev_abs hz.1
      exact val_inj (by rw [this, show rung 0 = 0 from rfl, val_zero]; simp)
    have hz0 := hz
    rw [e0] at hz0
    exact ⟨0, rfl, hz0⟩
  | K + 1, hK => by
    obtain ⟨s, s1, s2⟩ := back_times h hj hi K (by omega)
    have a1 := lE_ex h (show K ≤ i by omega) hi
    have a2 := lE_ex h (show K ≤ j by omega) (show j < N by omega)
    have a3 := h.df K (by omega)
    have b1 := abs_mul_le (lE_bd h.lb i K) (show (D K).natAbs ≤ 256 by have := h.db K; omega)
    have b2 := abs_mul_le (lE_bd h.lb j K) b1
    obtain ⟨p, p1, p2, _⟩ := ev_mul a1.1 a3.1 (by omega) h.he
    obtain ⟨q, q1, q2, _⟩ := ev_mul a2.1 p2 (by omega) h.he
    have hb := xE_bd h.lb h.db i j (K + 1)
    have hKb : (K + 1) * 4096 ≤ 10 * 4096 := Nat.mul_le_mul_right _ (by have := h.n9; omega)
    obtain ⟨z, hz⟩ := ex_has (e := e) (X := xE L D i j (K + 1)) (by omega) h.he
    refine ⟨z, ?_, hz⟩
    rw [tiO, s1, ex_toO a1.1, ex_toO a2.1, ex_toO a3.1, some_op, p1, some_op, bits_swap, q1, some_op]
    exact ex_add s2 q2 (by rw [xE] at hz; exact hz)
/-- What is taken off, exactly. -/
theorem back_less {e N : Nat} {L : Nat → Nat → Int} {D : Nat → Int} {f : Nat → Nat → Nat} {d : Nat → Nat} (h : Sm e N L D f d) {i j : Nat} (hj : j ≤ i) (hi : i < N) {x : Nat} (hx : Ex e x (xE L D i j (j + 1))) : ∀ K, K ≤ j → ∃ s, lesO (some x) (fun k => toO (f i k)) (vO f d j) K = some s ∧ Ex e s (xE L D i j (j + 1) - xE L D i j K)
  | 0, _ => ⟨x, rfl, by rw [xE, Int.sub_zero]; exact hx⟩
  | K + 1, hK => by
    obtain ⟨s, s1, s2⟩ := back_less h hj hi hx K (by omega)
    have a1 := h.lf i K (by omega) hi
    have a2 := h.lf j K (by omega) (by omega)
    have a3 := h.df K (by omega)
    have b1 := abs_mul_le (h.lb j K) (show (D K).natAbs ≤ 256 by have := h.db K; omega)
    have b2 := abs_mul_le (h.lb i K) b1
    obtain ⟨p, p1, p2, _⟩ := ev_mul a2.1 a3.1 (by omega) h.he
    obtain ⟨q, q1, q2, _⟩ := ev_mul a1.1 p2 (by omega) h.he
    have e1 : xE L D i j (K + 1) = xE L D i j K + L i K * (L j K * D K) := by
      rw [xE]; unfold lE
      rw [if_neg (by omega), if_neg (by omega), Int.mul_left_comm]
    have hb1 := xE_bd h.lb h.db i j (K + 1)
    have hb2 := xE_bd h.lb h.db i j (j + 1)
    have hn := h.n9
    have c1 : (K + 1) * 4096 ≤ 10 * 4096 := Nat.mul_le_mul_right _ (by omega)
    have c2 : (j + 1) * 4096 ≤ 10 * 4096 := Nat.mul_le_mul_right _ (by omega)
    obtain ⟨z, hz⟩ := ex_has (e := e) (X := xE L D i j (j + 1) - xE L D i j (K + 1)) (by omega) h.he
    refine ⟨z, ?_, hz⟩
    rw [lesO, s1]
    unfold vO
    rw [ex_toO a1.1, ex_toO a2.1, ex_toO a3.1, some_op, p1, some_op, q1, some_op]
    exact ex_sub s2 q2 (by rw [e1] at hz; rw [Int.sub_sub]; exact hz)
theorem ex_zero {e z : Nat} (hz : Ex e z 0) : z = 0 := by
  refine word_ext hz.1.1 (by omega) ?_ (by rw [hz.2]; decide)
  have := ev_abs hz.1
  exact val_inj (by rw [this, show rung 0 = 0 from rfl, val_zero]; simp)
theorem quo_zero {e d : Nat} {D : Int} (hd : Ex e d D) (h0 : 0 < D) : floatBits .quo .f64 0 d = some 0 := by
  have vd := ev_abs hd.1
  have hp := Nat.two_pow_pos e
  have nd : rung d ≠ 0 := fun c => by
    rw [c, val_zero] at vd
    have := Nat.mul_ne_zero (show D.natAbs ≠ 0 by omega) (show 2 ^ e ≠ 0 by omega)
    omega
  have hs : sgn d = false := by rw [hd.2]; exact decide_eq_false (by omega)
  rw [(fbits_map 0 d).2.2.2, read_fin (by decide) (by decide), read_fin hd.1.1 hd.1.2.1, hs]
  simp only [Ieee.Datum.quotient]
  rw [if_neg (mg_ne nd), show mg (rung 0) = 0 from rfl]
  simp [Ieee.Format.write, Ieee.Format.nearest]
  rfl
theorem pos_of {e d : Nat} {D : Int} (hd : Ex e d D) (h0 : 0 < D) : posB d = true := by
  have vd := ev_abs hd.1
  have hp := Nat.two_pow_pos e
  have nd : rung d ≠ 0 := fun c => by
    rw [c, val_zero] at vd
    have := Nat.mul_ne_zero (show D.natAbs ≠ 0 by omega) (show 2 ^ e ≠ 0 by omega)
    omega
  have hs : sgn d = false := by rw [hd.2]; exact decide_eq_false (by omega)
  have hf := hd.1.2.1
  unfold finB at hf
  unfold posB
  unfold sgn at hs
  simp at hf hs
  have hr : rung d = d := by unfold rung; omega
  rw [hr] at hf nd
  simp; omega
/-- What Times tells is taken apart as it was. -/
theorem back_col {e N : Nat} {L : Nat → Nat → Int} {D : Nat → Int} {f m : Nat → Nat → Nat} {d : Nat → Nat} (h : Sm e N L D f d) (hm : ∀ i j, j ≤ i → i < N → Ex e (m i j) (xE L D i j (j + 1))) : Col m N f d N := fun j hj => by
  have hdj := h.df j hj
  have hpos := (h.db j).1
  refine ⟨?_, pos_of hdj (by omega), fun i hi hN => ⟨?_, (h.lf i j hi hN).1.2.1⟩⟩
  · have hx := hm j j (Nat.le_refl j) hj
    obtain ⟨s, s1, s2⟩ := back_less h (Nat.le_refl j) hj hx j (Nat.le_refl j)
    have eX : xE L D j j (j + 1) - xE L D j j j = D j := by
      rw [xE]; unfold lE; rw [if_pos rfl, Int.one_mul, Int.one_mul]; omega
    rw [eX] at s2
    unfold pivO
    rw [ex_toO hx.1, lesO_comm, s1, ex_one s2 hdj]
  · have hx := hm i j (Nat.le_of_lt hi) hN
    obtain ⟨s, s1, s2⟩ := back_less h (Nat.le_of_lt hi) hN hx j (Nat.le_refl j)
    have eX : xE L D i j (j + 1) - xE L D i j j = L i j * D j := by
      rw [xE]; unfold lE; rw [if_pos rfl, if_neg (by omega), Int.one_mul]; omega
    rw [eX] at s2
    unfold quoO
    rw [ex_toO hx.1, s1, ex_toO hdj.1, some_op]
    have hl := h.lf i j hi hN
    by_cases c : L i j = 0
    · rw [c, Int.zero_mul] at s2
      rw [c] at hl
      rw [ex_zero s2, ex_zero hl]
      exact quo_zero hdj (by omega)
    · exact ex_quo s2 hdj hl (by omega) c
end Go.Proofs.Ytbnjjoaippoinaa
