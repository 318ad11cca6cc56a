/- Layer 13, plain: of whole numbers Solve is exact (for SolveWhole). -/
import Derived.Test.YtclldmdhpojciaaSy
import Derived.Test.YtclldmdhpojciaaS2
namespace Go.Proofs.Ytclldmdhpojciaa
open Go.RowKit

theorem mg_form {k : Nat} (h0 : k ≠ 0) : mg k < 9007199254740992 ∧ mg k ≠ 0 ∧ (up k = 0 ∨ 4503599627370496 ≤ mg k) ∧ up k * 4503599627370496 + mg k = k := by
  unfold mg up
  split
  · exact ⟨by omega, h0, Or.inl rfl, by omega⟩
  · exact ⟨by omega, by omega, Or.inr (by omega), by omega⟩
/-- What is a float is told as it is. -/
theorem near_exact (s : Bool) {m k K : Nat} {p : Int} (hk : k < 9218868437227405312) (hK : 0 ≤ p + 1074 + (K : Int)) (h : m * 2 ^ (p + 1074 + (K : Int)).toNat = val k * 2 ^ K) : Ieee.double.nearest s m p = Ieee.double.word s k := by
  obtain ⟨a, ha⟩ : ∃ a : Nat, (p + 1074 + (K : Int)).toNat = a := ⟨_, rfl⟩
  have hpa : p + 1074 + (K : Int) = (a : Int) := by omega
  rw [ha] at h
  by_cases h0 : k = 0
  · subst h0
    rw [val_zero, Nat.zero_mul] at h
    have hm : m = 0 := (Nat.mul_eq_zero.1 h).resolve_right (by have := Nat.two_pow_pos a; omega)
    unfold Ieee.Format.nearest
    rw [if_pos hm]
  · obtain ⟨h1, h2, h3, h4⟩ := mg_form h0
    have e := nearest_val s m p (mg k) (up k) h1 h2 h3
    rw [h4, Nat.min_eq_left (by omega)] at e
    refine e ?_
    rw [← mg_up k, Nat.mul_assoc, ← Nat.pow_add] at h
    by_cases c : up k + K ≤ a
    · left
      refine ⟨a - (up k + K), by omega, ?_⟩
      have e1 : a = (a - (up k + K)) + (up k + K) := by omega
      rw [e1, Nat.pow_add, ← Nat.mul_assoc] at h
      exact Nat.eq_of_mul_eq_mul_right (Nat.two_pow_pos _) h
    · right
      refine ⟨up k + K - a, by omega, ?_⟩
      have e1 : up k + K = (up k + K - a) + a := by omega
      rw [e1, Nat.pow_add, ← Nat.mul_assoc] at h
      exact Nat.eq_of_mul_eq_mul_right (Nat.two_pow_pos _) h
/-- A finite float's number, in units of 2^-1074. -/
def vZ (x : Nat) : Int := if sgn x then -(val (rung x) : Int) else (val (rung x) : Int)
def Fin' (x : Nat) : Prop := x < 18446744073709551616 ∧ rung x < 9218868437227405312
theorem read_f {x : Nat} (h : Fin' x) : Ieee.double.read x = .number (sgn x) (mg (rung x)) (-1074 + (up (rung x) : Int)) := by
  rw [read_eq x h.1, if_pos h.2]
theorem vZ_abs (x : Nat) : (vZ x).natAbs = val (rung x) := by
  unfold vZ
  split <;> simp
theorem vZ_neg {x : Nat} (h : vZ x ≠ 0) : sgn x = decide (vZ x < 0) := by
  unfold vZ at h ⊢
  cases hs : sgn x
  · simp
  · simp [hs] at h ⊢; omega
theorem word_eqZ (s : Bool) {r : Nat} (hr : r < 9223372036854775808) : Ieee.double.word s r < 18446744073709551616 ∧ rung (Ieee.double.word s r) = r ∧ sgn (Ieee.double.word s r) = s := by
  have e : Ieee.double.word s r = if s then 9223372036854775808 + r else r := by
    unfold Ieee.Format.word
    rw [show Ieee.double.signWeight = 9223372036854775808 by decide]
  rw [e]
  unfold rung sgn
  cases s
  · simp only [Bool.false_eq_true, if_false]
    exact ⟨by omega, by omega, decide_eq_false (by omega)⟩
  · simp only [if_true]
    exact ⟨by omega, by omega, decide_eq_true (by omega)⟩
theorem vZ_word (s : Bool) {r : Nat} (hr : r < 9218868437227405312) : Fin' (Ieee.double.word s r) ∧ vZ (Ieee.double.word s r) = if s then -(val r : Int) else (val r : Int) := by
  obtain ⟨h1, h2, h3⟩ := word_eqZ s (show r < 9223372036854775808 by omega)
  refine ⟨⟨h1, by rw [h2]; exact hr⟩, ?_⟩
  unfold vZ
  rw [h2, h3]
theorem signed_vZ (x : Nat) (b : Nat) (hb : b ≤ up (rung x)) : Ieee.signed (sgn x) (mg (rung x)) (up (rung x) - b) * 2 ^ b = vZ x := by
  have e : mg (rung x) * 2 ^ (up (rung x) - b) * 2 ^ b = val (rung x) := by
    rw [Nat.mul_assoc, ← Nat.pow_add, show up (rung x) - b + b = up (rung x) by omega, mg_up]
  have e' : ((mg (rung x) * 2 ^ (up (rung x) - b) : Nat) : Int) * 2 ^ b = (val (rung x) : Int) := by
    rw [← e]; push_cast; rfl
  unfold Ieee.signed vZ
  rw [Nat.shiftLeft_eq]
  cases sgn x
  · simp only [Bool.false_eq_true, if_false]; exact e'
  · simp only [if_true]; rw [Int.neg_mul, e']
/-- A sum that is a float. -/
theorem add_ex {x y k : Nat} (hx : Fin' x) (hy : Fin' y) (hk : k < 9218868437227405312) (h : (vZ x + vZ y).natAbs = val k) : ∃ r, floatBits .add .f64 x y = some r ∧ Fin' r ∧ vZ r = vZ x + vZ y := by
  rw [(fbits_map x y).1, read_f hx, read_f hy]
  obtain ⟨b, hb⟩ : ∃ b, min (up (rung x)) (up (rung y)) = b := ⟨_, rfl⟩
  have hmin : min (-1074 + (up (rung x) : Int)) (-1074 + (up (rung y) : Int)) = -1074 + (b : Int) := by omega
  have s1 := signed_vZ x b (by omega)
  have s2 := signed_vZ y b (by omega)
  have e1 : (-1074 + (up (rung x) : Int) - (-1074 + (b : Int))).toNat = up (rung x) - b := by omega
  have e2 : (-1074 + (up (rung y) : Int) - (-1074 + (b : Int))).toNat = up (rung y) - b := by omega
  simp only [Ieee.Datum.sum, hmin, e1, e2, Option.map_some]
  obtain ⟨T, hT⟩ : ∃ T, Ieee.signed (sgn x) (mg (rung x)) (up (rung x) - b) + Ieee.signed (sgn y) (mg (rung y)) (up (rung y) - b) = T := ⟨_, rfl⟩
  have hs : T * 2 ^ b = vZ x + vZ y := by rw [← hT, Int.add_mul, s1, s2]
  rw [hT]
  have ha : T.natAbs * 2 ^ b = val k := by
    rw [← h, ← hs, Int.natAbs_mul, Int.natAbs_pow]
    rfl
  have hn : ∀ s, Ieee.double.nearest s T.natAbs (-1074 + (b : Int)) = Ieee.double.word s k := fun s => near_exact s (K := 0) hk (by omega) (by
    rw [show (-1074 + (b : Int) + 1074 + ((0 : Nat) : Int)).toNat = b by omega, ha]; simp)
  refine ⟨_, rfl, ?_⟩
  show Fin' (Ieee.double.nearest _ _ _) ∧ vZ (Ieee.double.nearest _ _ _) = _
  rw [hn]
  obtain ⟨w1, w2⟩ := vZ_word (if T = 0 then (sgn x && sgn y) else decide (T < 0)) hk
  refine ⟨w1, ?_⟩
  rw [w2, ← hs]
  have hp : (0 : Int) < 2 ^ b := Int.pow_pos (by omega)
  have hk' : (val k : Int) = (T.natAbs : Int) * 2 ^ b := by rw [← ha]; push_cast; rfl
  by_cases h0 : T = 0
  · rw [hk', h0]; simp
  · rw [if_neg h0, hk']
    by_cases c : T < 0
    · rw [decide_eq_true c, if_pos rfl, ← Int.neg_mul]
      congr 1
      omega
    · rw [decide_eq_false c]
      simp only [Bool.false_eq_true, if_false]
      congr 1
      omega
/-- A product that is a float. -/
theorem mul_ex {x y k E : Nat} (hE : E = 1074) (hx : Fin' x) (hy : Fin' y) (hk : k < 9218868437227405312) (h : val (rung x) * val (rung y) = val k * 2 ^ E) : ∃ r, floatBits .mul .f64 x y = some r ∧ Fin' r ∧ rung r = k ∧ sgn r = (sgn x ^^ sgn y) := by
  rw [(fbits_map x y).2.2.1, read_f hx, read_f hy]
  simp only [Ieee.Datum.product, Option.map_some]
  refine ⟨_, rfl, ?_⟩
  show Fin' (Ieee.double.nearest _ _ _) ∧ rung (Ieee.double.nearest _ _ _) = k ∧ sgn (Ieee.double.nearest _ _ _) = _
  rw [near_exact (sgn x ^^ sgn y) (K := E) hk (by omega) (by
    rw [show (-1074 + (up (rung x) : Int) + (-1074 + (up (rung y) : Int)) + 1074 + ((E : Nat) : Int)).toNat = up (rung x) + up (rung y) by omega, ← h, ← mg_up (rung x), ← mg_up (rung y), Nat.pow_add]
    generalize 2 ^ up (rung x) = A
    generalize 2 ^ up (rung y) = B
    ac_rfl)]
  obtain ⟨w1, w2, w3⟩ := word_eqZ (sgn x ^^ sgn y) (show k < 9223372036854775808 by omega)
  exact ⟨⟨w1, by rw [w2]; exact hk⟩, w2, w3⟩
/-- The dividend, with as many noughts behind it as the model takes, is a multiple. -/
theorem quo_core {m n M a b : Nat} (hm : m ≠ 0) (hM : M < 9007199254740992) (h : m * 2 ^ a = M * n * 2 ^ b) : ∃ e, m * 2 ^ (54 + n.log2 - m.log2) = M * 2 ^ e * n ∧ b + (54 + n.log2 - m.log2) = a + e := by
  obtain ⟨t, ht⟩ : ∃ t, 54 + n.log2 - m.log2 = t := ⟨_, rfl⟩
  rw [ht]
  have h2 : m * 2 ^ t * 2 ^ a = M * n * 2 ^ (b + t) := by
    rw [Nat.pow_add, ← Nat.mul_assoc, ← h]
    generalize 2 ^ t = A
    generalize 2 ^ a = B
    ac_rfl
  by_cases c : a ≤ b + t
  · refine ⟨b + t - a, ?_, by omega⟩
    rw [show b + t = (b + t - a) + a by omega, Nat.pow_add, ← Nat.mul_assoc] at h2
    have := Nat.eq_of_mul_eq_mul_right (Nat.two_pow_pos a) h2
    rw [this]
    generalize 2 ^ (b + t - a) = A
    ac_rfl
  · exfalso
    rw [show a = (a - (b + t)) + (b + t) by omega, Nat.pow_add, ← Nat.mul_assoc] at h2
    have h3 := Nat.eq_of_mul_eq_mul_right (Nat.two_pow_pos (b + t)) h2
    have l1 : 2 ^ m.log2 ≤ m := Nat.log2_self_le hm
    have l2 : n < 2 ^ (n.log2 + 1) := Nat.lt_log2_self
    have l3 : 2 ^ (m.log2 + t) ≤ m * 2 ^ t := by rw [Nat.pow_add]; exact Nat.mul_le_mul_right _ l1
    have l4 : 2 ^ (54 + n.log2) ≤ 2 ^ (m.log2 + t) := Nat.pow_le_pow_right (by omega) (by omega)
    have l5 : 2 ^ (54 + n.log2) = 9007199254740992 * 2 ^ (n.log2 + 1) := by
      rw [show 54 + n.log2 = 53 + (n.log2 + 1) by omega, Nat.pow_add]
    have l6 : m * 2 ^ t * 1 ≤ m * 2 ^ t * 2 ^ (a - (b + t)) := Nat.mul_le_mul_left _ (Nat.two_pow_pos _)
    have l7 : M * n ≤ 9007199254740992 * n := Nat.mul_le_mul_right _ (by omega)
    have l8 : 9007199254740992 * n < 9007199254740992 * 2 ^ (n.log2 + 1) := Nat.mul_lt_mul_of_pos_left l2 (by omega)
    omega
/-- A quotient that is a float. -/
theorem quo_ex {x d k E : Nat} (hE : E = 1074) (hx : Fin' x) (hd : Fin' d) (hd0 : rung d ≠ 0) (hk : k < 9218868437227405312) (h : val (rung x) * 2 ^ E = val k * val (rung d)) : ∃ r, floatBits .quo .f64 x d = some r ∧ Fin' r ∧ rung r = k ∧ sgn r = (sgn x ^^ sgn d) := by
  obtain ⟨_, n0, _, _⟩ := mg_form hd0
  rw [(fbits_map x d).2.2.2, read_f hx, read_f hd]
  simp only [Ieee.Datum.quotient]
  rw [if_neg n0]
  simp only [Option.map_some]
  refine ⟨_, rfl, ?_⟩
  show Fin' (Ieee.double.nearest _ _ _) ∧ rung (Ieee.double.nearest _ _ _) = k ∧ sgn (Ieee.double.nearest _ _ _) = _
  have hfin : ∀ v : Nat, v = Ieee.double.word (sgn x ^^ sgn d) k → Fin' v ∧ rung v = k ∧ sgn v = (sgn x ^^ sgn d) := fun v hv => by
    obtain ⟨w1, w2, w3⟩ := word_eqZ (sgn x ^^ sgn d) (show k < 9223372036854775808 by omega)
    rw [hv]
    exact ⟨⟨w1, by rw [w2]; exact hk⟩, w2, w3⟩
  refine hfin _ ?_
  rw [← mg_up (rung x), ← mg_up (rung d)] at h
  obtain ⟨t, ht⟩ : ∃ t, 54 + (mg (rung d)).log2 - (mg (rung x)).log2 = t := ⟨_, rfl⟩
  rw [ht, Nat.shiftLeft_eq]
  by_cases m0 : mg (rung x) = 0
  · have hv : val k = 0 := by
      rw [m0, Nat.zero_mul, Nat.zero_mul] at h
      rcases Nat.mul_eq_zero.1 h.symm with g | g
      · exact g
      · rcases Nat.mul_eq_zero.1 g with g | g
        · exact absurd g n0
        · have := Nat.two_pow_pos (up (rung d)); omega
    have hk0 : k = 0 := val_inj (by rw [hv, val_zero])
    rw [m0, Nat.zero_mul, Nat.zero_div, Nat.zero_mod, hk0]
    unfold Ieee.Format.nearest
    rfl
  · have hM : ∃ M u, val k = M * 2 ^ u ∧ M < 9007199254740992 := by
      by_cases k0 : k = 0
      · exact ⟨0, 0, by rw [k0, val_zero], by omega⟩
      · exact ⟨mg k, up k, (mg_up k).symm, (mg_form k0).1⟩
    obtain ⟨M, u, hv, hM⟩ := hM
    rw [hv] at h
    have h' : mg (rung x) * 2 ^ (up (rung x) + E) = M * mg (rung d) * 2 ^ (u + up (rung d)) := by
      rw [Nat.pow_add, Nat.pow_add, ← Nat.mul_assoc, h]
      generalize 2 ^ u = A
      generalize 2 ^ up (rung d) = B
      ac_rfl
    obtain ⟨e, e1, e2⟩ := quo_core m0 hM h'
    rw [ht] at e1 e2
    have hnp : 0 < mg (rung d) := by omega
    rw [e1, Nat.mul_div_cancel _ hnp, Nat.mul_mod_left]
    have hz : ((0 : Nat) != 0).toNat = 0 := rfl
    rw [hz, Nat.add_zero]
    refine near_exact _ (K := up (rung d) + t + 1) hk (by omega) ?_
    rw [show (-1074 + (up (rung x) : Int) - (-1074 + (up (rung d) : Int)) - (t : Int) - 1 + 1074 + ((up (rung d) + t + 1 : Nat) : Int)).toNat = up (rung x) + E by omega, hv]
    rw [show 2 * (M * 2 ^ e) * 2 ^ (up (rung x) + E) = M * (2 ^ 1 * 2 ^ e * 2 ^ (up (rung x) + E)) by generalize 2 ^ e = A; generalize 2 ^ (up (rung x) + E) = B; rw [Nat.pow_one]; ac_rfl]
    rw [Nat.mul_assoc M, ← Nat.pow_add, ← Nat.pow_add, ← Nat.pow_add, show 1 + e + (up (rung x) + E) = u + (up (rung d) + t + 1) by omega]
end Go.Proofs.Ytclldmdhpojciaa

namespace Go.Proofs.Ytclldmdhpojciaa
open Go.RowKit

/-- x is the whole number X (E: 1074). -/
def Wz (E x : Nat) (X : Int) : Prop := Fin' x ∧ vZ x = X * 2 ^ E
theorem ladder_ex {n E : Nat} (hE : E = 1074) (hn : n < 9007199254740992) : ∃ k, k < 9218868437227405312 ∧ val k = n * 2 ^ E := by
  by_cases h0 : n = 0
  · exact ⟨0, by omega, by rw [h0, val_zero, Nat.zero_mul]⟩
  · obtain ⟨l, hl⟩ : ∃ l, n.log2 = l := ⟨_, rfl⟩
    have hl2 : l ≤ 52 := by
      have := (Nat.log2_lt h0).2 (show n < 2 ^ 53 by omega)
      omega
    have l1 : 2 ^ l ≤ n := by rw [← hl]; exact Nat.log2_self_le h0
    have l2 : n < 2 ^ (l + 1) := by rw [← hl]; exact Nat.lt_log2_self
    obtain ⟨M, hM⟩ : ∃ M, n * 2 ^ (52 - l) = M := ⟨_, rfl⟩
    have m1 : 4503599627370496 ≤ M := by
      rw [← hM]
      have : 2 ^ l * 2 ^ (52 - l) ≤ n * 2 ^ (52 - l) := Nat.mul_le_mul_right _ l1
      rw [← Nat.pow_add, show l + (52 - l) = 52 by omega] at this
      exact this
    have m2 : M < 9007199254740992 := by
      rw [← hM]
      have : n * 2 ^ (52 - l) < 2 ^ (l + 1) * 2 ^ (52 - l) := Nat.mul_lt_mul_of_pos_right l2 (Nat.two_pow_pos _)
      rw [← Nat.pow_add, show l + 1 + (52 - l) = 53 by omega] at this
      exact this
    refine ⟨(E + l - 52) * 4503599627370496 + M, by omega, ?_⟩
    unfold val
    rw [if_neg (by omega)]
    have q1 : ((E + l - 52) * 4503599627370496 + M) % 4503599627370496 = M - 4503599627370496 := by omega
    have q2 : ((E + l - 52) * 4503599627370496 + M) / 4503599627370496 - 1 = E + l - 52 := by omega
    rw [q1, q2, show 4503599627370496 + (M - 4503599627370496) = M by omega, ← hM, Nat.mul_assoc, ← Nat.pow_add, show 52 - l + (E + l - 52) = E by omega]
theorem natAbs_pw (X : Int) (E : Nat) : (X * 2 ^ E).natAbs = X.natAbs * 2 ^ E := by
  rw [Int.natAbs_mul, Int.natAbs_pow]; rfl
theorem Wz.abs {E x : Nat} {X : Int} (h : Wz E x X) : val (rung x) = X.natAbs * 2 ^ E := by
  rw [← vZ_abs, h.2, natAbs_pw]
theorem wz_add {E x y : Nat} {X Y : Int} (hE : E = 1074) (h : Wz E x X) (g : Wz E y Y) (hb : (X + Y).natAbs < 9007199254740992) : ∃ r, floatBits .add .f64 x y = some r ∧ Wz E r (X + Y) := by
  obtain ⟨k, k1, k2⟩ := ladder_ex hE hb
  have e : vZ x + vZ y = (X + Y) * 2 ^ E := by rw [h.2, g.2, Int.add_mul]
  obtain ⟨r, r1, r2, r3⟩ := add_ex h.1 g.1 k1 (by rw [e, natAbs_pw, k2])
  exact ⟨r, r1, r2, by rw [r3, e]⟩
theorem vZ_ng {y : Nat} (h : Fin' y) : Fin' (negW y) ∧ vZ (negW y) = -vZ y := by
  obtain ⟨n1, n2⟩ := neg_rung h.1
  refine ⟨⟨negW_lt h.1, by rw [n1]; exact h.2⟩, ?_⟩
  unfold vZ
  rw [n1, n2]
  cases sgn y <;> simp
theorem wz_sub {E x y : Nat} {X Y : Int} (hE : E = 1074) (h : Wz E x X) (g : Wz E y Y) (hb : (X - Y).natAbs < 9007199254740992) : ∃ r, floatBits .sub .f64 x y = some r ∧ Wz E r (X - Y) := by
  have e : floatBits .sub .f64 x y = floatBits .add .f64 x (negW y) := by rw [(fbits_map x y).2.1, (fbits_map x (negW y)).1, neg_read g.1.1]
  rw [e]
  obtain ⟨n1, n2⟩ := vZ_ng g.1
  exact wz_add hE h ⟨n1, by rw [n2, g.2, Int.neg_mul]⟩ hb
theorem sgn_mulZ {E x y r : Nat} {X Y Z : Int} (hE : 0 < (2 : Int) ^ E) (hr : Fin' r) (h : vZ x = X * 2 ^ E) (g : vZ y = Y * 2 ^ E) (hv : val (rung r) = Z.natAbs * 2 ^ E) (hs : sgn r = (sgn x ^^ sgn y)) (hz : (Z = 0) ∨ (X ≠ 0 ∧ Y ≠ 0 ∧ decide (Z < 0) = (decide (X < 0) ^^ decide (Y < 0)))) : Wz E r Z := by
  refine ⟨hr, ?_⟩
  have hv' : (val (rung r) : Int) = (Z.natAbs : Int) * 2 ^ E := by rw [hv]; push_cast; rfl
  rcases hz with h0 | ⟨x0, y0, hd⟩
  · subst h0
    unfold vZ
    rw [hv']
    simp
  · have sx : sgn x = decide (X < 0) := by
      rw [vZ_neg (by rw [h]; exact Int.mul_ne_zero x0 (by omega)), h]
      by_cases c : X < 0
      · rw [decide_eq_true c, decide_eq_true (Int.mul_neg_of_neg_of_pos c hE)]
      · rw [decide_eq_false c, decide_eq_false (by have := Int.mul_nonneg (show 0 ≤ X by omega) (Int.le_of_lt hE); omega)]
    have sy : sgn y = decide (Y < 0) := by
      rw [vZ_neg (by rw [g]; exact Int.mul_ne_zero y0 (by omega)), g]
      by_cases c : Y < 0
      · rw [decide_eq_true c, decide_eq_true (Int.mul_neg_of_neg_of_pos c hE)]
      · rw [decide_eq_false c, decide_eq_false (by have := Int.mul_nonneg (show 0 ≤ Y by omega) (Int.le_of_lt hE); omega)]
    unfold vZ
    rw [hs, sx, sy, ← hd, hv']
    by_cases c : Z < 0
    · rw [decide_eq_true c, if_pos rfl, ← Int.neg_mul]; congr 1; omega
    · rw [decide_eq_false c]
      simp only [Bool.false_eq_true, if_false]
      congr 1
      omega
theorem sign_mul {X Y : Int} (hx : X ≠ 0) (hy : Y ≠ 0) : decide (X * Y < 0) = (decide (X < 0) ^^ decide (Y < 0)) := by
  by_cases p : X < 0
  · by_cases q : Y < 0
    · rw [decide_eq_true p, decide_eq_true q, decide_eq_false (by have := Int.mul_pos_of_neg_of_neg p q; omega)]; rfl
    · rw [decide_eq_true p, decide_eq_false q, decide_eq_true (Int.mul_neg_of_neg_of_pos p (by omega))]; rfl
  · by_cases q : Y < 0
    · rw [decide_eq_false p, decide_eq_true q, decide_eq_true (Int.mul_neg_of_pos_of_neg (by omega) q)]; rfl
    · rw [decide_eq_false p, decide_eq_false q, decide_eq_false (by have := Int.mul_pos (show 0 < X by omega) (show 0 < Y by omega); omega)]; rfl
theorem pw_posZ (E : Nat) : (0 : Int) < 2 ^ E := Int.pow_pos (by omega)
theorem wz_mul {E x y : Nat} {X Y : Int} (hE : E = 1074) (h : Wz E x X) (g : Wz E y Y) (hb : (X * Y).natAbs < 9007199254740992) : ∃ r, floatBits .mul .f64 x y = some r ∧ Wz E r (X * Y) := by
  obtain ⟨k, k1, k2⟩ := ladder_ex hE hb
  obtain ⟨r, r1, r2, r3, r4⟩ := mul_ex hE h.1 g.1 k1 (by
    rw [h.abs, g.abs, k2, Int.natAbs_mul]
    generalize 2 ^ E = A
    ac_rfl)
  refine ⟨r, r1, sgn_mulZ (pw_posZ E) r2 h.2 g.2 (by rw [r3, k2]) r4 ?_⟩
  by_cases x0 : X = 0
  · left; rw [x0, Int.zero_mul]
  · by_cases y0 : Y = 0
    · left; rw [y0, Int.mul_zero]
    · exact Or.inr ⟨x0, y0, sign_mul x0 y0⟩
theorem wz_quo {E b d : Nat} {D Y : Int} (hE : E = 1074) (h : Wz E b (D * Y)) (g : Wz E d D) (hD : D ≠ 0) (hb : Y.natAbs < 9007199254740992) : ∃ r, floatBits .quo .f64 b d = some r ∧ Wz E r Y := by
  obtain ⟨k, k1, k2⟩ := ladder_ex hE hb
  have hd0 : rung d ≠ 0 := fun e => by
    have := g.abs
    rw [e, val_zero] at this
    rcases Nat.mul_eq_zero.1 this.symm with c | c
    · exact hD (by omega)
    · have := Nat.two_pow_pos E; omega
  obtain ⟨r, r1, r2, r3, r4⟩ := quo_ex hE h.1 g.1 hd0 k1 (by
    rw [h.abs, g.abs, k2, Int.natAbs_mul]
    generalize 2 ^ E = A
    ac_rfl)
  refine ⟨r, r1, sgn_mulZ (pw_posZ E) r2 h.2 g.2 (by rw [r3, k2]) r4 ?_⟩
  by_cases y0 : Y = 0
  · exact Or.inl y0
  · right
    refine ⟨Int.mul_ne_zero hD y0, hD, ?_⟩
    rw [sign_mul hD y0]
    cases decide (D < 0) <;> cases decide (Y < 0) <;> rfl
/-- An option that is a whole number. -/
def Wo (E : Nat) (o : Option Nat) (X : Int) : Prop := ∃ x, o = some x ∧ Wz E x X
/-- The sum of the first n. -/
def smZ (f : Nat → Int) : Nat → Int
  | 0 => 0
  | n + 1 => smZ f n + f n
theorem smZ_bd {f : Nat → Int} {n C : Nat} (h : ∀ k, k < n → (f k).natAbs ≤ C) : (smZ f n).natAbs ≤ n * C := by
  induction n with
  | zero => simp [smZ]
  | succ n ih =>
    have h1 := ih (fun k hk => h k (by omega))
    have h2 := h n (by omega)
    rw [smZ, Nat.succ_mul]
    omega
theorem wo_les {E : Nat} {s : Option Nat} {S : Int} {a b : Nat → Option Nat} {A B : Nat → Int} {n C : Nat} (hE : E = 1074) (hs : Wo E s S) (ha : ∀ k, k < n → Wo E (a k) (A k)) (hb : ∀ k, k < n → Wo E (b k) (B k)) (hC : ∀ k, k < n → (A k * B k).natAbs ≤ C) (hS : S.natAbs + n * C < 9007199254740992) : Wo E (lesO s a b n) (S - smZ (fun k => A k * B k) n) := by
  induction n with
  | zero => simpa [smZ, lesO] using hs
  | succ n ih =>
    have hS' : S.natAbs + n * C + C < 9007199254740992 := by rw [Nat.succ_mul] at hS; omega
    obtain ⟨t, t1, t2⟩ := ih (fun k hk => ha k (by omega)) (fun k hk => hb k (by omega)) (fun k hk => hC k (by omega)) (by omega)
    obtain ⟨x, x1, x2⟩ := ha n (by omega)
    obtain ⟨y, y1, y2⟩ := hb n (by omega)
    have hn := hC n (by omega)
    obtain ⟨p, p1, p2⟩ := wz_mul hE x2 y2 (by omega)
    have hbd := smZ_bd (f := fun k => A k * B k) (n := n) (C := C) (fun k hk => hC k (by omega))
    obtain ⟨r, r1, r2⟩ := wz_sub hE t2 p2 (by omega)
    refine ⟨r, ?_, ?_⟩
    · rw [lesO, t1, x1, y1]
      show opO .sub (some t) (floatBits .mul .f64 x y) = _
      rw [p1]
      exact r1
    · have e : S - smZ (fun k => A k * B k) (n + 1) = S - smZ (fun k => A k * B k) n - A n * B n := by rw [smZ]; omega
      rw [e]
      exact r2
/-- Forward is exact. -/
theorem wo_fw {E N C : Nat} {f : Nat → Nat → Nat} {L : Nat → Nat → Int} {b : Nat → Option Nat} {Y : Nat → Int} (hE : E = 1074) (hL : ∀ i k, k < i → i < N → Wo E (toO (f i k)) (L i k)) (hC : ∀ i k, k < i → i < N → (L i k * Y k).natAbs ≤ C) (hY : ∀ i, i < N → (Y i).natAbs ≤ C) (hb : ∀ i, i < N → Wo E (b i) (Y i + smZ (fun k => L i k * Y k) i)) (hN : (2 * N + 1) * C < 9007199254740992) : ∀ i, i < N → Wo E (fwO f b i) (Y i) := by
  intro i
  induction i using Nat.strongRecOn with
  | _ i ih =>
    intro hi
    rw [fwO_eq]
    have hs := smZ_bd (f := fun k => L i k * Y k) (n := i) (C := C) (fun k hk => hC i k hk hi)
    have hy := hY i hi
    have h1 : i * C ≤ N * C := Nat.mul_le_mul_right _ (by omega)
    have h2 : (2 * N + 1) * C = N * C + N * C + C := by rw [Nat.add_mul, Nat.one_mul, Nat.mul_assoc, Nat.two_mul]
    have := wo_les (n := i) (C := C) hE (hb i hi) (fun k hk => hL i k hk hi) (fun k hk => ih k hk (by omega)) (fun k hk => hC i k hk hi) (by omega)
    have e : Y i + smZ (fun k => L i k * Y k) i - smZ (fun k => L i k * Y k) i = Y i := by omega
    rw [e] at this
    exact this
/-- Back is exact. -/
theorem wo_bk {E N C : Nat} {f : Nat → Nat → Nat} {L : Nat → Nat → Int} {z : Nat → Option Nat} {X : Nat → Int} (hE : E = 1074) (hL : ∀ i k, k < i → i < N → Wo E (toO (f i k)) (L i k)) (hC : ∀ i k, k < i → i < N → (L i k * X i).natAbs ≤ C) (hX : ∀ i, i < N → (X i).natAbs ≤ C) (hz : ∀ i m, i + m + 1 = N → Wo E (z i) (X i + smZ (fun s => L (i + 1 + s) i * X (i + 1 + s)) m)) (hN : (2 * N + 1) * C < 9007199254740992) : ∀ m i, i + m + 1 = N → Wo E (bkO f z N i) (X i) := by
  intro m
  induction m using Nat.strongRecOn with
  | _ m ih =>
    intro i hi
    rw [bkO_eq hi]
    have hs := smZ_bd (f := fun s => L (i + 1 + s) i * X (i + 1 + s)) (n := m) (C := C) (fun s hs => hC (i + 1 + s) i (by omega) (by omega))
    have hy := hX i (by omega)
    have h1 : m * C ≤ N * C := Nat.mul_le_mul_right _ (by omega)
    have h2 : (2 * N + 1) * C = N * C + N * C + C := by rw [Nat.add_mul, Nat.one_mul, Nat.mul_assoc, Nat.two_mul]
    have := wo_les (n := m) (C := C) hE (hz i m hi) (fun s hs => hL (i + 1 + s) i (by omega) (by omega)) (fun s hs => ih (N - (i + 1 + s) - 1) (by omega) _ (by omega)) (fun s hs => hC (i + 1 + s) i (by omega) (by omega)) (by omega)
    have e : X i + smZ (fun s => L (i + 1 + s) i * X (i + 1 + s)) m - smZ (fun s => L (i + 1 + s) i * X (i + 1 + s)) m = X i := by omega
    rw [e] at this
    exact this
end Go.Proofs.Ytclldmdhpojciaa

namespace Go.Proofs.Ytclldmdhpojciaa
open Go.RowKit

/-- An entry of L, its diagonal of 1 and what is above told too. -/
def enL (L : Nat → Nat → Int) (i k : Nat) : Int := if i = k then 1 else if i < k then 0 else L i k
theorem enL_at {L : Nat → Nat → Int} {i k : Nat} (h : k < i) : enL L i k = L i k := by unfold enL; rw [if_neg (by omega), if_neg (by omega)]
theorem enL_one (L : Nat → Nat → Int) (i : Nat) : enL L i i = 1 := by unfold enL; rw [if_pos rfl]
theorem enL_no {L : Nat → Nat → Int} {i k : Nat} (h : i < k) : enL L i k = 0 := by unfold enL; rw [if_neg (by omega), if_pos h]
/-- L turned over, times X. -/
def tuZ (L : Nat → Nat → Int) (X : Nat → Int) (N i : Nat) : Int := smZ (fun k => enL L k i * X k) N
/-- L times D times T. -/
def ldZ (L : Nat → Nat → Int) (D T : Nat → Int) (N i : Nat) : Int := smZ (fun k => enL L i k * D k * T k) N
theorem smZ_congr {f g : Nat → Int} {n : Nat} (h : ∀ k, k < n → f k = g k) : smZ f n = smZ g n := by
  induction n with
  | zero => rfl
  | succ n ih => rw [smZ, smZ, ih (fun k hk => h k (by omega)), h n (by omega)]
theorem smZ_none {f : Nat → Int} {n : Nat} (h : ∀ k, k < n → f k = 0) : smZ f n = 0 := by
  induction n with
  | zero => rfl
  | succ n ih => rw [smZ, ih (fun k hk => h k (by omega)), h n (by omega)]; rfl
theorem smZ_part (f : Nat → Int) (n m : Nat) : smZ f (n + m) = smZ f n + smZ (fun s => f (n + s)) m := by
  induction m with
  | zero => simp [smZ]
  | succ m ih => rw [← Nat.add_assoc, smZ, ih, smZ]; omega
theorem smZ_at (f : Nat → Int) {i m N : Nat} (h : i + m + 1 = N) : smZ f N = smZ f i + f i + smZ (fun s => f (i + 1 + s)) m := by
  rw [← h, show i + m + 1 = i + 1 + m by omega, smZ_part, smZ]
theorem smZ_only {f : Nat → Int} {j N : Nat} (hj : j < N) (h : ∀ k, k < N → k ≠ j → f k = 0) : smZ f N = f j := by
  rw [smZ_at f (i := j) (m := N - j - 1) (by omega), smZ_none (fun k hk => h k (by omega) (by omega)), smZ_none (fun s hs => h (j + 1 + s) (by omega) (by omega))]
  omega
theorem tuZ_at {L : Nat → Nat → Int} {X : Nat → Int} {N i m : Nat} (h : i + m + 1 = N) : tuZ L X N i = X i + smZ (fun s => L (i + 1 + s) i * X (i + 1 + s)) m := by
  unfold tuZ
  rw [smZ_at _ h, smZ_none (fun k hk => by rw [enL_no hk, Int.zero_mul]), enL_one, Int.one_mul, Int.zero_add]
  congr 1
  exact smZ_congr (fun s _ => by rw [enL_at (by omega)])
theorem ldZ_at {L : Nat → Nat → Int} {D T : Nat → Int} {N i : Nat} (h : i < N) : ldZ L D T N i = D i * T i + smZ (fun k => L i k * (D k * T k)) i := by
  unfold ldZ
  rw [smZ_at _ (i := i) (m := N - i - 1) (by omega), smZ_none (n := N - i - 1) (fun s _ => by rw [enL_no (by omega), Int.zero_mul, Int.zero_mul]), enL_one, Int.one_mul, smZ_congr (g := fun k => L i k * (D k * T k)) (fun k hk => by rw [enL_at hk, Int.mul_assoc])]
  omega
/-- The unit's numbers. -/
def unZ (j k : Nat) : Int := if k = j then 1 else 0
theorem tuZ_unit {L : Nat → Nat → Int} {N i j : Nat} (hj : j < N) : tuZ L (unZ j) N i = enL L j i := by
  unfold tuZ
  rw [smZ_only hj (fun k _ hk => by unfold unZ; rw [if_neg hk, Int.mul_zero])]
  unfold unZ
  rw [if_pos rfl, Int.mul_one]
theorem mul_abs {A B : Int} {a b : Nat} (h : A.natAbs ≤ a) (g : B.natAbs ≤ b) : (A * B).natAbs ≤ a * b := by
  rw [Int.natAbs_mul]; exact Nat.mul_le_mul h g
theorem tuZ_bd {L : Nat → Nat → Int} {X : Nat → Int} {N i : Nat} (hN : N ≤ 48) (hi : i < N) (hL : ∀ i k, k < i → i < N → (L i k).natAbs ≤ 3) (hX : ∀ i, i < N → (X i).natAbs ≤ 50) : (tuZ L X N i).natAbs ≤ 7250 := by
  rw [tuZ_at (m := N - i - 1) (by omega)]
  have h1 := smZ_bd (f := fun s => L (i + 1 + s) i * X (i + 1 + s)) (n := N - i - 1) (C := 150) (fun s hs => mul_abs (hL _ _ (by omega) (by omega)) (hX _ (by omega)))
  have h2 := hX i hi
  omega
/-- Solve of whole numbers. -/
theorem wo_sl {E N : Nat} {ls ds : List Nat} {L : Nat → Nat → Int} {D X : Nat → Int} {b : Nat → Option Nat} (hE : E = 1074) (hN : N ≤ 48) (hL : ∀ i k, k < i → i < N → Wo E (toO (lsF ls i k)) (L i k)) (bL : ∀ i k, k < i → i < N → (L i k).natAbs ≤ 3) (hD : ∀ i, i < N → Wo E (toO (dsF ds i)) (D i)) (bD : ∀ i, i < N → (D i).natAbs ≤ 50) (nD : ∀ i, i < N → D i ≠ 0) (bX : ∀ i, i < N → (X i).natAbs ≤ 50) (hb : ∀ i, i < N → Wo E (b i) (ldZ L D (tuZ L X N) N i)) : (∀ i, i < N → Wo E (fwO (lsF ls) b i) (D i * tuZ L X N i)) ∧ (∀ i, i < N → Wo E (slO ls ds N b i) (X i)) := by
  have bT : ∀ i, i < N → (tuZ L X N i).natAbs ≤ 7250 := fun i hi => tuZ_bd hN hi bL bX
  have bY : ∀ i, i < N → (D i * tuZ L X N i).natAbs ≤ 362500 := fun i hi => mul_abs (bD i hi) (bT i hi)
  have hf : ∀ i, i < N → Wo E (fwO (lsF ls) b i) (D i * tuZ L X N i) := wo_fw (Y := fun i => D i * tuZ L X N i) (C := 1087500) hE hL (fun i k hk hi => mul_abs (bL i k hk hi) (bY k (by omega))) (fun i hi => Nat.le_trans (bY i hi) (by omega)) (fun i hi => by rw [← ldZ_at hi]; exact hb i hi) (by omega)
  refine ⟨hf, fun i hi => ?_⟩
  refine wo_bk (C := 150) hE hL (fun i k hk hi => mul_abs (bL i k hk hi) (bX i hi)) (fun i hi => Nat.le_trans (bX i hi) (by omega)) ?_ (by omega) (N - i - 1) i (by omega)
  intro i m h
  rw [← tuZ_at h]
  obtain ⟨y, y1, y2⟩ := hf i (by omega)
  obtain ⟨d, d1, d2⟩ := hD i (by omega)
  obtain ⟨r, r1, r2⟩ := wz_quo hE y2 d2 (nD i (by omega)) (by have := bT i (by omega); omega)
  refine ⟨r, ?_, r2⟩
  unfold qoO
  rw [y1, d1]
  exact r1
end Go.Proofs.Ytclldmdhpojciaa
