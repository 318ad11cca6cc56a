/- Floats that are whole numbers of units, plain, straight off the model's own data: sums, differences, products, quotients that are exact. -/
import Derived.Test.YtekejddblgkcgaaDoorSy
namespace Go.Proofs.YtekejddblgkcgaaDoor
open Go.RowKit

theorem mg_form {k : Nat} (h0 : k ≠ 0) : mg k < 9007199254740992 ∧ mg k ≠ 0 ∧ (up k = 0 ∨ 4503599627370496 ≤ mg k) ∧ up k * 4503599627370496 + mg k = k := by
  unfold mg up
  split
  · exact ⟨by omega, h0, Or.inl rfl, by omega⟩
  · exact ⟨by omega, by omega, Or.inr (by omega), by omega⟩
/-- What is a float is told as it is. -/
theorem near_exact (s : Bool) {m k K : Nat} {p : Int} (hk : k < 9218868437227405312) (hK : 0 ≤ p + 1074 + (K : Int)) (h : m * 2 ^ (p + 1074 + (K : Int)).toNat = val k * 2 ^ K) : Ieee.double.nearest s m p = Ieee.double.word s k := by
  obtain ⟨a, ha⟩ : ∃ a : Nat, (p + 1074 + (K : Int)).toNat = a := ⟨_, rfl⟩
  have hpa : p + 1074 + (K : Int) = (a : Int) := by omega
  rw [ha] at h
  by_cases h0 : k = 0
  · subst h0
    rw [val_zero, Nat.zero_mul] at h
    have hm : m = 0 := (Nat.mul_eq_zero.1 h).resolve_right (by have := Nat.two_pow_pos a; omega)
    unfold Ieee.Format.nearest
    rw [if_pos hm]
  · obtain ⟨h1, h2, h3, h4⟩ := mg_form h0
    have e := nearest_val s m p (mg k) (up k) h1 h2 h3
    rw [h4, Nat.min_eq_left (by omega)] at e
    refine e ?_
    rw [← mg_up k, Nat.mul_assoc, ← Nat.pow_add] at h
    by_cases c : up k + K ≤ a
    · left
      refine ⟨a - (up k + K), by omega, ?_⟩
      have e1 : a = (a - (up k + K)) + (up k + K) := by omega
      rw [e1, Nat.pow_add, ← Nat.mul_assoc] at h
      exact Nat.eq_of_mul_eq_mul_right (Nat.two_pow_pos _) h
    · right
      refine ⟨up k + K - a, by omega, ?_⟩
      have e1 : up k + K = (up k + K - a) + a := by omega
      rw [e1, Nat.pow_add, ← Nat.mul_assoc] at h
      exact Nat.eq_of_mul_eq_mul_right (Nat.two_pow_pos _) h
/-- A finite float's number, in units of 2^-1074. -/
def vZ (x : Nat) : Int := if sgn x then -(val (rung x) : Int) else (val (rung x) : Int)
def Fin' (x : Nat) : Prop := x < 18446744073709551616 ∧ rung x < 9218868437227405312
theorem read_f {x : Nat} (h : Fin' x) : Ieee.double.read x = .number (sgn x) (mg (rung x)) (-1074 + (up (rung x) : Int)) := by
  rw [read_eq x h.1, if_pos h.2]
theorem vZ_abs (x : Nat) : (vZ x).natAbs = val (rung x) := by
  unfold vZ
  split <;> simp
theorem vZ_neg {x : Nat} (h : vZ x ≠ 0) : sgn x = decide (vZ x < 0) := by
  unfold vZ at h ⊢
  cases hs : sgn x
  · simp
  · simp [hs] at h ⊢; omega
theorem word_eqZ (s : Bool) {r : Nat} (hr : r < 9223372036854775808) : Ieee.double.word s r < 18446744073709551616 ∧ rung (Ieee.double.word s r) = r ∧ sgn (Ieee.double.word s r) = s := by
  have e : Ieee.double.word s r = if s then 9223372036854775808 + r else r := by
    unfold Ieee.Format.word
    rw [show Ieee.double.signWeight = 9223372036854775808 by decide]
  rw [e]
  unfold rung sgn
  cases s
  · simp only [Bool.false_eq_true, if_false]
    exact ⟨by omega, by omega, decide_eq_false (by omega)⟩
  · simp only [if_true]
    exact ⟨by omega, by omega, decide_eq_true (by omega)⟩
theorem vZ_word (s : Bool) {r : Nat} (hr : r < 9218868437227405312) : Fin' (Ieee.double.word s r) ∧ vZ (Ieee.double.word s r) = if s then -(val r : Int) else (val r : Int) := by
  obtain ⟨h1, h2, h3⟩ := word_eqZ s (show r < 9223372036854775808 by omega)
  refine ⟨⟨h1, by rw [h2]; exact hr⟩, ?_⟩
  unfold vZ
  rw [h2, h3]
theorem signed_vZ (x : Nat) (b : Nat) (hb : b ≤ up (rung x)) : Ieee.signed (sgn x) (mg (rung x)) (up (rung x) - b) * 2 ^ b = vZ x := by
  have e : mg (rung x) * 2 ^ (up (rung x) - b) * 2 ^ b = val (rung x) := by
    rw [Nat.mul_assoc, ← Nat.pow_add, show up (rung x) - b + b = up (rung x) by omega, mg_up]
  have e' : ((mg (rung x) * 2 ^ (up (rung x) - b) : Nat) : Int) * 2 ^ b = (val (rung x) : Int) := by
    rw [← e]; push_cast; rfl
  unfold Ieee.signed vZ
  rw [Nat.shiftLeft_eq]
  cases sgn x
  · simp only [Bool.false_eq_true, if_false]; exact e'
  · simp only [if_true]; rw [Int.neg_mul, e']
/-- A sum that is a float. -/
theorem add_ex {x y k : Nat} (hx : Fin' x) (hy : Fin' y) (hk : k < 9218868437227405312) (h : (vZ x + vZ y).natAbs = val k) : ∃ r, floatBits .add .f64 x y = some r ∧ Fin' r ∧ vZ r = vZ x + vZ y := by
  rw [(fbits_map x y).1, read_f hx, read_f hy]
  obtain ⟨b, hb⟩ : ∃ b, min (up (rung x)) (up (rung y)) = b := ⟨_, rfl⟩
  have hmin : min (-1074 + (up (rung x) : Int)) (-1074 + (up (rung y) : Int)) = -1074 + (b : Int) := by omega
  have s1 := signed_vZ x b (by omega)
  have s2 := signed_vZ y b (by omega)
  have e1 : (-1074 + (up (rung x) : Int) - (-1074 + (b : Int))).toNat = up (rung x) - b := by omega
  have e2 : (-1074 + (up (rung y) : Int) - (-1074 + (b : Int))).toNat = up (rung y) - b := by omega
  simp only [Ieee.Datum.sum, hmin, e1, e2, Option.map_some]
  obtain ⟨T, hT⟩ : ∃ T, Ieee.signed (sgn x) (mg (rung x)) (up (rung x) - b) + Ieee.signed (sgn y) (mg (rung y)) (up (rung y) - b) = T := ⟨_, rfl⟩
  have hs : T * 2 ^ b = vZ x + vZ y := by rw [← hT, Int.add_mul, s1, s2]
  rw [hT]
  have ha : T.natAbs * 2 ^ b = val k := by
    rw [← h, ← hs, Int.natAbs_mul, Int.natAbs_pow]
    rfl
  have hn : ∀ s, Ieee.double.nearest s T.natAbs (-1074 + (b : Int)) = Ieee.double.word s k := fun s => near_exact s (K := 0) hk (by omega) (by
    rw [show (-1074 + (b : Int) + 1074 + ((0 : Nat) : Int)).toNat = b by omega, ha]; simp)
  refine ⟨_, rfl, ?_⟩
  show Fin' (Ieee.double.nearest _ _ _) ∧ vZ (Ieee.double.nearest _ _ _) = _
  rw [hn]
  obtain ⟨w1, w2⟩ := vZ_word (if T = 0 then (sgn x && sgn y) else decide (T < 0)) hk
  refine ⟨w1, ?_⟩
  rw [w2, ← hs]
  have hp : (0 : Int) < 2 ^ b := Int.pow_pos (by omega)
  have hk' : (val k : Int) = (T.natAbs : Int) * 2 ^ b := by rw [← ha]; push_cast; rfl
  by_cases h0 : T = 0
  · rw [hk', h0]; simp
  · rw [if_neg h0, hk']
    by_cases c : T < 0
    · rw [decide_eq_true c, if_pos rfl, ← Int.neg_mul]
      congr 1
      omega
    · rw [decide_eq_false c]
      simp only [Bool.false_eq_true, if_false]
      congr 1
      omega
/-- A product that is a float. -/
theorem mul_ex {x y k E : Nat} (hE : E = 1074) (hx : Fin' x) (hy : Fin' y) (hk : k < 9218868437227405312) (h : val (rung x) * val (rung y) = val k * 2 ^ E) : ∃ r, floatBits .mul .f64 x y = some r ∧ Fin' r ∧ rung r = k ∧ sgn r = (sgn x ^^ sgn y) := by
  rw [(fbits_map x y).2.2.1, read_f hx, read_f hy]
  simp only [Ieee.Datum.product, Option.map_some]
  refine ⟨_, rfl, ?_⟩
  show Fin' (Ieee.double.nearest _ _ _) ∧ rung (Ieee.double.nearest _ _ _) = k ∧ sgn (Ieee.double.nearest _ _ _) = _
  rw [near_exact (sgn x ^^ sgn y) (K := E) hk (by omega) (by
    rw [show (-1074 + (up (rung x) : Int) + (-1074 + (up (rung y) : Int)) + 1074 + ((E : Nat) : Int)).toNat = up (rung x) + up (rung y) by omega, ← h, ← mg_up (rung x), ← mg_up (rung y), Nat.pow_add]
    generalize 2 ^ up (rung x) = A
    generalize 2 ^ up (rung y) = B
    ac_rfl)]
  obtain ⟨w1, w2, w3⟩ := word_eqZ (sgn x ^^ sgn y) (show k < 9223372036854775808 by omega)
  exact ⟨⟨w1, by rw [w2]; exact hk⟩, w2, w3⟩
/-- The dividend, with as many noughts behind it as the model takes, is a multiple. -/
theorem quo_core {m n M a b : Nat} (hm : m ≠ 0) (hM : M < 9007199254740992) (h : m * 2 ^ a = M * n * 2 ^ b) : ∃ e, m * 2 ^ (54 + n.log2 - m.log2) = M * 2 ^ e * n ∧ b + (54 + n.log2 - m.log2) = a + e := by
  obtain ⟨t, ht⟩ : ∃ t, 54 + n.log2 - m.log2 = t := ⟨_, rfl⟩
  rw [ht]
  have h2 : m * 2 ^ t * 2 ^ a = M * n * 2 ^ (b + t) := by
    rw [Nat.pow_add, ← Nat.mul_assoc, ← h]
    generalize 2 ^ t = A
    generalize 2 ^ a = B
    ac_rfl
  by_cases c : a ≤ b + t
  · refine ⟨b + t - a, ?_, by omega⟩
    rw [show b + t = (b + t - a) + a by omega, Nat.pow_add, ← Nat.mul_assoc] at h2
    have := Nat.eq_of_mul_eq_mul_right (Nat.two_pow_pos a) h2
    rw [this]
    generalize 2 ^ (b + t - a) = A
    ac_rfl
  · exfalso
    rw [show a = (a - (b + t)) + (b + t) by omega, Nat.pow_add, ← Nat.mul_assoc] at h2
    have h3 := Nat.eq_of_mul_eq_mul_right (Nat.two_pow_pos (b + t)) h2
    have l1 : 2 ^ m.log2 ≤ m := Nat.log2_self_le hm
    have l2 : n < 2 ^ (n.log2 + 1) := Nat.lt_log2_self
    have l3 : 2 ^ (m.log2 + t) ≤ m * 2 ^ t := by rw [Nat.pow_add]; exact Nat.mul_le_mul_right _ l1
    have l4 : 2 ^ (54 + n.log2) ≤ 2 ^ (m.log2 + t) := Nat.pow_le_pow_right (by omega) (by omega)
    have l5 : 2 ^ (54 + n.log2) = 9007199254740992 * 2 ^ (n.log2 + 1) := by
      rw [show 54 + n.log2 = 53 + (n.log2 + 1) by omega, Nat.pow_add]
    have l6 : m * 2 ^ t * 1 ≤ m * 2 ^ t * 2 ^ (a - (b + t)) := Nat.mul_le_mul_left _ (Nat.two_pow_pos _)
    have l7 : M * n ≤ 9007199254740992 * n := Nat.mul_le_mul_right _ (by omega)
    have l8 : 9007199254740992 * n < 9007199254740992 * 2 ^ (n.log2 + 1) := Nat.mul_lt_mul_of_pos_left l2 (by omega)
    omega
/-- A quotient that is a float. -/
theorem quo_ex {x d k E : Nat} (hE : E = 1074) (hx : Fin' x) (hd : Fin' d) (hd0 : rung d ≠ 0) (hk : k < 9218868437227405312) (h : val (rung x) * 2 ^ E = val k * val (rung d)) : ∃ r, floatBits .quo .f64 x d = some r ∧ Fin' r ∧ rung r = k ∧ sgn r = (sgn x ^^ sgn d) := by
  obtain ⟨_, n0, _, _⟩ := mg_form hd0
  rw [(fbits_map x d).2.2.2, read_f hx, read_f hd]
  simp only [Ieee.Datum.quotient]
  rw [if_neg n0]
  simp only [Option.map_some]
  refine ⟨_, rfl, ?_⟩
  show Fin' (Ieee.double.nearest _ _ _) ∧ rung (Ieee.double.nearest _ _ _) = k ∧ sgn (Ieee.double.nearest _ _ _) = _
  have hfin : ∀ v : Nat, v = Ieee.double.word (sgn x ^^ sgn d) k → Fin' v ∧ rung v = k ∧ sgn v = (sgn x ^^ sgn d) := fun v hv => by
    obtain ⟨w1, w2, w3⟩ := word_eqZ (sgn x ^^ sgn d) (show k < 9223372036854775808 by omega)
    rw [hv]
    exact ⟨⟨w1, by rw [w2]; exact hk⟩, w2, w3⟩
  refine hfin _ ?_
  rw [← mg_up (rung x), ← mg_up (rung d)] at h
  obtain ⟨t, ht⟩ : ∃ t, 54 + (mg (rung d)).log2 - (mg (rung x)).log2 = t := ⟨_, rfl⟩
  rw [ht, Nat.shiftLeft_eq]
  by_cases m0 : mg (rung x) = 0
  · have hv : val k = 0 := by
      rw [m0, Nat.zero_mul, Nat.zero_mul] at h
      rcases Nat.mul_eq_zero.1 h.symm with g | g
      · exact g
      · rcases Nat.mul_eq_zero.1 g with g | g
        · exact absurd g n0
        · have := Nat.two_pow_pos (up (rung d)); omega
    have hk0 : k = 0 := val_inj (by rw [hv, val_zero])
    rw [m0, Nat.zero_mul, Nat.zero_div, Nat.zero_mod, hk0]
    unfold Ieee.Format.nearest
    rfl
  · have hM : ∃ M u, val k = M * 2 ^ u ∧ M < 9007199254740992 := by
      by_cases k0 : k = 0
      · exact ⟨0, 0, by rw [k0, val_zero], by omega⟩
      · exact ⟨mg k, up k, (mg_up k).symm, (mg_form k0).1⟩
    obtain ⟨M, u, hv, hM⟩ := hM
    rw [hv] at h
    have h' : mg (rung x) * 2 ^ (up (rung x) + E) = M * mg (rung d) * 2 ^ (u + up (rung d)) := by
      rw [Nat.pow_add, Nat.pow_add, ← Nat.mul_assoc, h]
      generalize 2 ^ u = A
      generalize 2 ^ up (rung d) = B
      ac_rfl
    obtain ⟨e, e1, e2⟩ := quo_core m0 hM h'
    rw [ht] at e1 e2
    have hnp : 0 < mg (rung d) := by omega
    rw [e1, Nat.mul_div_cancel _ hnp, Nat.mul_mod_left]
    have hz : ((0 : Nat) != 0).toNat = 0 := rfl
    rw [hz, Nat.add_zero]
    refine near_exact _ (K := up (rung d) + t + 1) hk (by omega) ?_
    rw [show (-1074 + (up (rung x) : Int) - (-1074 + (up (rung d) : Int)) - (t : Int) - 1 + 1074 + ((up (rung d) + t + 1 : Nat) : Int)).toNat = up (rung x) + E by omega, hv]
    rw [show 2 * (M * 2 ^ e) * 2 ^ (up (rung x) + E) = M * (2 ^ 1 * 2 ^ e * 2 ^ (up (rung x) + E)) by generalize 2 ^ e = A; generalize 2 ^ (up (rung x) + E) = B; rw [Nat.pow_one]; ac_rfl]
    rw [Nat.mul_assoc M, ← Nat.pow_add, ← Nat.pow_add, ← Nat.pow_add, show 1 + e + (up (rung x) + E) = u + (up (rung d) + t + 1) by omega]
end Go.Proofs.YtekejddblgkcgaaDoor
