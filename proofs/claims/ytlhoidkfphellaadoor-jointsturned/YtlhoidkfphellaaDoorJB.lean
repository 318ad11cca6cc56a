/- The laws' awake of layer 18. -/
import Derived.Test.YtlhoidkfphellaaDoorWA
import Derived.Test.YtlhoidkfphellaaDoorZQ
import Derived.Test.YtlhoidkfphellaaDoorSy
import Derived.Test.YtlhoidkfphellaaDoorJA
namespace Go.Proofs.YtlhoidkfphellaaDoor
open Go.RowKit

abbrev C2 (F : Nat) (p q r : Nat × Nat) (n : Int) : Prop := ∀ w, TabW w → Calls Tryd.prog F #[spV p.1 p.2, spV q.1 q.2] w fun e w' => e = .returned (.tuple #[spV r.1 r.2, .int .i64 n]) ∧ Below w.heap.size w w'
abbrev C1 (F : Nat) (p r : Nat × Nat) (n : Int) : Prop := ∀ w, TabW w → Calls Tryd.prog F #[spV p.1 p.2] w fun e w' => e = .returned (.tuple #[spV r.1 r.2, .int .i64 n]) ∧ Below w.heap.size w w'
theorem ord_gt0 {x : Nat} (h : Fn x) : (FloatKind.f64.format.order x 0 == some .gt) = decide (0 < place x) := by
  rw [gt_num h.1 (by omega) h.2 (by decide)]; rfl
theorem ord_lt0 {x : Nat} (h : Fn x) : (FloatKind.f64.format.order x 0 == some .lt) = decide (place x < 0) := by
  rw [lt_num h.1 (by omega) h.2 (by decide)]; rfl
theorem sqrt_C {p : Nat × Nat} (h : RtP p) (h0 : 0 ≤ place p.1) : C1 34 p (sqP p) 0 := by
  have g := ord_lt0 h.fn.1
  have := h.pl.1
  exact fun w hT => ssqrt_B p.1 p.2 _ _ h.1 h.2.1 h.2.2 (by rw [g]; simpa using h0) (rsqrt_P 1 h.1 (root_ok h.fn.1 h0)).2 (rsqrt_P 2 h.2.1 (root_ok h.fn.2 (by omega))).2 w hT
theorem sqrt_C0 {p : Nat × Nat} (h : RtP p) (h0 : ¬ 0 ≤ place p.1) : C1 34 p (0, 0) 2 := by
  have g := ord_lt0 h.fn.1
  exact fun w _ => ssqrt_not p.1 p.2 h.1 h.2.1 (Or.inr (by rw [g]; simpa using h0)) w
end Go.Proofs.YtlhoidkfphellaaDoor

namespace Go.Proofs.YtlhoidkfphellaaDoor
open Go.RowKit

theorem mg_form {k : Nat} (h0 : k ≠ 0) : mg k < 9007199254740992 ∧ mg k ≠ 0 ∧ (up k = 0 ∨ 4503599627370496 ≤ mg k) ∧ up k * 4503599627370496 + mg k = k := by
  unfold mg up
  split
  · exact ⟨by omega, h0, Or.inl rfl, by omega⟩
  · exact ⟨by omega, by omega, Or.inr (by omega), by omega⟩
/-- What is a float is told as it is. -/
theorem near_exact (s : Bool) {m k K : Nat} {p : Int} (hk : k < 9218868437227405312) (hK : 0 ≤ p + 1074 + (K : Int)) (h : m * 2 ^ (p + 1074 + (K : Int)).toNat = val k * 2 ^ K) : Ieee.double.nearest s m p = Ieee.double.word s k := by
  obtain ⟨a, ha⟩ : ∃ a : Nat, (p + 1074 + (K : Int)).toNat = a := ⟨_, rfl⟩
  have hpa : p + 1074 + (K : Int) = (a : Int) := by omega
  rw [ha] at h
  by_cases h0 : k = 0
  · subst h0
    rw [val_zero, Nat.zero_mul] at h
    have hm : m = 0 := (Nat.mul_eq_zero.1 h).resolve_right (by have := Nat.two_pow_pos a; omega)
    unfold Ieee.Format.nearest
    rw [if_pos hm]
  · obtain ⟨h1, h2, h3, h4⟩ := mg_form h0
    have e := nearest_val s m p (mg k) (up k) h1 h2 h3
    rw [h4, Nat.min_eq_left (by omega)] at e
    refine e ?_
    rw [← mg_up k, Nat.mul_assoc, ← Nat.pow_add] at h
    by_cases c : up k + K ≤ a
    · left
      refine ⟨a - (up k + K), by omega, ?_⟩
      have e1 : a = (a - (up k + K)) + (up k + K) := by omega
      rw [e1, Nat.pow_add, ← Nat.mul_assoc] at h
      exact Nat.eq_of_mul_eq_mul_right (Nat.two_pow_pos _) h
    · right
      refine ⟨up k + K - a, by omega, ?_⟩
      have e1 : up k + K = (up k + K - a) + a := by omega
      rw [e1, Nat.pow_add, ← Nat.mul_assoc] at h
      exact Nat.eq_of_mul_eq_mul_right (Nat.two_pow_pos _) h
/-- A finite float's number, in units of 2^-1074. -/
def vZ (x : Nat) : Int := if sgn x then -(val (rung x) : Int) else (val (rung x) : Int)
def Fin' (x : Nat) : Prop := x < 18446744073709551616 ∧ rung x < 9218868437227405312
theorem read_f {x : Nat} (h : Fin' x) : Ieee.double.read x = .number (sgn x) (mg (rung x)) (-1074 + (up (rung x) : Int)) := by
  rw [read_eq x h.1, if_pos h.2]
theorem vZ_abs (x : Nat) : (vZ x).natAbs = val (rung x) := by
  unfold vZ
  split <;> simp
theorem vZ_neg {x : Nat} (h : vZ x ≠ 0) : sgn x = decide (vZ x < 0) := by
  unfold vZ at h ⊢
  cases hs : sgn x
  · simp
  · simp [hs] at h ⊢; omega
theorem word_eqZ (s : Bool) {r : Nat} (hr : r < 9223372036854775808) : Ieee.double.word s r < 18446744073709551616 ∧ rung (Ieee.double.word s r) = r ∧ sgn (Ieee.double.word s r) = s := by
  have e : Ieee.double.word s r = if s then 9223372036854775808 + r else r := by
    unfold Ieee.Format.word
    rw [show Ieee.double.signWeight = 9223372036854775808 by decide]
  rw [e]
  unfold rung sgn
  cases s
  · simp only [Bool.false_eq_true, if_false]
    exact ⟨by omega, by omega, decide_eq_false (by omega)⟩
  · simp only [if_true]
    exact ⟨by omega, by omega, decide_eq_true (by omega)⟩
theorem vZ_word (s : Bool) {r : Nat} (hr : r < 9218868437227405312) : Fin' (Ieee.double.word s r) ∧ vZ (Ieee.double.word s r) = if s then -(val r : Int) else (val r : Int) := by
  obtain ⟨h1, h2, h3⟩ := word_eqZ s (show r < 9223372036854775808 by omega)
  refine ⟨⟨h1, by rw [h2]; exact hr⟩, ?_⟩
  unfold vZ
  rw [h2, h3]
theorem signed_vZ (x : Nat) (b : Nat) (hb : b ≤ up (rung x)) : Ieee.signed (sgn x) (mg (rung x)) (up (rung x) - b) * 2 ^ b = vZ x := by
  have e : mg (rung x) * 2 ^ (up (rung x) - b) * 2 ^ b = val (rung x) := by
    rw [Nat.mul_assoc, ← Nat.pow_add, show up (rung x) - b + b = up (rung x) by omega, mg_up]
  have e' : ((mg (rung x) * 2 ^ (up (rung x) - b) : Nat) : Int) * 2 ^ b = (val (rung x) : Int) := by
    rw [← e]; push_cast; rfl
  unfold Ieee.signed vZ
  rw [Nat.shiftLeft_eq]
  cases sgn x
  · simp only [Bool.false_eq_true, if_false]; exact e'
  · simp only [if_true]; rw [Int.neg_mul, e']
/-- A sum that is a float. -/
theorem add_ex {x y k : Nat} (hx : Fin' x) (hy : Fin' y) (hk : k < 9218868437227405312) (h : (vZ x + vZ y).natAbs = val k) : ∃ r, floatBits .add .f64 x y = some r ∧ Fin' r ∧ vZ r = vZ x + vZ y := by
  rw [(fbits_map x y).1, read_f hx, read_f hy]
  obtain ⟨b, hb⟩ : ∃ b, min (up (rung x)) (up (rung y)) = b := ⟨_, rfl⟩
  have hmin : min (-1074 + (up (rung x) : Int)) (-1074 + (up (rung y) : Int)) = -1074 + (b : Int) := by omega
  have s1 := signed_vZ x b (by omega)
  have s2 := signed_vZ y b (by omega)
  have e1 : (-1074 + (up (rung x) : Int) - (-1074 + (b : Int))).toNat = up (rung x) - b := by omega
  have e2 : (-1074 + (up (rung y) : Int) - (-1074 + (b : Int))).toNat = up (rung y) - b := by omega
  simp only [Ieee.Datum.sum, hmin, e1, e2, Option.map_some]
  obtain ⟨T, hT⟩ : ∃ T, Ieee.signed (sgn x) (mg (rung x)) (up (rung x) - b) + Ieee.signed (sgn y) (mg (rung y)) (up (rung y) - b) = T := ⟨_, rfl⟩
  have hs : T * 2 ^ b = vZ x + vZ y := by rw [← hT, Int.add_mul, s1, s2]
  rw [hT]
  have ha : T.natAbs * 2 ^ b = val k := by
    rw [← h, ← hs, Int.natAbs_mul, Int.natAbs_pow]
    rfl
  have hn : ∀ s, Ieee.double.nearest s T.natAbs (-1074 + (b : Int)) = Ieee.double.word s k := fun s => near_exact s (K := 0) hk (by omega) (by
    rw [show (-1074 + (b : Int) + 1074 + ((0 : Nat) : Int)).toNat = b by omega, ha]; simp)
  refine ⟨_, rfl, ?_⟩
  show Fin' (Ieee.double.nearest _ _ _) ∧ vZ (Ieee.double.nearest _ _ _) = _
  rw [hn]
  obtain ⟨w1, w2⟩ := vZ_word (if T = 0 then (sgn x && sgn y) else decide (T < 0)) hk
  refine ⟨w1, ?_⟩
  rw [w2, ← hs]
  have hp : (0 : Int) < 2 ^ b := Int.pow_pos (by omega)
  have hk' : (val k : Int) = (T.natAbs : Int) * 2 ^ b := by rw [← ha]; push_cast; rfl
  by_cases h0 : T = 0
  · rw [hk', h0]; simp
  · rw [if_neg h0, hk']
    by_cases c : T < 0
    · rw [decide_eq_true c, if_pos rfl, ← Int.neg_mul]
      congr 1
      omega
    · rw [decide_eq_false c]
      simp only [Bool.false_eq_true, if_false]
      congr 1
      omega
/-- A product that is a float. -/
theorem mul_ex {x y k E : Nat} (hE : E = 1074) (hx : Fin' x) (hy : Fin' y) (hk : k < 9218868437227405312) (h : val (rung x) * val (rung y) = val k * 2 ^ E) : ∃ r, floatBits .mul .f64 x y = some r ∧ Fin' r ∧ rung r = k ∧ sgn r = (sgn x ^^ sgn y) := by
  rw [(fbits_map x y).2.2.1, read_f hx, read_f hy]
  simp only [Ieee.Datum.product, Option.map_some]
  refine ⟨_, rfl, ?_⟩
  show Fin' (Ieee.double.nearest _ _ _) ∧ rung (Ieee.double.nearest _ _ _) = k ∧ sgn (Ieee.double.nearest _ _ _) = _
  rw [near_exact (sgn x ^^ sgn y) (K := E) hk (by omega) (by
    rw [show (-1074 + (up (rung x) : Int) + (-1074 + (up (rung y) : Int)) + 1074 + ((E : Nat) : Int)).toNat = up (rung x) + up (rung y) by omega, ← h, ← mg_up (rung x), ← mg_up (rung y), Nat.pow_add]
    generalize 2 ^ up (rung x) = A
    generalize 2 ^ up (rung y) = B
    ac_rfl)]
  obtain ⟨w1, w2, w3⟩ := word_eqZ (sgn x ^^ sgn y) (show k < 9223372036854775808 by omega)
  exact ⟨⟨w1, by rw [w2]; exact hk⟩, w2, w3⟩
/-- The dividend, with as many noughts behind it as the model takes, is a multiple. -/
theorem quo_core {m n M a b : Nat} (hm : m ≠ 0) (hM : M < 9007199254740992) (h : m * 2 ^ a = M * n * 2 ^ b) : ∃ e, m * 2 ^ (54 + n.log2 - m.log2) = M * 2 ^ e * n ∧ b + (54 + n.log2 - m.log2) = a + e := by
  obtain ⟨t, ht⟩ : ∃ t, 54 + n.log2 - m.log2 = t := ⟨_, rfl⟩
  rw [ht]
  have h2 : m * 2 ^ t * 2 ^ a = M * n * 2 ^ (b + t) := by
    rw [Nat.pow_add, ← Nat.mul_assoc, ← h]
    generalize 2 ^ t = A
    generalize 2 ^ a = B
    ac_rfl
  by_cases c : a ≤ b + t
  · refine ⟨b + t - a, ?_, by omega⟩
    rw [show b + t = (b + t - a) + a by omega, Nat.pow_add, ← Nat.mul_assoc] at h2
    have := Nat.eq_of_mul_eq_mul_right (Nat.two_pow_pos a) h2
    rw [this]
    generalize 2 ^ (b + t - a) = A
    ac_rfl
  · exfalso
    rw [show a = (a - (b + t)) + (b + t) by omega, Nat.pow_add, ← Nat.mul_assoc] at h2
    have h3 := Nat.eq_of_mul_eq_mul_right (Nat.two_pow_pos (b + t)) h2
    have l1 : 2 ^ m.log2 ≤ m := Nat.log2_self_le hm
    have l2 : n < 2 ^ (n.log2 + 1) := Nat.lt_log2_self
    have l3 : 2 ^ (m.log2 + t) ≤ m * 2 ^ t := by rw [Nat.pow_add]; exact Nat.mul_le_mul_right _ l1
    have l4 : 2 ^ (54 + n.log2) ≤ 2 ^ (m.log2 + t) := Nat.pow_le_pow_right (by omega) (by omega)
    have l5 : 2 ^ (54 + n.log2) = 9007199254740992 * 2 ^ (n.log2 + 1) := by
      rw [show 54 + n.log2 = 53 + (n.log2 + 1) by omega, Nat.pow_add]
    have l6 : m * 2 ^ t * 1 ≤ m * 2 ^ t * 2 ^ (a - (b + t)) := Nat.mul_le_mul_left _ (Nat.two_pow_pos _)
    have l7 : M * n ≤ 9007199254740992 * n := Nat.mul_le_mul_right _ (by omega)
    have l8 : 9007199254740992 * n < 9007199254740992 * 2 ^ (n.log2 + 1) := Nat.mul_lt_mul_of_pos_left l2 (by omega)
    omega
/-- A quotient that is a float. -/
theorem quo_ex {x d k E : Nat} (hE : E = 1074) (hx : Fin' x) (hd : Fin' d) (hd0 : rung d ≠ 0) (hk : k < 9218868437227405312) (h : val (rung x) * 2 ^ E = val k * val (rung d)) : ∃ r, floatBits .quo .f64 x d = some r ∧ Fin' r ∧ rung r = k ∧ sgn r = (sgn x ^^ sgn d) := by
  obtain ⟨_, n0, _, _⟩ := mg_form hd0
  rw [(fbits_map x d).2.2.2, read_f hx, read_f hd]
  simp only [Ieee.Datum.quotient]
  rw [if_neg n0]
  simp only [Option.map_some]
  refine ⟨_, rfl, ?_⟩
  show Fin' (Ieee.double.nearest _ _ _) ∧ rung (Ieee.double.nearest _ _ _) = k ∧ sgn (Ieee.double.nearest _ _ _) = _
  have hfin : ∀ v : Nat, v = Ieee.double.word (sgn x ^^ sgn d) k → Fin' v ∧ rung v = k ∧ sgn v = (sgn x ^^ sgn d) := fun v hv => by
    obtain ⟨w1, w2, w3⟩ := word_eqZ (sgn x ^^ sgn d) (show k < 9223372036854775808 by omega)
    rw [hv]
    exact ⟨⟨w1, by rw [w2]; exact hk⟩, w2, w3⟩
  refine hfin _ ?_
  rw [← mg_up (rung x), ← mg_up (rung d)] at h
  obtain ⟨t, ht⟩ : ∃ t, 54 + (mg (rung d)).log2 - (mg (rung x)).log2 = t := ⟨_, rfl⟩
  rw [ht, Nat.shiftLeft_eq]
  by_cases m0 : mg (rung x) = 0
  · have hv : val k = 0 := by
      rw [m0, Nat.zero_mul, Nat.zero_mul] at h
      rcases Nat.mul_eq_zero.1 h.symm with g | g
      · exact g
      · rcases Nat.mul_eq_zero.1 g with g | g
        · exact absurd g n0
        · have := Nat.two_pow_pos (up (rung d)); omega
    have hk0 : k = 0 := val_inj (by rw [hv, val_zero])
    rw [m0, Nat.zero_mul, Nat.zero_div, Nat.zero_mod, hk0]
    unfold Ieee.Format.nearest
    rfl
  · have hM : ∃ M u, val k = M * 2 ^ u ∧ M < 9007199254740992 := by
      by_cases k0 : k = 0
      · exact ⟨0, 0, by rw [k0, val_zero], by omega⟩
      · exact ⟨mg k, up k, (mg_up k).symm, (mg_form k0).1⟩
    obtain ⟨M, u, hv, hM⟩ := hM
    rw [hv] at h
    have h' : mg (rung x) * 2 ^ (up (rung x) + E) = M * mg (rung d) * 2 ^ (u + up (rung d)) := by
      rw [Nat.pow_add, Nat.pow_add, ← Nat.mul_assoc, h]
      generalize 2 ^ u = A
      generalize 2 ^ up (rung d) = B
      ac_rfl
    obtain ⟨e, e1, e2⟩ := quo_core m0 hM h'
    rw [ht] at e1 e2
    have hnp : 0 < mg (rung d) := by omega
    rw [e1, Nat.mul_div_cancel _ hnp, Nat.mul_mod_left]
    have hz : ((0 : Nat) != 0).toNat = 0 := rfl
    rw [hz, Nat.add_zero]
    refine near_exact _ (K := up (rung d) + t + 1) hk (by omega) ?_
    rw [show (-1074 + (up (rung x) : Int) - (-1074 + (up (rung d) : Int)) - (t : Int) - 1 + 1074 + ((up (rung d) + t + 1 : Nat) : Int)).toNat = up (rung x) + E by omega, hv]
    rw [show 2 * (M * 2 ^ e) * 2 ^ (up (rung x) + E) = M * (2 ^ 1 * 2 ^ e * 2 ^ (up (rung x) + E)) by generalize 2 ^ e = A; generalize 2 ^ (up (rung x) + E) = B; rw [Nat.pow_one]; ac_rfl]
    rw [Nat.mul_assoc M, ← Nat.pow_add, ← Nat.pow_add, ← Nat.pow_add, show 1 + e + (up (rung x) + E) = u + (up (rung d) + t + 1) by omega]
end Go.Proofs.YtlhoidkfphellaaDoor

namespace Go.Proofs.YtlhoidkfphellaaDoor
open Go.RowKit

theorem ladder_18 {n E : Nat} (hE : E = 1074) (hn : n < 9007199254740992) : ∃ k, k < 9218868437227405312 ∧ val k = n * 2 ^ E := by
  by_cases h0 : n = 0
  · exact ⟨0, by omega, by rw [h0, val_zero, Nat.zero_mul]⟩
  · obtain ⟨l, hl⟩ : ∃ l, n.log2 = l := ⟨_, rfl⟩
    have hl2 : l ≤ 52 := by
      have := (Nat.log2_lt h0).2 (show n < 2 ^ 53 by omega)
      omega
    have l1 : 2 ^ l ≤ n := by rw [← hl]; exact Nat.log2_self_le h0
    have l2 : n < 2 ^ (l + 1) := by rw [← hl]; exact Nat.lt_log2_self
    obtain ⟨M, hM⟩ : ∃ M, n * 2 ^ (52 - l) = M := ⟨_, rfl⟩
    have m1 : 4503599627370496 ≤ M := by
      rw [← hM]
      have : 2 ^ l * 2 ^ (52 - l) ≤ n * 2 ^ (52 - l) := Nat.mul_le_mul_right _ l1
      rw [← Nat.pow_add, show l + (52 - l) = 52 by omega] at this
      exact this
    have m2 : M < 9007199254740992 := by
      rw [← hM]
      have : n * 2 ^ (52 - l) < 2 ^ (l + 1) * 2 ^ (52 - l) := Nat.mul_lt_mul_of_pos_right l2 (Nat.two_pow_pos _)
      rw [← Nat.pow_add, show l + 1 + (52 - l) = 53 by omega] at this
      exact this
    refine ⟨(E + l - 52) * 4503599627370496 + M, by omega, ?_⟩
    unfold val
    rw [if_neg (by omega)]
    have q1 : ((E + l - 52) * 4503599627370496 + M) % 4503599627370496 = M - 4503599627370496 := by omega
    have q2 : ((E + l - 52) * 4503599627370496 + M) / 4503599627370496 - 1 = E + l - 52 := by omega
    rw [q1, q2, show 4503599627370496 + (M - 4503599627370496) = M by omega, ← hM, Nat.mul_assoc, ← Nat.pow_add, show 52 - l + (E + l - 52) = E by omega]
/-- A whole number that is not below 0, as a float. -/
theorem of_nat {E : Nat} (hE : E = 1074) {n : Nat} (hn : n < 9007199254740992) : ∃ k, k < 9218868437227405312 ∧ floatOfInt .f64 (n : Int) = k ∧ val k = n * 2 ^ E := by
  obtain ⟨k, k1, k2⟩ := ladder_18 hE hn
  refine ⟨k, k1, ?_, k2⟩
  have e : floatOfInt .f64 (n : Int) = Ieee.double.nearest (decide ((n : Int) < 0)) (n : Int).natAbs 0 := rfl
  have e2 : decide ((n : Int) < 0) = false := by simp
  have e3 : (n : Int).natAbs = n := rfl
  rw [e, e2, e3, near_exact false (K := 0) k1 (by omega) (by rw [show ((0 : Int) + 1074 + ((0 : Nat) : Int)).toNat = E by omega, k2]; simp)]
  exact word_pos k
/-- L2 as a float. -/
def l2F (a b : Jn) : Nat := floatOfInt .f64 (aptA a b).2.2
theorem aptA_bd (a b : Jn) : 0 ≤ (aptA a b).2.2 ∧ (aptA a b).2.2 ≤ 8796093022208 := by
  unfold aptA
  split
  · rename_i h
    unfold aptB at h
    obtain ⟨⟨⟨a1, a2⟩, a3⟩, a4⟩ : ((crB a.2.1 = true ∧ crB a.2.2.1 = true) ∧ crB b.2.1 = true) ∧ crB b.2.2.1 = true := by simpa using h
    have a1 := kcr_le a1
    have a2 := kcr_le a2
    have a3 := kcr_le a3
    have a4 := kcr_le a4
    have s1 := sq_le (x := b.2.1 - a.2.1) (by omega)
    have s2 := sq_le (x := b.2.2.1 - a.2.2.1) (by omega)
    simp only
    omega
  · simp
theorem l2F_facts {E : Nat} (hE : E = 1074) (a b : Jn) : ∃ k, k < 9218868437227405312 ∧ l2F a b = k ∧ val k = (aptA a b).2.2.natAbs * 2 ^ E := by
  obtain ⟨h0, h1⟩ := aptA_bd a b
  unfold l2F
  generalize (aptA a b).2.2 = n at *
  obtain ⟨m, rfl⟩ : ∃ m : Nat, n = m := ⟨n.toNat, by omega⟩
  exact of_nat hE (by omega)
theorem fin_fn {k : Nat} (hk : k < 9218868437227405312) : Fn k ∧ place k = (k : Int) := by
  have s : sgn k = false := by unfold sgn; simp; omega
  have r : rung k = k := by unfold rung; omega
  refine ⟨⟨by omega, ?_⟩, ?_⟩
  · unfold nanB; rw [r]; simp; omega
  · unfold place; rw [s, r]; simp
theorem fin_rt {k : Nat} (hk : k < 9218868437227405312) : RtP (k, k) ∧ 0 ≤ place k := by
  obtain ⟨f, p⟩ := fin_fn hk
  exact ⟨RtP.mk f f (by simp) (by simp only; omega) (by simp only; omega), by omega⟩
set_option maxHeartbeats 2000000 in
theorem length_any (a b : Jn) (w : World) (hT : TabW w) :
    Calls Tryd.prog 16 #[jV a, jV b] w fun e w' => e = .returned (.tuple #[spV (sqB 1 (l2F a b)) (sqB 2 (l2F a b)), .float .f64 (sqB 0 (l2F a b))]) ∧ Below w.heap.size w w' := by
  have hst := run_storef Tryd.prog
  have cA := fun w' => apart_any a b w'
  obtain ⟨k, k1, k2, _⟩ := l2F_facts rfl a b
  obtain ⟨hr, hp⟩ := fin_rt k1
  have cS : C1 34 (k, k) (sqP (k, k)) 0 := sqrt_C hr hp
  have cR := (rsqrt_P 0 (x := k) (by omega) (root_ok hr.fn.1 hp)).2
  have hF : floatOfInt .f64 (aptA a b).2.2 = k := k2
  rw [k2]
  clear k2 hr hp k1
  unfold sqP at cS
  simp only at cS
  generalize sqB 1 k = lo at *
  generalize sqB 2 k = hi at *
  generalize sqB 0 k = nr at *
  generalize aptA a b = r at *
  obtain ⟨r1, r2, r3⟩ := r
  simp only at hF cA
  obtain ⟨s, x, y, f⟩ := a
  obtain ⟨t, p, q, g⟩ := b
  unfold jV at cA ⊢
  simp only at cA ⊢
  have hb0 : Below w.heap.size w (((w.alloc (.cells #[.string s, .int .i32 x, .int .i32 y, .int .u8 f] 33)).alloc (.cells #[.string t, .int .i32 p, .int .i32 q, .int .u8 g] 33)).alloc (.cells #[.float .f64 0, .float .f64 0] 40)) := (((Below.refl _ _).alloc (Nat.le_refl _) _).alloc (by simp) _).alloc (by simp; omega) _
  have R0 := Bx.new ((w.alloc (.cells #[.string s, .int .i32 x, .int .i32 y, .int .u8 f] 33)).alloc (.cells #[.string t, .int .i32 p, .int .i32 q, .int .u8 g] 33)) (.float .f64 0) (.float .f64 0) 40
  have hs1 : ((w.alloc (.cells #[.string s, .int .i32 x, .int .i32 y, .int .u8 f] 33)).alloc (.cells #[.string t, .int .i32 p, .int .i32 q, .int .u8 g] 33)).heap.size = w.heap.size + 1 + 1 := by simp
  rw [hs1] at R0
  clear hs1
  go_enter Tryd.func16, Tryd.ntmps16
  go_upto_region 2 with (go_at_call 15; refine (cA _).mono ?_; rintro e w1 ⟨rfl, b1⟩)
  replace R0 := R0.below b1
  have hb1 := hb0.trans (b1.mono hb0.size)
  clear b1 cA hb0
  have T1 := tabW_below hT hb1
  go_upto_region 4 with (go_at_call 34; refine (cS _ T1).mono ?_; rintro e w2 ⟨rfl, b2⟩)
  have R1 := (R0.below b2).alloc (.cells #[.float .f64 lo, .float .f64 hi] 40)
  have S1 := Bx.new w2 (.float .f64 lo) (.float .f64 hi) 40
  have hb2 := hb1.trans (b2.mono hb1.size)
  replace hb2 := hb2.alloc hb2.size (.cells #[.float .f64 lo, .float .f64 hi] 40)
  have T2 := tabW_below hT hb2
  have l1 : w.heap.size + 1 + 1 < w2.heap.size := (R0.below b2).2.2.2.2
  generalize w2.alloc (.cells #[.float .f64 lo, .float .f64 hi] 40) = W at *
  generalize w2.heap.size = P at *
  clear R0 b2 T1 hb1 hF cS
  have TD := tabW_below T2 (Below.refl W.heap.size W).drew
  have n1 : ¬ P = w.heap.size + 1 + 1 := by omega
  have n2 : ¬ w.heap.size + 1 + 1 = P := by omega
  have hz : w.heap.size ≤ w.heap.size + 1 + 1 := by omega
  generalize w.heap.size + 1 + 1 = G at *
  obtain ⟨r0, r1', r2', r3', _⟩ := id R1
  obtain ⟨s0, s1, _, _, _⟩ := id S1
  go_region_with (go_at_call 35; refine (cR _ TD).mono ?_; rintro e w3 ⟨rfl, b3⟩; have b4 := (Below.refl W.heap.size W).drew.trans b3; have R3 := R1.below b4; have S3 := S1.below b4; obtain ⟨u0, u1, u2, u3, _⟩ := id R3; obtain ⟨v0, v1, _, _, _⟩ := id S3)
  all_goals
    have hb3 := hb2.trans (b4.mono hb2.size)
    have c0 : ((w3.setCell ⟨G, 0, none⟩ (.float .f64 lo)).setCell ⟨G, 1, none⟩ (.float .f64 hi)).cell? ⟨G, 0, none⟩ = some (.float .f64 lo) := by simp [go_sem, u0]
    have c1 : ((w3.setCell ⟨G, 0, none⟩ (.float .f64 lo)).setCell ⟨G, 1, none⟩ (.float .f64 hi)).cell? ⟨G, 1, none⟩ = some (.float .f64 hi) := by simp [go_sem, u1]
    go_wp2
    exact bodyPost_ret (v := .tuple #[spV lo hi, .float .f64 nr]) (by simp [results, Tryd.results16, go_sem, c0, c1]) rfl ⟨rfl, set2 hb3 hz _ _⟩
end Go.Proofs.YtlhoidkfphellaaDoor

namespace Go.Proofs.YtlhoidkfphellaaDoor
open Go.RowKit

def jA : Jn := (⟨#[97]⟩, 1, 1, 0)
def jB : Jn := (⟨#[98, 49]⟩, 4, 5, 0)
theorem aw_apart : aptA jA jB = (3, 4, 25) := by decide
theorem aw_len1 : sqB 1 (l2F jA jB) = 4617315517961601024 := by kernel_rfl
theorem aw_len2 : sqB 2 (l2F jA jB) = 4617315517961601024 := by kernel_rfl
theorem aw_len0 : sqB 0 (l2F jA jB) = 4617315517961601024 := by kernel_rfl
theorem aw_ok : ckA [jA, jB] = (0, 0) := by kernel_rfl
theorem aw_bad : ckA [jA, jA] = (280, 1) := by kernel_rfl
theorem aw_find : fdA [jA, jB] ⟨#[98, 49]⟩ = (1, true) := by kernel_rfl
theorem jrow_two (w : World) (a b : Jn) (t : TypeId) : JRow (w.alloc (.cells #[.string a.1, .int .i32 a.2.1, .int .i32 a.2.2.1, .int .u8 a.2.2.2, .string b.1, .int .i32 b.2.1, .int .i32 b.2.2.1, .int .u8 b.2.2.2] t)) (some ⟨w.heap.size, 0, none⟩) [a, b] := by
  refine Or.inr ⟨_, 0, rfl, fun k hk => ?_⟩
  rcases (show k = 0 ∨ k = 1 by simp at hk; omega) with rfl | rfl
  · refine ⟨by simp [go_sem], by simp [go_sem], by simp [go_sem], by simp [go_sem]⟩
  · refine ⟨by simp [go_sem], by simp [go_sem], by simp [go_sem], by simp [go_sem]⟩
theorem jws_two {a b : Jn} (ha : JW a) (hb : JW b) : JWs [a, b] := fun j hj => by
  rcases List.mem_cons.1 hj with rfl | hj
  · exact ha
  · rcases List.mem_cons.1 hj with rfl | hj
    · exact hb
    · cases hj
theorem jw_A : JW jA := ⟨by decide, by decide, by decide, by decide, by decide, by decide⟩
theorem jw_B : JW jB := ⟨by decide, by decide, by decide, by decide, by decide, by decide⟩
theorem aw18_eql (w : World) : (binOp .eql 40 (.agg #[.float .f64 4617315517961601024, .float .f64 4617315517961601024]) (.agg #[.float .f64 4617315517961601024, .float .f64 4617315517961601024])).run Tryd.prog w = .ok (.bool true) w := by
  kernel_rfl
set_option maxRecDepth 100000 in
set_option maxHeartbeats 4000000 in
theorem jawake_any (w : World) (hT : TabW w) : Calls Tryd.prog 11 #[] w fun e w' => e = .returned (.bool true) ∧ Below w.heap.size w w' := by
  have hst := run_storef Tryd.prog
  have heq := aw18_eql
  have cA := fun w' => apart_any jA jB w'
  rw [aw_apart] at cA
  have cL := fun w' (h : TabW w') => length_any jA jB w' h
  rw [aw_len0, aw_len1, aw_len2] at cL
  have cO := fun w' => check_any [jA, jB] (some ⟨w'.heap.size, 0, none⟩) 2 _ (jrow_two w' jA jB 33) (jws_two jw_A jw_B) (by simp)
  rw [aw_ok] at cO
  have cB := fun w' => check_any [jA, jA] (some ⟨w'.heap.size, 0, none⟩) 2 _ (jrow_two w' jA jA 33) (jws_two jw_A jw_A) (by simp)
  rw [aw_bad] at cB
  have cF := fun w' => find_any [jA, jB] ⟨#[98, 49]⟩ (some ⟨w'.heap.size, 0, none⟩) 2 _ (jrow_two w' jA jB 33) (by simp)
  rw [aw_find] at cF
  unfold jV jA jB at cA cL
  unfold jA jB at cO cF
  unfold jA at cB
  simp only [List.length_cons, List.length_nil] at cA cL cO cB cF
  have X0 := (JBox.new w (.string ⟨#[97]⟩) (.int .i32 1) (.int .i32 1) (.int .u8 0) 33).alloc (.cells #[.string ⟨#[98, 49]⟩, .int .i32 4, .int .i32 5, .int .u8 0] 33)
  have X1 := JBox.new (w.alloc (.cells #[.string ⟨#[97]⟩, .int .i32 1, .int .i32 1, .int .u8 0] 33)) (.string ⟨#[98, 49]⟩) (.int .i32 4) (.int .i32 5) (.int .u8 0) 33
  have hs1 : (w.alloc (.cells #[.string ⟨#[97]⟩, .int .i32 1, .int .i32 1, .int .u8 0] 33)).heap.size = w.heap.size + 1 := by simp
  rw [hs1] at X1
  clear hs1
  have hb0 : Below w.heap.size w ((w.alloc (.cells #[.string ⟨#[97]⟩, .int .i32 1, .int .i32 1, .int .u8 0] 33)).alloc (.cells #[.string ⟨#[98, 49]⟩, .int .i32 4, .int .i32 5, .int .u8 0] 33)) := ((Below.refl _ _).alloc (Nat.le_refl _) _).alloc (by simp) _
  go_enter Tryd.func11, Tryd.ntmps11
  go_upto_region 2 with fail
  generalize (w.alloc (.cells #[.string ⟨#[97]⟩, .int .i32 1, .int .i32 1, .int .u8 0] 33)).alloc (.cells #[.string ⟨#[98, 49]⟩, .int .i32 4, .int .i32 5, .int .u8 0] 33) = W0 at *
  obtain ⟨x0, x1, x2, x3, _, _, _, _, _⟩ := id X0
  obtain ⟨y0, y1, y2, y3, _, _, _, _, _⟩ := id X1
  go_upto_region 3 with (go_at_call 15; refine (cA _).mono ?_; rintro e w1 ⟨rfl, b1⟩)
  have hb1 := hb0.trans (b1.mono hb0.size)
  have T1 := tabW_below hT hb1
  replace X0 := X0.below b1
  replace X1 := X1.below b1
  clear x0 x1 x2 x3 y0 y1 y2 y3 cA b1 hb0
  obtain ⟨x0, x1, x2, x3, _, _, _, _, _⟩ := id X0
  obtain ⟨y0, y1, y2, y3, _, _, _, _, _⟩ := id X1
  go_upto_region 4 with (go_at_call 16; refine (cL _ T1).mono ?_; rintro e w2 ⟨rfl, b2⟩)
  have hb2 := hb1.trans (b2.mono hb1.size)
  replace hb2 := hb2.alloc hb2.size (.cells #[.float .f64 4617315517961601024, .float .f64 4617315517961601024] 40)
  have S0 := Bx.new w2 (.float .f64 4617315517961601024) (.float .f64 4617315517961601024) 40
  replace X0 := (X0.below b2).alloc (.cells #[.float .f64 4617315517961601024, .float .f64 4617315517961601024] 40)
  replace X1 := (X1.below b2).alloc (.cells #[.float .f64 4617315517961601024, .float .f64 4617315517961601024] 40)
  clear x0 x1 x2 x3 y0 y1 y2 y3 cL b2 hb1
  obtain ⟨x0, x1, x2, x3, _, _, _, _, _⟩ := id X0
  obtain ⟨y0, y1, y2, y3, _, _, _, _, _⟩ := id X1
  generalize w2.alloc (.cells #[.float .f64 4617315517961601024, .float .f64 4617315517961601024] 40) = Wz2 at *
  generalize w2.heap.size = P at *
  go_upto_region 5 with (go_at_call 8; refine (cO _).mono ?_; rintro e w3 ⟨rfl, b3⟩)
  have z3 := old1 b3
  have hb3 := hb2.trans (z3.mono hb2.size)
  replace X0 := X0.below z3
  replace X1 := X1.below z3
  replace S0 := S0.below z3
  clear x0 x1 x2 x3 y0 y1 y2 y3 cO b3 z3 hb2
  obtain ⟨x0, x1, x2, x3, _, _, _, _, _⟩ := id X0
  obtain ⟨y0, y1, y2, y3, _, _, _, _, _⟩ := id X1
  go_upto_region 6 with (go_at_call 8; refine (cB _).mono ?_; rintro e w4 ⟨rfl, b4⟩)
  have z4 := old1 b4
  have hb4 := hb3.trans (z4.mono hb3.size)
  replace X0 := X0.below z4
  replace X1 := X1.below z4
  replace S0 := S0.below z4
  clear x0 x1 x2 x3 y0 y1 y2 y3 cB b4 z4 hb3
  obtain ⟨x0, x1, x2, x3, _, _, _, _, _⟩ := id X0
  obtain ⟨y0, y1, y2, y3, _, _, _, _, _⟩ := id X1
  go_upto_region 7 with (go_at_call 12; refine (cF _).mono ?_; rintro e w5 ⟨rfl, b5⟩)
  have z5 := old1 b5
  have hb5 := hb4.trans (z5.mono hb4.size)
  replace X0 := X0.below z5
  replace X1 := X1.below z5
  replace S0 := S0.below z5
  clear x0 x1 x2 x3 y0 y1 y2 y3 cF b5 z5 hb4
  obtain ⟨x0, x1, x2, x3, _, _, _, _, _⟩ := id X0
  obtain ⟨y0, y1, y2, y3, _, _, _, _, _⟩ := id X1
  obtain ⟨s0, s1, _, _, _⟩ := id S0
  go_wp2
  go_ret
  exact ⟨rfl, hb5⟩
end Go.Proofs.YtlhoidkfphellaaDoor
