/- Quotients and roots of floats against the exact ones, roughly; of narrow floats: what is told as a middle is exact. In plain numbers, no program. -/
import Derived.Test.YtekejddblgkcgaaDoorTo6
namespace Go.Proofs.YtekejddblgkcgaaDoor
open Go.RowKit

theorem word_k (s : Bool) {k : Nat} (hk : k ≤ 9218868437227405312) : rung (Ieee.double.word s k) = k := (word_eqZ s (show k < 9223372036854775808 by omega)).2.1
theorem times_n {A V : Nat} (n : Nat) (h : 9007199254740992 * A ≤ 9007199254740992 * V + V) : 9007199254740992 * (A * n) ≤ 9007199254740992 * (V * n) + V * n := by
  have := Nat.mul_le_mul_right n h
  rw [Nat.add_mul, Nat.mul_assoc, Nat.mul_assoc] at this
  exact this
theorem times_n' {A V : Nat} (n : Nat) (h : 9007199254740992 * V ≤ 9007199254740992 * A + V) : 9007199254740992 * (V * n) ≤ 9007199254740992 * (A * n) + V * n := by
  have := Nat.mul_le_mul_right n h
  rw [Nat.add_mul, Nat.mul_assoc, Nat.mul_assoc] at this
  exact this
/-- A quotient, roughly. -/
theorem quo_weak {x d v E : Nat} (hE : E = 1074) (hx : Fin' x) (hd : Fin' d) (hx0 : rung x ≠ 0) (hd0 : rung d ≠ 0) (h : floatBits .quo .f64 x d = some v) (fv : rung v < 9218868437227405312) (nv : 4503599627370496 ≤ mg (rung v)) :
    2251799813685248 * (val (rung x) * 2 ^ E) ≤ 2251799813685248 * (val (rung v) * val (rung d)) + val (rung x) * 2 ^ E ∧ 2251799813685248 * (val (rung v) * val (rung d)) ≤ 2251799813685248 * (val (rung x) * 2 ^ E) + val (rung x) * 2 ^ E := by
  obtain ⟨_, n0, _, _⟩ := mg_form hd0
  obtain ⟨_, m0, _, _⟩ := mg_form hx0
  rw [(fbits_map x d).2.2.2, read_f hx, read_f hd] at h
  simp only [Ieee.Datum.quotient] at h
  rw [if_neg n0] at h
  simp only [Option.map_some, Ieee.Format.write, Option.some.injEq] at h
  obtain ⟨t, ht⟩ : ∃ t, 54 + (mg (rung d)).log2 - (mg (rung x)).log2 = t := ⟨_, rfl⟩
  rw [ht, Nat.shiftLeft_eq] at h
  have l1 := Nat.log2_self_le m0
  have l2 := Nat.lt_log2_self (n := mg (rung d))
  have l3 : (2 : Nat) ^ (54 + (mg (rung d)).log2) ≤ 2 ^ ((mg (rung x)).log2 + t) := Nat.pow_le_pow_right (by omega) (by omega)
  have l4 : (2 : Nat) ^ ((mg (rung x)).log2 + t) ≤ mg (rung x) * 2 ^ t := by rw [Nat.pow_add]; exact Nat.mul_le_mul_right _ l1
  have l5 : (2 : Nat) ^ (54 + (mg (rung d)).log2) = 9007199254740992 * 2 ^ ((mg (rung d)).log2 + 1) := by
    rw [show 54 + (mg (rung d)).log2 = 53 + ((mg (rung d)).log2 + 1) by omega, Nat.pow_add]
  obtain ⟨n, hn⟩ : ∃ n, mg (rung d) = n := ⟨_, rfl⟩
  obtain ⟨m, hm⟩ : ∃ m, mg (rung x) = m := ⟨_, rfl⟩
  rw [hn, hm] at h
  rw [hn] at l2 l3 l5 n0
  rw [hm] at l1 l3 l4 m0
  have hN : 9007199254740992 * n ≤ m * 2 ^ t := by
    have : 9007199254740992 * n ≤ 9007199254740992 * 2 ^ (n.log2 + 1) := Nat.mul_le_mul_left _ (by omega)
    omega
  have dm := Nat.div_add_mod (m * 2 ^ t) n
  have ml := Nat.mod_lt (m * 2 ^ t) (show 0 < n by omega)
  obtain ⟨Q, hQ⟩ : ∃ Q, m * 2 ^ t / n = Q := ⟨_, rfl⟩
  obtain ⟨r, hr⟩ : ∃ r, m * 2 ^ t % n = r := ⟨_, rfl⟩
  obtain ⟨st, hst⟩ : ∃ st, (r != 0).toNat = st := ⟨_, rfl⟩
  rw [hQ, hr] at dm
  rw [hr] at ml
  rw [hQ, hr, hst] at h
  have hs2 : (r = 0 ∧ st = 0) ∨ (r ≠ 0 ∧ st = 1) := by
    by_cases c : r = 0
    · left; exact ⟨c, by rw [← hst, c]; rfl⟩
    · right; exact ⟨c, by rw [← hst]; simp [c]⟩
  have hQ0 : 2 * Q + st ≠ 0 := by
    intro e
    have : Q = 0 := by omega
    rw [this, Nat.mul_zero] at dm
    omega
  obtain ⟨k, e1, kl, c⟩ := near_anyD (sgn x ^^ sgn d) (-1074 + (up (rung x) : Int) - (-1074 + (up (rung d) : Int)) - (t : Int) - 1) (up (rung d) + t + 1) hQ0 (by omega)
  rw [e1] at h
  have hk : rung v = k := by rw [← h]; exact word_k _ kl
  rw [hk] at fv nv ⊢
  rw [show (-1074 + (up (rung x) : Int) - (-1074 + (up (rung d) : Int)) - (t : Int) - 1 + 1074 + ((up (rung d) + t + 1 : Nat) : Int)).toNat = up (rung x) + E by omega] at c
  obtain ⟨f1, f2⟩ := near_farK c fv nv
  obtain ⟨U, hU⟩ : ∃ U, 2 ^ (up (rung x) + E) = U := ⟨_, rfl⟩
  rw [hU] at f1 f2
  -- all times n
  have eb : val (rung x) * 2 ^ E * 2 ^ (t + 1) = 2 * (m * 2 ^ t * U) := by
    rw [← mg_up (rung x), hm, ← hU, Nat.pow_add 2 (up (rung x)) E, Nat.pow_succ]
    generalize 2 ^ up (rung x) = A
    generalize 2 ^ E = B
    generalize 2 ^ t = C
    ac_rfl
  have ea : val k * val (rung d) * 2 ^ (t + 1) = val k * 2 ^ (up (rung d) + t + 1) * n := by
    rw [← mg_up (rung d), hn, Nat.add_assoc (up (rung d)) t 1, Nat.pow_add 2 (up (rung d)) (t + 1)]
    generalize 2 ^ up (rung d) = A
    generalize 2 ^ (t + 1) = B
    ac_rfl
  have g1 := times_n n f1
  have g2 := times_n' n f2
  have ec : (2 * Q + st) * U * n = 2 * (n * Q * U) + st * n * U := by
    rw [Nat.add_mul, Nat.add_mul]
    congr 1
    · ac_rfl
    · ac_rfl
  have eN : m * 2 ^ t * U = n * Q * U + r * U := by rw [← dm, Nat.add_mul]
  have hnU : 9007199254740992 * (n * U) ≤ m * 2 ^ t * U := by rw [← Nat.mul_assoc]; exact Nat.mul_le_mul_right _ hN
  have hrU : r * U ≤ n * U := Nat.mul_le_mul_right _ (by omega)
  have key : 9007199254740992 * ((2 * Q + st) * U * n) ≤ 9007199254740992 * (2 * (m * 2 ^ t * U)) + 2 * (m * 2 ^ t * U) ∧ 9007199254740992 * (2 * (m * 2 ^ t * U)) ≤ 9007199254740992 * ((2 * Q + st) * U * n) + 2 * (m * 2 ^ t * U) := by
    rw [ec]
    rcases hs2 with ⟨r0, s0⟩ | ⟨r0, s0⟩
    · rw [s0, Nat.zero_mul, Nat.zero_mul]
      rw [r0, Nat.zero_mul] at eN
      generalize m * 2 ^ t * U = A at *
      generalize n * Q * U = B at *
      constructor <;> omega
    · rw [s0, Nat.one_mul]
      generalize m * 2 ^ t * U = A at *
      generalize n * Q * U = B at *
      generalize r * U = C at *
      generalize n * U = D at *
      constructor <;> omega
  have fin := lin_two g1 g2 key.1 key.2
  rw [← eb, ← ea] at fin
  have hp := Nat.two_pow_pos (t + 1)
  generalize 2 ^ (t + 1) = T at *
  generalize val (rung x) * 2 ^ E = X at *
  generalize val k * val (rung d) = Y at *
  constructor
  · refine Nat.le_of_mul_le_mul_right (c := T) ?_ hp
    rw [Nat.add_mul, Nat.mul_assoc, Nat.mul_assoc]; exact fin.1
  · refine Nat.le_of_mul_le_mul_right (c := T) ?_ hp
    rw [Nat.add_mul, Nat.mul_assoc, Nat.mul_assoc]; exact fin.2
theorem sq_lin {a c : Nat} (h1 : 9007199254740992 * c ≤ 9007199254740992 * a + a) (h2 : 9007199254740992 * a ≤ 9007199254740992 * c + a) : 4503599627370495 * (c * c) ≤ 4503599627370495 * (a * a) + (a * a) ∧ 4503599627370495 * (a * a) ≤ 4503599627370495 * (c * c) + (a * a) := by
  rcases Nat.le_total a c with h | h
  · obtain ⟨d, rfl⟩ := Nat.exists_eq_add_of_le h
    have hd : 9007199254740992 * d ≤ a := by omega
    have q1 := Nat.mul_le_mul_left a hd
    have q2 := Nat.mul_le_mul_right d hd
    rw [Nat.mul_left_comm] at q1
    rw [Nat.mul_assoc] at q2
    have e : (a + d) * (a + d) = a * a + 2 * (a * d) + d * d := by rw [Nat.add_mul, Nat.mul_add, Nat.mul_add, Nat.mul_comm d a]; omega
    rw [e]
    generalize a * a = P at *
    generalize a * d = Q at *
    generalize d * d = R at *
    constructor <;> omega
  · obtain ⟨d, rfl⟩ := Nat.exists_eq_add_of_le h
    have hd : 9007199254740992 * d ≤ c + d := by omega
    have q1 := Nat.mul_le_mul_left (c + d) hd
    have q2 := Nat.mul_le_mul_right d hd
    rw [Nat.mul_left_comm] at q1
    rw [Nat.mul_assoc] at q2
    have ea : (c + d) * (c + d) = c * c + 2 * (c * d) + d * d := by rw [Nat.add_mul, Nat.mul_add, Nat.mul_add, Nat.mul_comm d c]; omega
    have eb : (c + d) * d = c * d + d * d := Nat.add_mul c d d
    have e : c * c + 2 * ((c + d) * d) = (c + d) * (c + d) + d * d := by rw [ea, eb]; omega
    clear ea eb
    generalize (c + d) * (c + d) = P at *
    generalize (c + d) * d = Q at *
    generalize d * d = R at *
    generalize c * c = C at *
    constructor <;> omega
theorem rt_from (n : Nat) : ∀ (t r : Nat), r * r ≤ n → n < (r + 2 ^ t) * (r + 2 ^ t) → Ieee.Datum.rootFrom n t r * Ieee.Datum.rootFrom n t r ≤ n ∧ n < (Ieee.Datum.rootFrom n t r + 1) * (Ieee.Datum.rootFrom n t r + 1)
  | 0, r, h1, h2 => by
    unfold Ieee.Datum.rootFrom
    exact ⟨h1, by simpa using h2⟩
  | t + 1, r, h1, h2 => by
    unfold Ieee.Datum.rootFrom
    simp only [Nat.shiftLeft_eq, Nat.one_mul]
    by_cases h : (r + 2 ^ t) * (r + 2 ^ t) ≤ n
    · rw [if_pos h]
      refine rt_from n t _ h ?_
      rw [Nat.add_assoc, show 2 ^ t + 2 ^ t = 2 ^ (t + 1) by rw [Nat.pow_succ]; omega]
      exact h2
    · rw [if_neg h]
      exact rt_from n t r h1 (by omega)
theorem rt_whole (n : Nat) : Ieee.Datum.rootFrom n (n.log2 / 2 + 1) 0 * Ieee.Datum.rootFrom n (n.log2 / 2 + 1) 0 ≤ n ∧ n < (Ieee.Datum.rootFrom n (n.log2 / 2 + 1) 0 + 1) * (Ieee.Datum.rootFrom n (n.log2 / 2 + 1) 0 + 1) := by
  refine rt_from n _ 0 (by simp) ?_
  rw [Nat.zero_add, ← Nat.pow_add]
  exact Nat.lt_of_lt_of_le (Nat.lt_log2_self (n := n)) (Nat.pow_le_pow_right (by omega) (by omega))
/-- A root, roughly. -/
theorem root_weak {x v E : Nat} (hE : E = 1074) (hx : Fin' x) (hx0 : rung x ≠ 0) (sx : sgn x = false) (h : FloatKind.f64.format.sqrt x = some v) (fv : rung v < 9218868437227405312) (nv : 4503599627370496 ≤ mg (rung v)) :
    2251799813685248 * (val (rung x) * 2 ^ E) ≤ 2251799813685248 * (val (rung v) * val (rung v)) + val (rung x) * 2 ^ E ∧ 2251799813685248 * (val (rung v) * val (rung v)) ≤ 2251799813685248 * (val (rung x) * 2 ^ E) + val (rung x) * 2 ^ E := by
  obtain ⟨hml, m0, _, _⟩ := mg_form hx0
  have h' : ((Ieee.double.read x).root 54).map Ieee.double.write = some v := h
  rw [read_f hx, sx] at h'
  simp only [Ieee.Datum.root] at h'
  rw [if_neg m0, if_neg (by simp)] at h'
  simp only [Option.map_some, Ieee.Format.write, Option.some.injEq] at h'
  obtain ⟨u, hu⟩ : ∃ u, up (rung x) = u := ⟨_, rfl⟩
  obtain ⟨m, hm⟩ : ∃ m, mg (rung x) = m := ⟨_, rfl⟩
  rw [hu, hm] at h'
  have hXv : val (rung x) = m * 2 ^ u := by rw [← mg_up, hm, hu]
  rw [hm] at hml m0
  have hl : m.log2 ≤ 52 := by
    have := (Nat.log2_lt m0).2 (show m < 2 ^ 53 by omega)
    omega
  obtain ⟨more, hmore⟩ : ∃ d, 2 * 54 - m.log2 + ((-1074 + (u : Int) - ((2 * 54 - m.log2 : Nat) : Int)) % 2).toNat = d := ⟨_, rfl⟩
  rw [hmore] at h'
  obtain ⟨hh, hhe⟩ : ∃ hh : Int, -1074 + (u : Int) - (more : Int) = 2 * hh := ⟨(-1074 + (u : Int) - (more : Int)) / 2, by omega⟩
  have e2 : (-1074 + (u : Int) - (more : Int)) / 2 = hh := by omega
  have hmb : 108 ≤ m.log2 + more ∧ more ≤ 110 := by omega
  rw [e2, Nat.shiftLeft_eq] at h'
  have hR := rt_whole (m * 2 ^ more)
  obtain ⟨w, hw⟩ : ∃ w, Ieee.Datum.rootFrom (m * 2 ^ more) ((m * 2 ^ more).log2 / 2 + 1) 0 = w := ⟨_, rfl⟩
  rw [hw] at h' hR
  have n1 : 2 ^ 108 ≤ m * 2 ^ more := by
    have h1 := Nat.log2_self_le m0
    have h2 := Nat.mul_le_mul_right (2 ^ more) h1
    rw [← Nat.pow_add] at h2
    exact Nat.le_trans (Nat.pow_le_pow_right (by omega) hmb.1) h2
  obtain ⟨n, hn⟩ : ∃ n, m * 2 ^ more = n := ⟨_, rfl⟩
  rw [hn] at h' hR n1
  have hw54 : 9007199254740992 ≤ w := by
    refine Nat.le_of_not_lt fun c => ?_
    have h1 : (w + 1) * (w + 1) ≤ 9007199254740992 * 9007199254740992 := Nat.mul_le_mul (by omega) (by omega)
    have h2 : (2 : Nat) ^ 108 = 4 * (9007199254740992 * 9007199254740992) := by decide
    omega
  obtain ⟨st, hst⟩ : ∃ st, (w * w != n).toNat = st := ⟨_, rfl⟩
  rw [hst] at h'
  have hs2 : (w * w = n ∧ st = 0) ∨ (w * w ≠ n ∧ st = 1) := by
    by_cases c : w * w = n
    · left; exact ⟨c, by rw [← hst, c]; simp⟩
    · right; exact ⟨c, by rw [← hst]; simp [c]⟩
  obtain ⟨k, e1, kl, c⟩ := near_anyD false (hh - 1) 0 (show 2 * w + st ≠ 0 by omega) (by omega)
  rw [e1] at h'
  have hk : rung v = k := by rw [← h']; exact word_k _ kl
  rw [hk] at fv nv ⊢
  obtain ⟨z, hz⟩ : ∃ z, (hh - 1 + 1074 + ((0 : Nat) : Int)).toNat = z := ⟨_, rfl⟩
  rw [hz] at c
  obtain ⟨f1, f2⟩ := near_farK c fv nv
  rw [Nat.pow_zero, Nat.mul_one] at f1 f2
  obtain ⟨U, hU⟩ : ∃ U, 2 ^ z = U := ⟨_, rfl⟩
  rw [hU] at f1 f2
  have hX : val (rung x) * 2 ^ E = 4 * (n * (U * U)) := by
    rw [hXv, ← hn, ← hU, Nat.mul_assoc, ← Nat.pow_add, ← Nat.pow_add, Nat.mul_assoc m, ← Nat.pow_add, Nat.mul_left_comm]
    congr 1
    rw [show (4 : Nat) = 2 ^ 2 from rfl, ← Nat.pow_add]
    congr 1
    omega
  obtain ⟨s1, s2⟩ := sq_lin f1 f2
  have ec : (2 * w + st) * U * ((2 * w + st) * U) = (2 * w + st) * (2 * w + st) * (U * U) := by ac_rfl
  rw [ec] at s1 s2
  have hq : ∃ D, (2 * w + st) * (2 * w + st) + D = 4 * n + 4 * w ∧ D ≤ 8 * w := by
    rcases hs2 with ⟨g1, g2⟩ | ⟨g1, g2⟩
    · refine ⟨4 * w, ?_, by omega⟩
      rw [g2, Nat.add_zero, Nat.mul_mul_mul_comm, g1]
    · have e : (2 * w + 1) * (2 * w + 1) = 4 * (w * w) + 4 * w + 1 := by
        rw [Nat.add_mul, Nat.mul_add, Nat.mul_mul_mul_comm]; omega
      have e' : (w + 1) * (w + 1) = w * w + 2 * w + 1 := by rw [Nat.add_mul, Nat.mul_add]; omega
      rw [g2, e]
      rw [e'] at hR
      exact ⟨4 * n - 4 * (w * w) - 1, by omega, by omega⟩
  obtain ⟨D, d1, d2⟩ := hq
  have hwn : 9007199254740992 * w ≤ n := Nat.le_trans (Nat.mul_le_mul_right w hw54) hR.1
  have t1 : (2 * w + st) * (2 * w + st) * (U * U) + D * (U * U) = 4 * (n * (U * U)) + 4 * (w * (U * U)) := by rw [← Nat.add_mul, d1, Nat.add_mul, Nat.mul_assoc 4 n, Nat.mul_assoc 4 w]
  have t2 := Nat.mul_le_mul_right (U * U) d2
  have t3 := Nat.mul_le_mul_right (U * U) hwn
  rw [Nat.mul_assoc 8 w] at t2
  rw [Nat.mul_assoc] at t3
  rw [hX]
  generalize (2 * w + st) * (2 * w + st) * (U * U) = C at *
  generalize n * (U * U) = B at *
  generalize w * (U * U) = W at *
  generalize D * (U * U) = F at *
  generalize val k * val k = A at *
  constructor <;> omega
end Go.Proofs.YtekejddblgkcgaaDoor
