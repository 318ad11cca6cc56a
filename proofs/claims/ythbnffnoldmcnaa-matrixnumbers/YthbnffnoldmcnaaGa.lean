/- The middle of a float and the next one above it, as the program's halves and their sum come out: one of the two, unless they are tiny. -/
import Derived.Test.YthbnffnoldmcnaaFz
namespace Go.Proofs.Ythbnffnoldmcnaa
open Go.RowKit

theorem nearest_word (s : Bool) (m : Nat) (p : Int) : ∃ q, q ≤ 9218868437227405312 ∧ Ieee.double.nearest s m p = Ieee.double.word s q := by
  have s3 : Ieee.double.infRung = 9218868437227405312 := by decide
  unfold Ieee.Format.nearest
  by_cases h : m = 0
  · rw [if_pos h]; exact ⟨0, by omega, rfl⟩
  · rw [if_neg h]; exact ⟨_, by rw [s3]; omega, rfl⟩

theorem quo_some {a : Nat} (ha : a < 18446744073709551616) (hf : finB a = true) : ∃ q, q ≤ 9218868437227405312 ∧ floatBits .quo .f64 a 4611686018427387904 = some (Ieee.double.word (sgn a) q) := by
  unfold floatBits
  simp only [fmt64, Ieee.Format.div]
  rw [read_fin ha hf, read_two]
  simp only [Ieee.Datum.quotient]
  rw [if_neg (by omega)]
  simp only [Option.map_some, Ieee.Format.write, Option.some.injEq, Bool.xor_false]
  exact nearest_word _ _ _
theorem quo_nought : floatBits .quo .f64 9223372036854775808 4611686018427387904 = some (Ieee.double.word true 0) := by decide +kernel
theorem quo_zero : floatBits .quo .f64 0 4611686018427387904 = some 0 := by decide +kernel

theorem read_le (s : Bool) {q : Nat} (h : q ≤ 9218868437227405312) : Ieee.double.read (Ieee.double.word s q) = .number s (mg q) (-1074 + (up q : Nat)) ∨ Ieee.double.read (Ieee.double.word s q) = .infinity s := by
  by_cases hq : q < 9218868437227405312
  · left; exact read_word s hq
  · right
    obtain ⟨h1, h2⟩ := word_rung s (r := q) (by omega)
    rw [read_eq _ (word_lt64 s (by omega)), h1, h2, if_neg hq, if_pos (by omega)]
theorem add_some (s t : Bool) {q r : Nat} (hq : q ≤ 9218868437227405312) (hr : r ≤ 9218868437227405312) (h : s = t ∨ r < 9218868437227405312 ∨ q < 9218868437227405312) : ∃ m, floatBits .add .f64 (Ieee.double.word s q) (Ieee.double.word t r) = some m := by
  unfold floatBits
  simp only [fmt64, Ieee.Format.add]
  rcases read_le s hq with e1 | e1 <;> rcases read_le t hr with e2 | e2 <;> rw [e1, e2]
  · exact ⟨_, rfl⟩
  · exact ⟨_, rfl⟩
  · exact ⟨_, rfl⟩
  · rcases h with h | h
    · subst h; simp only [Ieee.Datum.sum, if_true]; exact ⟨_, rfl⟩
    · rcases h with h | h
      · rw [read_word t h] at e2; cases e2
      · rw [read_word s h] at e1; cases e1

theorem half_rung {q r : Nat} (h : q + 4503599627370496 = r) (hq : 4503599627370496 ≤ q) : val r = 2 * val q ∧ up q + 1 = up r ∧ mg q = mg r := by
  have e1 : r % 4503599627370496 = q % 4503599627370496 := by omega
  have e2 : r / 4503599627370496 = q / 4503599627370496 + 1 := by omega
  have e3 : q / 4503599627370496 + 1 - 1 = (q / 4503599627370496 - 1) + 1 := by omega
  unfold val up mg
  rw [if_neg (show ¬ r < 4503599627370496 by omega), if_neg (show ¬ q < 4503599627370496 by omega), if_neg (show ¬ q < 4503599627370496 by omega), if_neg (show ¬ r < 4503599627370496 by omega), if_neg (show ¬ q < 4503599627370496 by omega), if_neg (show ¬ r < 4503599627370496 by omega), e1, e2]
  refine ⟨?_, by omega, rfl⟩
  rw [e3, Nat.pow_succ]
  generalize 4503599627370496 + q % 4503599627370496 = A
  generalize 2 ^ (q / 4503599627370496 - 1) = t
  rw [← Nat.mul_assoc, Nat.mul_comm]
theorem half_word (s : Bool) {q r : Nat} (h : q + 4503599627370496 = r) (hq : 4503599627370496 ≤ q) (hr : r < 9218868437227405312) : floatBits .quo .f64 (Ieee.double.word s r) 4611686018427387904 = some (Ieee.double.word s q) := by
  obtain ⟨h1, h2, _⟩ := half_rung h hq
  exact half_exact s hr (by omega) (by omega) (by omega) (by omega) (by omega) h1

theorem mid_fit {r U M k : Nat} (h : r = U * 4503599627370496 + M) (hk : k = M ∨ k = M + 1) (hr : r + 1 < 9218868437227405312) : min (U * 4503599627370496 + k) 9218868437227405312 = U * 4503599627370496 + k ∧ (U * 4503599627370496 + k = r ∨ U * 4503599627370496 + k = r + 1) := by omega
theorem mid_fit2 {r q p : Nat} (hq : q + 4503599627370496 = r) (hp : p + 4503599627370496 = r + 1) (hr : r + 1 < 9218868437227405312) : q < 9218868437227405312 ∧ p < 9218868437227405312 := by omega
theorem mid_sum (s : Bool) {r q p : Nat} (hq : q + 4503599627370496 = r) (hp : p + 4503599627370496 = r + 1) (h : 4503599627370496 ≤ q) (hr : r + 1 < 9218868437227405312) :
    ∃ k, (k = r ∨ k = r + 1) ∧ floatBits .add .f64 (Ieee.double.word s q) (Ieee.double.word s p) = some (Ieee.double.word s k)
      ∧ floatBits .add .f64 (Ieee.double.word s p) (Ieee.double.word s q) = some (Ieee.double.word s k) := by
  obtain ⟨v1, u1, m1⟩ := half_rung hq h
  obtain ⟨v2, u2, m2⟩ := half_rung hp (by omega)
  have hs := up_succ r
  have hd := diff_one r
  have hR : 4503599627370496 ≤ mg r := by have := mg_up_ok r; omega
  obtain ⟨k, hk, hn⟩ := nearest_half s (R := mg r) (U := up r) hR (mg_lt r) (by omega)
  have hrm := rung_mg r
  have hup2 : up p - (up r - 1) = up (r + 1) - up r := by omega
  have hmin1 : min (up q) (up p) = up r - 1 := by omega
  have hmin2 : min (up p) (up q) = up r - 1 := by omega
  have hz : up q - (up r - 1) = 0 := by omega
  have sg : ∀ n : Nat, Ieee.signed s n 0 = if s then -(n : Int) else (n : Int) := by
    intro n; unfold Ieee.signed; rw [Nat.shiftLeft_zero]
  have t1 : Ieee.signed s (mg q) 0 = if s then -(mg r : Int) else (mg r : Int) := by rw [sg, m1]
  have t2 : Ieee.signed s (mg p) (up (r + 1) - up r) = if s then -((mg r + 1 : Nat) : Int) else ((mg r + 1 : Nat) : Int) := by
    unfold Ieee.signed; rw [Nat.shiftLeft_eq, m2, hd]
  have tot : ∀ x y : Int, x = (if s then -(mg r : Int) else (mg r : Int)) → y = (if s then -((mg r + 1 : Nat) : Int) else ((mg r + 1 : Nat) : Int)) → (x + y ≠ 0 ∧ decide (x + y < 0) = s ∧ (x + y).natAbs = 2 * mg r + 1) ∧ (y + x ≠ 0 ∧ decide (y + x < 0) = s ∧ (y + x).natAbs = 2 * mg r + 1) := by
    intro x y hx hy
    cases s
    · simp only [Bool.false_eq_true, if_false] at hx hy
      refine ⟨⟨by omega, by simp; omega, by omega⟩, ⟨by omega, by simp; omega, by omega⟩⟩
    · simp only [if_true] at hx hy
      refine ⟨⟨by omega, by simp; omega, by omega⟩, ⟨by omega, by simp; omega, by omega⟩⟩
  obtain ⟨hkk, hk2⟩ := mid_fit hrm hk hr
  have hq3 := (mid_fit2 hq hp hr).1
  have hp3 := (mid_fit2 hq hp hr).2
  refine ⟨up r * 4503599627370496 + k, hk2, ?_, ?_⟩
  · obtain ⟨⟨a1, a2, a3⟩, _⟩ := tot _ _ t1 t2
    unfold floatBits
    simp only [fmt64, Ieee.Format.add]
    rw [read_word s hq3, read_word s hp3, sum_val, hmin1, hz, hup2, if_neg a1, a2, a3]
    simp only [Option.map_some, Ieee.Format.write, Option.some.injEq]
    rw [hn, hkk]
  · obtain ⟨_, ⟨a1, a2, a3⟩⟩ := tot _ _ t1 t2
    unfold floatBits
    simp only [fmt64, Ieee.Format.add]
    rw [read_word s hp3, read_word s hq3, sum_val, hmin2, hz, hup2, if_neg a1, a2, a3]
    simp only [Option.map_some, Ieee.Format.write, Option.some.injEq]
    rw [hn, hkk]

/-- Halves and sum of a float and the next one above it. -/
theorem mid_all {a : Nat} (ha : a < 18446744073709551616) (hf : finB a = true) (hu : finB (nextF a true) = true) :
    ∃ h1 h2 m, floatBits .quo .f64 a 4611686018427387904 = some h1 ∧ floatBits .quo .f64 (nextF a true) 4611686018427387904 = some h2 ∧ floatBits .add .f64 h1 h2 = some m
      ∧ (103582791429521408 ≤ rung a → m = a ∨ m = nextF a true) := by
  have na := finB_nan hf
  obtain ⟨p1, p2, p3⟩ := next_up na
  rw [fin_place] at hf hu
  have hf' : -9218868437227405312 < place a ∧ place a < 9218868437227405312 := by simpa using hf
  have hu' : -9218868437227405312 < place (nextF a true) ∧ place (nextF a true) < 9218868437227405312 := by simpa using hu
  by_cases hb : 103582791429521408 ≤ rung a
  · have hwa := word_of ha
    have hwu := word_of p3
    have hra := rung_lt a
    have hru := rung_lt (nextF a true)
    cases hs : sgn a
    · have pa : place a = rung a := by unfold place; rw [hs]; rfl
      have hsu : sgn (nextF a true) = false ∧ rung (nextF a true) = rung a + 1 := by
        unfold place at p1 pa hu'
        cases hsu : sgn (nextF a true)
        · rw [hsu] at p1; simp only [Bool.false_eq_true, if_false, hs] at p1; exact ⟨rfl, by omega⟩
        · rw [hsu] at p1; simp only [Bool.false_eq_true, if_false, if_true, hs] at p1; omega
      rw [hs] at hwa
      rw [hsu.1, hsu.2] at hwu
      obtain ⟨q, hq⟩ : ∃ q, q + 4503599627370496 = rung a := ⟨rung a - 4503599627370496, by omega⟩
      obtain ⟨p, hp⟩ : ∃ p, p + 4503599627370496 = rung a + 1 := ⟨q + 1, by omega⟩
      obtain ⟨k, hk, e1, _⟩ := mid_sum false hq hp (by omega) (by omega)
      refine ⟨_, _, Ieee.double.word false k, ?_, ?_, e1, fun _ => ?_⟩
      · exact (congrArg (fun x => floatBits .quo .f64 x 4611686018427387904) hwa).trans (half_word false hq (by omega) (by omega))
      · exact (congrArg (fun x => floatBits .quo .f64 x 4611686018427387904) hwu).trans (half_word false hp (by omega) (by omega))
      · rcases hk with rfl | rfl
        · left; exact hwa.symm
        · right; exact hwu.symm
    · have pa : place a = -(rung a : Int) := by unfold place; rw [hs]; rfl
      have hsu : sgn (nextF a true) = true ∧ rung (nextF a true) + 1 = rung a := by
        unfold place at p1 pa hu'
        cases hsu : sgn (nextF a true)
        · rw [hsu] at p1; simp only [Bool.false_eq_true, if_false, if_true, hs] at p1; omega
        · rw [hsu] at p1; simp only [if_true, hs] at p1; exact ⟨rfl, by omega⟩
      rw [hs] at hwa
      rw [hsu.1] at hwu
      obtain ⟨q, hq⟩ : ∃ q, q + 4503599627370496 = rung (nextF a true) := ⟨rung (nextF a true) - 4503599627370496, by omega⟩
      obtain ⟨p, hp⟩ : ∃ p, p + 4503599627370496 = rung (nextF a true) + 1 := ⟨q + 1, by omega⟩
      obtain ⟨k, hk, _, e1⟩ := mid_sum true hq hp (by omega) (by omega)
      refine ⟨_, _, Ieee.double.word true k, ?_, ?_, e1, fun _ => ?_⟩
      · exact (congrArg (fun x => floatBits .quo .f64 x 4611686018427387904) hwa).trans (half_word true (r := rung a) (by omega) (by omega) (by omega))
      · exact (congrArg (fun x => floatBits .quo .f64 x 4611686018427387904) hwu).trans (half_word true hq (by omega) (by omega))
      · rcases hk with rfl | rfl
        · right; exact hwu.symm
        · left; rw [hsu.2]; exact hwa.symm
  · obtain ⟨q1, l1, e1⟩ := quo_some ha (by rw [fin_place]; exact hf)
    obtain ⟨q2, l2, e2⟩ := quo_some p3 (by rw [fin_place]; exact hu)
    by_cases hz : place (nextF a true) = 0
    · have hat : nextF a true = 0 := by
        have e : nextF a true = atF (min (place a + 1) 9218868437227405312) := by unfold nextF; rw [na]; rfl
        rw [e, ← p1, hz]; decide
      rw [hat, quo_zero] at e2
      obtain ⟨m, hm⟩ := add_some (sgn a) false l1 (r := 0) (by omega) (Or.inr (Or.inl (by omega)))
      exact ⟨_, 0, m, e1, by rw [hat]; exact quo_zero, hm, fun h => absurd h hb⟩
    · by_cases hn : a = 9223372036854775808
      · obtain ⟨m, hm⟩ := add_some true (sgn (nextF a true)) (q := 0) (by omega) l2 (Or.inr (Or.inr (by omega)))
        exact ⟨_, _, m, by rw [hn]; exact quo_nought, e2, hm, fun h => absurd h hb⟩
      · have hw := rung_of a ha
        have hsg : sgn a = sgn (nextF a true) := by
          unfold place at p1 hz hf'
          cases hs : sgn a <;> cases hsu : sgn (nextF a true) <;> simp only [hs, hsu, Bool.false_eq_true, if_false, if_true] at p1 hz hf' hw <;> first | rfl | omega
        obtain ⟨m, hm⟩ := add_some (sgn a) (sgn (nextF a true)) l1 l2 (Or.inl hsg)
        exact ⟨_, _, m, e1, e2, hm, fun h => absurd h hb⟩
end Go.Proofs.Ythbnffnoldmcnaa
