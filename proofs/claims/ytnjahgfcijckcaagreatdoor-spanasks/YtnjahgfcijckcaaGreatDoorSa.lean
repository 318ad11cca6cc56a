/- Steps of bits from a float to its neighbours, two ways told: no program in this text. -/
import Derived.Test.YtnjahgfcijckcaaGreatDoorFz
namespace Go.Proofs.YtnjahgfcijckcaaGreatDoor

/-- A float's size with another one's sign. -/
def cpy (f s : Nat) : Nat := rung f + (if sgn s then 9223372036854775808 else 0)
def negW (x : Nat) : Nat := Op.negFloat .f64 x
def signF (x : Nat) : Int := if nanB x then 0 else if place x < 0 then -1 else if 0 < place x then 1 else 0
def dnB (m : Int) (neg : Bool) : Bool := m == 1 || (m == 3 && !neg)
def upB (m : Int) (neg : Bool) : Bool := m == 2 || (m == 3 && neg)
/-- One step on from the nearest float, if the way of rounding asks for it. -/
def stepF (x : Nat) (r m : Int) : Nat := if (dnB m (sgn x) && decide (r < 0)) || (upB m (sgn x) && decide (0 < r)) then cpy (nextF x (decide (0 < r))) x else x
def noughtF (a b : Nat) (m : Int) : Nat := if sgn a == sgn b then a else if m == 1 then 9223372036854775808 else 0

/-- The document's way. -/
def upR (x : Nat) : Nat := if rung x = 0 then 1 else if sgn x then x - 1 else x + 1
def downR (x : Nat) : Nat := negW (upR (negW x))
def sideR (x : Nat) (e m : Int) : Nat := if decide (e < 0) && (m == 1 || (m == 3 && (!sgn x && rung x != 0))) then downR x else if decide (0 < e) && (m == 2 || (m == 3 && (sgn x && rung x != 0))) then upR x else x
def greatR (x : Nat) (m : Int) : Nat := if m == 3 || (!sgn x && m == 1) || (sgn x && m == 2) then cpy 9218868437227405311 x else x
def noughtR (zero neg : Bool) (b : Nat) (m : Int) : Nat := if zero && (rung b == 0 && neg == sgn b) then b else if m == 1 then 9223372036854775808 else 0

theorem negW_pos {r : Nat} (h : r < 9223372036854775808) : negW r = 9223372036854775808 + r := neg_word h
theorem negW_neg {r : Nat} (h : r < 9223372036854775808) : negW (9223372036854775808 + r) = r := by
  rw [← negW_pos h]
  unfold negW Op.negFloat
  rw [Nat.xor_assoc, Nat.xor_self, Nat.xor_zero]
theorem negW_lt {x : Nat} (h : x < 18446744073709551616) : negW x < 18446744073709551616 := (neg_place h).2.2
theorem rung_big {r : Nat} (h : r < 9223372036854775808) : rung (9223372036854775808 + r) = r ∧ sgn (9223372036854775808 + r) = true := by
  unfold rung sgn
  exact ⟨by omega, by simp⟩
theorem rung_pos {r : Nat} (h : r < 9223372036854775808) : rung r = r ∧ sgn r = false := ⟨rung_small h, sgn_small h⟩
/-- A word is its rung, or that with the sign's weight. -/
theorem word_two {x : Nat} (h : x < 18446744073709551616) : (x = rung x ∧ sgn x = false) ∨ (x = 9223372036854775808 + rung x ∧ sgn x = true) := by
  have e := rung_of x h
  cases hs : sgn x <;> rw [hs] at e
  · exact Or.inl ⟨by simpa using e, rfl⟩
  · exact Or.inr ⟨by simpa using e, rfl⟩

theorem at_plus {p : Nat} (h : p ≤ 9218868437227405312) : atF (p : Int) = p := by
  unfold atF; rw [atB_in (by omega), if_pos rfl, if_neg (by omega)]; omega
theorem at_minus {p : Nat} (h : p ≤ 9218868437227405312) (h0 : p ≠ 0) : atF (-(p : Int)) = 9223372036854775808 + p := by
  unfold atF; rw [atB_in (by omega), if_pos rfl, if_pos (by omega)]; omega

theorem next_plus {r : Nat} (h : r < 9218868437227405312) : nextF r true = r + 1 := by
  obtain ⟨h1, h2⟩ := rung_pos (r := r) (by omega)
  unfold nextF place
  rw [nan_small (by omega), h2, h1]
  simp only [Bool.false_eq_true, if_false, if_true]
  rw [show min ((r : Int) + 1) 9218868437227405312 = ((r + 1 : Nat) : Int) by omega]
  exact at_plus (by omega)
theorem next_less {r : Nat} (h : r ≤ 9218868437227405312) (h0 : r ≠ 0) : nextF r false = r - 1 := by
  obtain ⟨h1, h2⟩ := rung_pos (r := r) (by omega)
  unfold nextF place
  rw [nan_small (by omega), h2, h1]
  simp only [Bool.false_eq_true, if_false]
  rw [show max ((r : Int) - 1) (-9218868437227405312) = ((r - 1 : Nat) : Int) by omega]
  exact at_plus (by omega)
theorem nan_big {r : Nat} (h : r ≤ 9218868437227405312) : nanB (9223372036854775808 + r) = false := by
  unfold nanB; rw [(rung_big (by omega)).1]; simp; omega
theorem next_big_dn {r : Nat} (h : r < 9218868437227405312) : nextF (9223372036854775808 + r) false = 9223372036854775808 + (r + 1) := by
  obtain ⟨h1, h2⟩ := rung_big (r := r) (by omega)
  unfold nextF place
  rw [nan_big (by omega), h2, h1]
  simp only [Bool.false_eq_true, if_false, if_true]
  rw [show max (-(r : Int) - 1) (-9218868437227405312) = -((r + 1 : Nat) : Int) by omega]
  exact at_minus (by omega) (by omega)
theorem next_big_up {r : Nat} (h : r ≤ 9218868437227405312) (h0 : r ≠ 0) : rung (nextF (9223372036854775808 + r) true) = r - 1 := by
  obtain ⟨h1, h2⟩ := rung_big (r := r) (by omega)
  unfold nextF place
  rw [nan_big (by omega), h2, h1]
  simp only [Bool.false_eq_true, if_false, if_true]
  rw [show min (-(r : Int) + 1) 9218868437227405312 = -((r - 1 : Nat) : Int) by omega]
  by_cases h2 : r - 1 = 0
  · rw [h2]; rfl
  · rw [at_minus (by omega) h2]; exact (rung_big (by omega)).1
theorem cpy_pos {f r : Nat} (h : r < 9223372036854775808) : cpy f r = rung f := by unfold cpy; rw [(rung_pos h).2]; rfl
theorem cpy_big {f r : Nat} (h : r < 9223372036854775808) : cpy f (9223372036854775808 + r) = 9223372036854775808 + rung f := by unfold cpy; rw [(rung_big h).2, if_pos rfl]; omega

theorem step_up {x : Nat} (hx : x < 18446744073709551616) (hf : rung x < 9218868437227405312) (h0 : rung x ≠ 0) : cpy (nextF x true) x = upR x := by
  rcases word_two hx with ⟨e, hs⟩ | ⟨e, hs⟩
  · unfold upR
    rw [if_neg h0, hs, if_neg (by simp)]
    generalize rung x = r at *
    subst e
    rw [next_plus hf, cpy_pos (by omega), rung_small (by omega)]
  · unfold upR
    rw [if_neg h0, hs, if_pos rfl]
    generalize rung x = r at *
    subst e
    rw [cpy_big (by omega), next_big_up (by omega) h0]; omega
theorem step_down {x : Nat} (hx : x < 18446744073709551616) (hf : rung x < 9218868437227405312) (h0 : rung x ≠ 0) : cpy (nextF x false) x = downR x := by
  rcases word_two hx with ⟨e, hs⟩ | ⟨e, hs⟩
  · generalize rung x = r at *
    subst e
    unfold downR
    rw [negW_pos (r := x) (by omega), next_less (by omega) h0, cpy_pos (by omega), rung_small (by omega)]
    unfold upR
    rw [(rung_big (r := x) (by omega)).1, (rung_big (r := x) (by omega)).2, if_neg h0, if_pos rfl, show 9223372036854775808 + x - 1 = 9223372036854775808 + (x - 1) by omega, negW_neg (by omega)]
  · generalize rung x = r at *
    subst e
    unfold downR
    rw [negW_neg (r := r) (by omega), next_big_dn hf, cpy_big (by omega), (rung_big (by omega)).1]
    unfold upR
    rw [(rung_pos (r := r) (by omega)).1, (rung_pos (r := r) (by omega)).2, if_neg h0, if_neg (by simp), negW_pos (by omega)]

theorem step_side {x : Nat} (r m : Int) (hx : x < 18446744073709551616) (hf : rung x < 9218868437227405312) (h0 : rung x ≠ 0) : stepF x r m = sideR x r m := by
  have hu := step_up hx hf h0
  have hd := step_down hx hf h0
  have h0' : (rung x != 0) = true := by simpa using h0
  unfold stepF sideR dnB upB
  rw [h0']
  by_cases h1 : r < 0
  · rw [decide_eq_true h1, decide_eq_false (by omega : ¬ 0 < r)]
    simp only [Bool.and_true, Bool.and_false, Bool.or_false, Bool.true_and, Bool.false_and, Bool.false_eq_true, if_false]
    split
    · exact hd
    · rfl
  · rw [decide_eq_false h1]
    by_cases h2 : 0 < r
    · rw [decide_eq_true h2]
      simp only [Bool.and_true, Bool.and_false, Bool.false_or, Bool.true_and, Bool.false_and, Bool.false_eq_true, if_false]
      split
      · exact hu
      · rfl
    · rw [decide_eq_false h2]
      simp only [Bool.and_false, Bool.false_or, Bool.false_and, Bool.false_eq_true, if_false]
theorem step_great {x : Nat} (m : Int) (hx : x < 18446744073709551616) (hf : rung x = 9218868437227405312) : stepF x (if sgn x then 1 else -1) m = greatR x m := by
  have key : ∀ y : Nat, y = 9218868437227405312 ∨ y = 18442240474082181120 → stepF y (if sgn y then 1 else -1) m = greatR y m := by
    intro y hy
    by_cases h1 : m = 1
    · subst h1; rcases hy with rfl | rfl <;> kernel_rfl
    · by_cases h2 : m = 2
      · subst h2; rcases hy with rfl | rfl <;> kernel_rfl
      · by_cases h3 : m = 3
        · subst h3; rcases hy with rfl | rfl <;> kernel_rfl
        · have e1 : (m == 1) = false := by simpa using h1
          have e2 : (m == 2) = false := by simpa using h2
          have e3 : (m == 3) = false := by simpa using h3
          unfold stepF greatR dnB upB
          rw [e1, e2, e3]
          simp
  rcases word_two hx with ⟨e, _⟩ | ⟨e, _⟩
  · exact key x (Or.inl (by omega))
  · exact key x (Or.inr (by omega))
end Go.Proofs.YtnjahgfcijckcaaGreatDoor
