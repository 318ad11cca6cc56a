/- Same, of the program and of the document. -/
import Derived.Test.YtmbcmhncicbbjaaGreatDoorU1
import Derived.Test.YtmbcmhncicbbjaaGreatDoorZb
import Derived.Deep.RegionHeld3
import Derived.Deep.LoopGhost
import Derived.Deep.QuietTactic
import Derived.BigQuiet
namespace Go.Proofs.YtmbcmhncicbbjaaGreatDoor

/-- A float's size with another one's sign. -/
def cpy (f s : Nat) : Nat := rung f + (if sgn s then 9223372036854775808 else 0)
def negW (x : Nat) : Nat := Op.negFloat .f64 x
def signF (x : Nat) : Int := if nanB x then 0 else if place x < 0 then -1 else if 0 < place x then 1 else 0
def dnB (m : Int) (neg : Bool) : Bool := m == 1 || (m == 3 && !neg)
def upB (m : Int) (neg : Bool) : Bool := m == 2 || (m == 3 && neg)
/-- One step on from the nearest float, if the way of rounding asks for it. -/
def stepF (x : Nat) (r m : Int) : Nat := if (dnB m (sgn x) && decide (r < 0)) || (upB m (sgn x) && decide (0 < r)) then cpy (nextF x (decide (0 < r))) x else x
def noughtF (a b : Nat) (m : Int) : Nat := if sgn a == sgn b then a else if m == 1 then 9223372036854775808 else 0

/-- The document's way. -/
def upR (x : Nat) : Nat := if rung x = 0 then 1 else if sgn x then x - 1 else x + 1
def downR (x : Nat) : Nat := negW (upR (negW x))
def sideR (x : Nat) (e m : Int) : Nat := if decide (e < 0) && (m == 1 || (m == 3 && (!sgn x && rung x != 0))) then downR x else if decide (0 < e) && (m == 2 || (m == 3 && (sgn x && rung x != 0))) then upR x else x
def greatR (x : Nat) (m : Int) : Nat := if m == 3 || (!sgn x && m == 1) || (sgn x && m == 2) then cpy 9218868437227405311 x else x
def noughtR (zero neg : Bool) (b : Nat) (m : Int) : Nat := if zero && (rung b == 0 && neg == sgn b) then b else if m == 1 then 9223372036854775808 else 0

theorem negW_pos {r : Nat} (h : r < 9223372036854775808) : negW r = 9223372036854775808 + r := neg_word h
theorem negW_neg {r : Nat} (h : r < 9223372036854775808) : negW (9223372036854775808 + r) = r := by
  rw [← negW_pos h]
  unfold negW Op.negFloat
  rw [Nat.xor_assoc, Nat.xor_self, Nat.xor_zero]
theorem negW_lt {x : Nat} (h : x < 18446744073709551616) : negW x < 18446744073709551616 := (neg_place h).2.2
theorem rung_big {r : Nat} (h : r < 9223372036854775808) : rung (9223372036854775808 + r) = r ∧ sgn (9223372036854775808 + r) = true := by
  unfold rung sgn
  exact ⟨by omega, by simp⟩
theorem rung_pos {r : Nat} (h : r < 9223372036854775808) : rung r = r ∧ sgn r = false := ⟨rung_small h, sgn_small h⟩
/-- A word is its rung, or that with the sign's weight. -/
theorem word_two {x : Nat} (h : x < 18446744073709551616) : (x = rung x ∧ sgn x = false) ∨ (x = 9223372036854775808 + rung x ∧ sgn x = true) := by
  have e := rung_of x h
  cases hs : sgn x <;> rw [hs] at e
  · exact Or.inl ⟨by simpa using e, rfl⟩
  · exact Or.inr ⟨by simpa using e, rfl⟩

theorem at_plus {p : Nat} (h : p ≤ 9218868437227405312) : atF (p : Int) = p := by
  unfold atF; rw [atB_in (by omega), if_pos rfl, if_neg (by omega)]; omega
theorem at_minus {p : Nat} (h : p ≤ 9218868437227405312) (h0 : p ≠ 0) : atF (-(p : Int)) = 9223372036854775808 + p := by
  unfold atF; rw [atB_in (by omega), if_pos rfl, if_pos (by omega)]; omega

theorem next_plus {r : Nat} (h : r < 9218868437227405312) : nextF r true = r + 1 := by
  obtain ⟨h1, h2⟩ := rung_pos (r := r) (by omega)
  unfold nextF place
  rw [nan_small (by omega), h2, h1]
  simp only [Bool.false_eq_true, if_false, if_true]
  rw [show min ((r : Int) + 1) 9218868437227405312 = ((r + 1 : Nat) : Int) by omega]
  exact at_plus (by omega)
theorem next_less {r : Nat} (h : r ≤ 9218868437227405312) (h0 : r ≠ 0) : nextF r false = r - 1 := by
  obtain ⟨h1, h2⟩ := rung_pos (r := r) (by omega)
  unfold nextF place
  rw [nan_small (by omega), h2, h1]
  simp only [Bool.false_eq_true, if_false]
  rw [show max ((r : Int) - 1) (-9218868437227405312) = ((r - 1 : Nat) : Int) by omega]
  exact at_plus (by omega)
theorem nan_big {r : Nat} (h : r ≤ 9218868437227405312) : nanB (9223372036854775808 + r) = false := by
  unfold nanB; rw [(rung_big (by omega)).1]; simp; omega
theorem next_big_dn {r : Nat} (h : r < 9218868437227405312) : nextF (9223372036854775808 + r) false = 9223372036854775808 + (r + 1) := by
  obtain ⟨h1, h2⟩ := rung_big (r := r) (by omega)
  unfold nextF place
  rw [nan_big (by omega), h2, h1]
  simp only [Bool.false_eq_true, if_false, if_true]
  rw [show max (-(r : Int) - 1) (-9218868437227405312) = -((r + 1 : Nat) : Int) by omega]
  exact at_minus (by omega) (by omega)
theorem next_big_up {r : Nat} (h : r ≤ 9218868437227405312) (h0 : r ≠ 0) : rung (nextF (9223372036854775808 + r) true) = r - 1 := by
  obtain ⟨h1, h2⟩ := rung_big (r := r) (by omega)
  unfold nextF place
  rw [nan_big (by omega), h2, h1]
  simp only [Bool.false_eq_true, if_false, if_true]
  rw [show min (-(r : Int) + 1) 9218868437227405312 = -((r - 1 : Nat) : Int) by omega]
  by_cases h2 : r - 1 = 0
  · rw [h2]; rfl
  · rw [at_minus (by omega) h2]; exact (rung_big (by omega)).1
theorem cpy_pos {f r : Nat} (h : r < 9223372036854775808) : cpy f r = rung f := by unfold cpy; rw [(rung_pos h).2]; rfl
theorem cpy_big {f r : Nat} (h : r < 9223372036854775808) : cpy f (9223372036854775808 + r) = 9223372036854775808 + rung f := by unfold cpy; rw [(rung_big h).2, if_pos rfl]; omega

theorem step_up {x : Nat} (hx : x < 18446744073709551616) (hf : rung x < 9218868437227405312) (h0 : rung x ≠ 0) : cpy (nextF x true) x = upR x := by
  rcases word_two hx with ⟨e, hs⟩ | ⟨e, hs⟩
  · unfold upR
    rw [if_neg h0, hs, if_neg (by simp)]
    generalize rung x = r at *
    subst e
    rw [next_plus hf, cpy_pos (by omega), rung_small (by omega)]
  · unfold upR
    rw [if_neg h0, hs, if_pos rfl]
    generalize rung x = r at *
    subst e
    rw [cpy_big (by omega), next_big_up (by omega) h0]; omega
theorem step_down {x : Nat} (hx : x < 18446744073709551616) (hf : rung x < 9218868437227405312) (h0 : rung x ≠ 0) : cpy (nextF x false) x = downR x := by
  rcases word_two hx with ⟨e, hs⟩ | ⟨e, hs⟩
  · generalize rung x = r at *
    subst e
    unfold downR
    rw [negW_pos (r := x) (by omega), next_less (by omega) h0, cpy_pos (by omega), rung_small (by omega)]
    unfold upR
    rw [(rung_big (r := x) (by omega)).1, (rung_big (r := x) (by omega)).2, if_neg h0, if_pos rfl, show 9223372036854775808 + x - 1 = 9223372036854775808 + (x - 1) by omega, negW_neg (by omega)]
  · generalize rung x = r at *
    subst e
    unfold downR
    rw [negW_neg (r := r) (by omega), next_big_dn hf, cpy_big (by omega), (rung_big (by omega)).1]
    unfold upR
    rw [(rung_pos (r := r) (by omega)).1, (rung_pos (r := r) (by omega)).2, if_neg h0, if_neg (by simp), negW_pos (by omega)]

theorem step_side {x : Nat} (r m : Int) (hx : x < 18446744073709551616) (hf : rung x < 9218868437227405312) (h0 : rung x ≠ 0) : stepF x r m = sideR x r m := by
  have hu := step_up hx hf h0
  have hd := step_down hx hf h0
  have h0' : (rung x != 0) = true := by simpa using h0
  unfold stepF sideR dnB upB
  rw [h0']
  by_cases h1 : r < 0
  · rw [decide_eq_true h1, decide_eq_false (by omega : ¬ 0 < r)]
    simp only [Bool.and_true, Bool.and_false, Bool.or_false, Bool.true_and, Bool.false_and, Bool.false_eq_true, if_false]
    split
    · exact hd
    · rfl
  · rw [decide_eq_false h1]
    by_cases h2 : 0 < r
    · rw [decide_eq_true h2]
      simp only [Bool.and_true, Bool.and_false, Bool.false_or, Bool.true_and, Bool.false_and, Bool.false_eq_true, if_false]
      split
      · exact hu
      · rfl
    · rw [decide_eq_false h2]
      simp only [Bool.and_false, Bool.false_or, Bool.false_and, Bool.false_eq_true, if_false]
theorem step_great {x : Nat} (m : Int) (hx : x < 18446744073709551616) (hf : rung x = 9218868437227405312) : stepF x (if sgn x then 1 else -1) m = greatR x m := by
  have key : ∀ y : Nat, y = 9218868437227405312 ∨ y = 18442240474082181120 → stepF y (if sgn y then 1 else -1) m = greatR y m := by
    intro y hy
    by_cases h1 : m = 1
    · subst h1; rcases hy with rfl | rfl <;> kernel_rfl
    · by_cases h2 : m = 2
      · subst h2; rcases hy with rfl | rfl <;> kernel_rfl
      · by_cases h3 : m = 3
        · subst h3; rcases hy with rfl | rfl <;> kernel_rfl
        · have e1 : (m == 1) = false := by simpa using h1
          have e2 : (m == 2) = false := by simpa using h2
          have e3 : (m == 3) = false := by simpa using h3
          unfold stepF greatR dnB upB
          rw [e1, e2, e3]
          simp
  rcases word_two hx with ⟨e, _⟩ | ⟨e, _⟩
  · exact key x (Or.inl (by omega))
  · exact key x (Or.inr (by omega))
end Go.Proofs.YtmbcmhncicbbjaaGreatDoor

namespace Go.Proofs.YtmbcmhncicbbjaaGreatDoor

theorem nearest_bd (s : Bool) (m : Nat) (p : Int) : ∃ q, q ≤ 9218868437227405312 ∧ Ieee.double.nearest s m p = Ieee.double.word s q := by
  unfold Ieee.Format.nearest
  split
  · exact ⟨0, by omega, rfl⟩
  · exact ⟨_, Nat.min_le_right _ _, rfl⟩
theorem nearest_ne {s : Bool} {m : Nat} {p : Int} (hm : m ≠ 0) (hp : -1074 ≤ p) : ∃ q, q ≠ 0 ∧ q ≤ 9218868437227405312 ∧ Ieee.double.nearest s m p = Ieee.double.word s q := by
  have s2 : Ieee.double.binade = 4503599627370496 := by decide
  have s3 : Ieee.double.infRung = 9218868437227405312 := by decide
  have s4 : Ieee.double.leastPlace = -1074 := by decide
  unfold Ieee.Format.nearest
  rw [if_neg hm]
  simp only [s2, s3, s4]
  refine ⟨_, ?_, Nat.min_le_right _ _, rfl⟩
  generalize hL : max (p + (m.log2 : Int) - (Ieee.double.fractionBits : Nat)) (-1074) = L
  by_cases h : L = -1074
  · have hd : (L - p).toNat = 0 := by omega
    have hk : Ieee.Toward.even.cut s (m <<< (p - L).toNat) (L - p).toNat = m <<< (p - L).toNat := by
      rw [hd]
      unfold Ieee.Toward.cut
      simp [Nat.mod_one]
    rw [hk, Nat.shiftLeft_eq]
    have h1 : 0 < m * 2 ^ (p - L).toNat := Nat.mul_pos (Nat.pos_of_ne_zero hm) (Nat.pow_pos (by omega))
    omega
  · have h1 : 1 ≤ (L - -1074).toNat := by omega
    generalize Ieee.Toward.even.cut s (m <<< (p - L).toNat) (L - p).toNat = k
    omega
theorem fin_rung {x : Nat} (h : finB x = true) : rung x < 9218868437227405312 := by unfold finB at h; simpa using h
/-- What is told of an operation: a number told, NaN where none is. -/
def NR (o : Option Nat) (r : Nat) : Prop := r < 18446744073709551616 ∧ (match o with | some v => r = v | none => nanB r = true)

theorem add_told {a b : Nat} (ha : a < 18446744073709551616) (hb : b < 18446744073709551616) (fa : finB a = true) (fb : finB b = true) :
    ∃ r, floatBits .add .f64 a b = some r ∧ r < 18446744073709551616 ∧ rung r ≤ 9218868437227405312 ∧ (rung r = 0 → sgn a = sgn b → rung a = 0 ∧ rung b = 0) := by
  unfold floatBits
  simp only [fmt64, Ieee.Format.add]
  rw [read_fin ha fa, read_fin hb fb, sum_val]
  simp only [Option.map_some, Ieee.Format.write]
  generalize hT : Ieee.signed (sgn a) (mg (rung a)) (up (rung a) - min (up (rung a)) (up (rung b))) + Ieee.signed (sgn b) (mg (rung b)) (up (rung b) - min (up (rung a)) (up (rung b))) = T
  generalize (if T = 0 then sgn a && sgn b else decide (T < 0)) = S
  by_cases h0 : T = 0
  · obtain ⟨q, hq, e⟩ := nearest_bd S T.natAbs (-1074 + (min (up (rung a)) (up (rung b)) : Nat))
    refine ⟨_, rfl, ?_, ?_, ?_⟩
    · rw [e]; exact word_lt64 S (by omega)
    · rw [e, (word_rung S (by omega)).1]; exact hq
    · intro _ hs
      have hm : ∀ r, mg r = 0 → r = 0 := fun r h => by unfold mg at h; split at h <;> omega
      have hp : ∀ m k : Nat, 0 ≤ ((m <<< k : Nat) : Int) := fun _ _ => Int.natCast_nonneg _
      have hz : ∀ m k : Nat, m <<< k = 0 → m = 0 := fun m k h => by
        rw [Nat.shiftLeft_eq] at h
        rcases Nat.mul_eq_zero.1 h with h | h
        · exact h
        · exact absurd h (Nat.ne_of_gt (Nat.pow_pos (by omega)))
      rw [h0] at hT
      replace h0 := hT
      unfold Ieee.signed at h0
      rw [← hs] at h0
      have h1 := hp (mg (rung a)) (up (rung a) - min (up (rung a)) (up (rung b)))
      have h2 := hp (mg (rung b)) (up (rung b) - min (up (rung a)) (up (rung b)))
      have h3 : mg (rung a) <<< (up (rung a) - min (up (rung a)) (up (rung b))) = 0 ∧ mg (rung b) <<< (up (rung b) - min (up (rung a)) (up (rung b))) = 0 := by
        cases hg : sgn a <;> rw [hg] at h0 <;> simp only [Bool.false_eq_true, if_false, if_true] at h0 <;> omega
      exact ⟨hm _ (hz _ _ h3.1), hm _ (hz _ _ h3.2)⟩
  · obtain ⟨q, hq0, hq, e⟩ := nearest_ne (s := S) (p := -1074 + ((min (up (rung a)) (up (rung b)) : Nat) : Int)) (Int.natAbs_ne_zero.2 h0) (by omega)
    refine ⟨_, rfl, ?_, ?_, ?_⟩
    · rw [e]; exact word_lt64 S (by omega)
    · rw [e, (word_rung S (by omega)).1]; exact hq
    · intro h; rw [e, (word_rung S (by omega)).1] at h; exact absurd h hq0
theorem neg_read {b : Nat} (hb : b < 18446744073709551616) : Ieee.double.read (negW b) = (Ieee.double.read b).opposite := by
  have hr := rung_lt b
  rcases word_two hb with ⟨e, hs⟩ | ⟨e, hs⟩
  · have h1 : rung (negW b) = rung b ∧ sgn (negW b) = true := by
      rw [e, negW_pos (rung_lt _), (rung_big (rung_lt _)).1, rung_rung]; exact ⟨rfl, (rung_big (rung_lt _)).2⟩
    rw [read_eq _ (negW_lt hb), read_eq _ hb, h1.1, h1.2, hs]
    split
    · rfl
    · split <;> rfl
  · have h1 : rung (negW b) = rung b ∧ sgn (negW b) = false := by
      have h2 : negW b = rung b := by rw [e, negW_neg (rung_lt _), (rung_big (rung_lt _)).1]
      rw [h2, rung_rung]; exact ⟨rfl, (rung_pos (rung_lt _)).2⟩
    rw [read_eq _ (negW_lt hb), read_eq _ hb, h1.1, h1.2, hs]
    split
    · rfl
    · split <;> rfl
theorem fsub_add {a b : Nat} (hb : b < 18446744073709551616) : floatBits .sub .f64 a b = floatBits .add .f64 a (negW b) := by
  unfold floatBits
  simp only [fmt64, Ieee.Format.sub, Ieee.Format.add]
  rw [neg_read hb]
theorem neg_fin {b : Nat} (hb : b < 18446744073709551616) : finB (negW b) = finB b := by
  rw [fin_place, fin_place]
  have h := (neg_place hb).1
  unfold negW
  rw [h, decide_eq_decide]; omega
theorem sub_told {a b : Nat} (ha : a < 18446744073709551616) (hb : b < 18446744073709551616) (fa : finB a = true) (fb : finB b = true) :
    ∃ r, floatBits .sub .f64 a b = some r ∧ r < 18446744073709551616 ∧ rung r ≤ 9218868437227405312 := by
  rw [fsub_add hb]
  obtain ⟨r, h1, h2, h3, _⟩ := add_told ha (negW_lt hb) fa ((neg_fin hb).trans fb)
  exact ⟨r, h1, h2, h3⟩
theorem add_inf_l {i b : Nat} (hi : i < 18446744073709551616) (hr : rung i = 9218868437227405312) (hb : b < 18446744073709551616) (fb : finB b = true) : floatBits .add .f64 i b = some i := by
  unfold floatBits
  simp only [fmt64, Ieee.Format.add]
  rw [read_eq i hi, if_neg (by omega), if_pos hr, read_fin hb fb]
  simp only [Ieee.Datum.sum, Option.map_some, Ieee.Format.write, Option.some.injEq]
  have h := word_of hi
  rw [hr] at h
  exact h.symm
theorem add_inf_r {i b : Nat} (hi : i < 18446744073709551616) (hr : rung i = 9218868437227405312) (hb : b < 18446744073709551616) (fb : finB b = true) : floatBits .add .f64 b i = some i := by
  unfold floatBits
  simp only [fmt64, Ieee.Format.add]
  rw [read_eq i hi, if_neg (by omega), if_pos hr, read_fin hb fb]
  simp only [Ieee.Datum.sum, Option.map_some, Ieee.Format.write, Option.some.injEq]
  have h := word_of hi
  rw [hr] at h
  exact h.symm
theorem neg_rung {b : Nat} (hb : b < 18446744073709551616) : rung (negW b) = rung b ∧ sgn (negW b) = !sgn b := by
  rcases word_two hb with ⟨e, hs⟩ | ⟨e, hs⟩
  · rw [hs, e, negW_pos (rung_lt _), (rung_big (rung_lt _)).1, rung_rung]; exact ⟨rfl, (rung_big (rung_lt _)).2⟩
  · have h2 : negW b = rung b := by rw [e, negW_neg (rung_lt _), (rung_big (rung_lt _)).1]
    rw [h2, rung_rung, hs]; exact ⟨rfl, (rung_pos (rung_lt _)).2⟩
/-- What is left of an infinite sum: an infinity of the other sign. -/
theorem rest_inf {i x y : Nat} (hi : i < 18446744073709551616) (hr : rung i = 9218868437227405312) (hx : x < 18446744073709551616) (fx : finB x = true) (hy : y < 18446744073709551616) (fy : finB y = true) :
    floatBits .sub .f64 i x = some i ∧ floatBits .sub .f64 y i = some (negW i) ∧ signF (negW i) = if sgn i then 1 else -1 := by
  refine ⟨?_, ?_, ?_⟩
  · rw [fsub_add hx]; exact add_inf_l hi hr (negW_lt hx) ((neg_fin hx).trans fx)
  · rw [fsub_add hi]; exact add_inf_r (negW_lt hi) ((neg_rung hi).1.trans hr) hy fy
  · obtain ⟨h1, h2⟩ := neg_rung hi
    unfold signF nanB place
    rw [h1, h2, hr]
    cases sgn i <;> rfl
theorem signF_bd (x : Nat) : -1 ≤ signF x ∧ signF x ≤ 1 := by unfold signF; (repeat' split) <;> omega
end Go.Proofs.YtmbcmhncicbbjaaGreatDoor

namespace Go.Proofs.YtmbcmhncicbbjaaGreatDoor
open Go.RowKit

theorem or_none {r : Nat} (h : r < 9223372036854775808) : bits .or .u64 (r : Int) 0 = (r : Int) := by
  have h1 := u64_or_nat r 0 (by omega) (by omega)
  rw [show ((0 : Nat) : Int) = 0 from rfl] at h1
  rw [h1, Nat.or_zero]
theorem or_sgn {r : Nat} (s : Nat) (h : r < 9223372036854775808) : (bits .or .u64 (r : Int) (if sgn s then 9223372036854775808 else 0)).toNat = r + (if sgn s then 9223372036854775808 else 0) := by
  cases sgn s
  · simp only [Bool.false_eq_true, if_false]
    have : bits .or .u64 (r : Int) 0 = (r : Int) := or_none h
    rw [this]; omega
  · simp only [if_true]
    have h1 := or_sign h
    have h2 : bits .or .u64 (r : Int) 9223372036854775808 = bits .or .u64 9223372036854775808 (r : Int) := by
      unfold bits
      simp [BitVec.or_comm]
    rw [h2, h1]; omega
set_option maxHeartbeats 400000 in
theorem copysign_any (f s : Nat) (hf : f < 18446744073709551616) (hs : s < 18446744073709551616) (w : World) :
    Calls Tryz.prog 127 #[.float .f64 f, .float .f64 s] w fun e w' => e = .returned (.float .f64 (cpy f s)) ∧ w' = w := by
  have fa := run_fbits f
  have fs := run_fbits s
  have ff := run_ffrom
  go_enter Tryz.func127, Tryz.ntmps127
  go_wp2
  go_ret
  exact ⟨end_flt (by rw [andNot_sign f hf, and_sign s hs]; exact or_sgn s (rung_lt f)), rfl⟩

theorem zero_lt {x : Nat} (hx : x < 18446744073709551616) : (FloatKind.f64.format.order x 0 == some .lt) = (!nanB x && decide (place x < 0)) := by
  cases hn : nanB x
  · rw [lt_num hx (by omega) hn (nan_small (by omega))]; rfl
  · rw [ord_nan hx (by omega) (Or.inl hn)]; rfl
theorem zero_gt {x : Nat} (hx : x < 18446744073709551616) : (FloatKind.f64.format.order x 0 == some .gt) = (!nanB x && decide (0 < place x)) := by
  cases hn : nanB x
  · rw [gt_num hx (by omega) hn (nan_small (by omega))]; rfl
  · rw [ord_nan hx (by omega) (Or.inl hn)]; rfl
theorem zero_eq {x : Nat} (hx : x < 18446744073709551616) : (FloatKind.f64.format.order x 0 == some .eq) = (rung x == 0) := by
  cases hn : nanB x
  · rw [eq_num hx (by omega) hn (nan_small (by omega)), show place 0 = 0 from rfl]
    unfold place
    by_cases h : rung x = 0
    · rw [h]; cases sgn x <;> rfl
    · have h1 : (rung x == 0) = false := by simpa using h
      rw [h1, decide_eq_false]
      split <;> omega
  · rw [ord_nan hx (by omega) (Or.inl hn)]
    have h : rung x ≠ 0 := by unfold nanB at hn; simp at hn; omega
    have h1 : (rung x == 0) = false := by simpa using h
    rw [h1]; rfl
theorem zero_ne {x : Nat} (hx : x < 18446744073709551616) : (FloatKind.f64.format.order x 0 != some .eq) = (rung x != 0) := by
  have h := zero_eq hx
  unfold bne
  rw [h]
/-- A float converted to its own type. -/
theorem conv64 (b : Nat) (w : World) : (convert 48 48 (.float .f64 b)).run Tryz.prog w = .ok (.float .f64 b) w := by
  simp [convert, run_underlying Tryz.underlying48, Result.andThen]
  rfl
set_option maxHeartbeats 400000 in
theorem rofin_any (a : Nat) (ha : a < 18446744073709551616) (w : World) :
    Calls Tryz.prog 104 #[.float .f64 a] w fun e w' => e = .returned (.bool (finB a)) ∧ w' = w := by
  go_enter Tryz.func104, Tryz.ntmps104
  go_wp2_with (go_at_call 47; refine (abs_any _ (by assumption) _).mono ?_; rintro e w' ⟨rfl, rfl⟩)
  go_ret
  exact ⟨end_bool (fin_le a), rfl⟩
set_option maxHeartbeats 400000 in
theorem rsign_any (x : Nat) (hx : x < 18446744073709551616) (w : World) :
    Calls Tryz.prog 107 #[.float .f64 x] w fun e w' => e = .returned (.int .i64 (signF x)) ∧ w' = w := by
  have h1 := zero_lt hx
  have h2 := zero_gt hx
  have HE : Hid (signF x = if (!nanB x && decide (place x < 0)) then -1 else if (!nanB x && decide (0 < place x)) then 1 else 0) := by
    show _ = _
    unfold signF
    cases nanB x <;> simp
  cases g1 : (!nanB x && decide (place x < 0)) <;> cases g2 : (!nanB x && decide (0 < place x)) <;> rw [g1] at h1 <;> rw [g2] at h2 <;>
    (go_enter Tryz.func107, Tryz.ntmps107
     go_wp2
     go_ret
     exact ⟨end_int (by rw [HE.out, g1, g2]; rfl), rfl⟩)
set_option maxHeartbeats 400000 in
theorem dsign_any (x : Nat) (hx : x < 18446744073709551616) (w : World) :
    Calls Tryz.prog 113 #[.float .f64 x] w fun e w' => e = .returned (.int .i64 (signF x)) ∧ w' = w := by
  have h1 := zero_lt hx
  have h2 := zero_gt hx
  have HE : Hid (signF x = if (!nanB x && decide (place x < 0)) then -1 else if (!nanB x && decide (0 < place x)) then 1 else 0) := by
    show _ = _
    unfold signF
    cases nanB x <;> simp
  cases g1 : (!nanB x && decide (place x < 0)) <;> cases g2 : (!nanB x && decide (0 < place x)) <;> rw [g1] at h1 <;> rw [g2] at h2 <;>
    (go_enter Tryz.func113, Tryz.ntmps113
     go_wp2
     go_ret
     exact ⟨end_int (by rw [HE.out, g1, g2]; rfl), rfl⟩)
theorem nextF_lt {x : Nat} (b : Bool) (hx : x < 18446744073709551616) : nextF x b < 18446744073709551616 := by
  unfold nextF
  split
  · exact hx
  · exact atF_lt _
set_option maxHeartbeats 1000000 in
theorem step_any (x : Nat) (r m : Int) (hx : x < 18446744073709551616) (w : World) :
    Calls Tryz.prog 106 #[.float .f64 x, .int .i64 r, .int .i8 m] w fun e w' => e = .returned (.float .f64 (stepF x r m)) ∧ w' = w := by
  have HE : Hid (stepF x r m = if (dnB m (sgn x) && decide (r < 0)) || (upB m (sgn x) && decide (0 < r)) then cpy (nextF x (decide (0 < r))) x else x) := rfl
  cases e1 : (m == 1) <;> cases e2 : (m == 2) <;> cases e3 : (m == 3) <;> cases hs : sgn x <;> by_cases h1 : r < 0 <;> by_cases h2 : 0 < r <;>
    first
    | (exfalso; simp at e1 e2 e3; omega)
    | (go_enter Tryz.func106, Tryz.ntmps106
       go_wp2_with (first
        | (go_at_call 111; refine (signbit_any _ (by assumption) _).mono ?_; rintro e w' ⟨rfl, rfl⟩)
        | (go_at_call 128; refine (next_any _ _ (by assumption) _).mono ?_; rintro e w' ⟨rfl, rfl⟩)
        | (go_at_call 127; refine (copysign_any _ _ (nextF_lt _ (by assumption)) (by assumption) _).mono ?_; rintro e w' ⟨rfl, rfl⟩))
       go_ret
       exact ⟨end_flt (by rw [HE.out]; unfold dnB upB; simp [e1, e2, e3, hs, h1, h2]; try (intro _; omega)), rfl⟩)
end Go.Proofs.YtmbcmhncicbbjaaGreatDoor

namespace Go.Proofs.YtmbcmhncicbbjaaGreatDoor
open Go.RowKit

theorem write_word {d : Ieee.Datum} (h : d.isNaN = false) : ∃ s q, q ≤ 9218868437227405312 ∧ Ieee.double.write d = Ieee.double.word s q := by
  cases d with
  | number s m p => obtain ⟨q, hq, e⟩ := nearest_bd s m p; exact ⟨s, q, hq, e⟩
  | infinity s => exact ⟨s, 9218868437227405312, Nat.le_refl _, rfl⟩
  | nan s t => cases h
theorem sum_nan {x y d : Ieee.Datum} (h : x.sum y = some d) : d.isNaN = false := by
  unfold Ieee.Datum.sum at h
  split at h
  · cases h
  · cases h
  · split at h
    · cases h; rfl
    · cases h
  · cases h; rfl
  · cases h; rfl
  · cases h; rfl
theorem sum_word {o : Option Ieee.Datum} {r : Nat} (hn : ∀ d, o = some d → d.isNaN = false) (h : o.map Ieee.double.write = some r) : r < 18446744073709551616 ∧ rung r ≤ 9218868437227405312 := by
  cases o with
  | none => cases h
  | some d =>
    obtain ⟨s, q, hq, e⟩ := write_word (hn d rfl)
    simp only [Option.map_some, Option.some.injEq] at h
    rw [← h, e]
    exact ⟨word_lt64 s (by omega), by rw [(word_rung s (by omega)).1]; exact hq⟩
theorem add_word {a b r : Nat} (h : floatBits .add .f64 a b = some r) : r < 18446744073709551616 ∧ rung r ≤ 9218868437227405312 :=
  sum_word (fun _ h => sum_nan h) (show ((Ieee.double.read a).sum (Ieee.double.read b)).map Ieee.double.write = some r from h)

/-- What an operation of floats answers, and the world behind it: drawn on where there is no answer. -/
def opR (op : BinOp) (a b : Nat) (w : World) : Nat := match floatBits op .f64 a b with | some r => r | none => nanW a b w
def opW (op : BinOp) (a b : Nat) (w : World) : World := match floatBits op .f64 a b with | some _ => w | none => w.drew
theorem run_op {P : Program} (op : BinOp) (hop : op = .sub ∨ op = .add) (t : TypeId) (x y : Nat) (w : World) : (binOp op t (.float .f64 x) (.float .f64 y)).run P w = .ok (.float .f64 (opR op x y w)) (opW op x y w) := by
  unfold opR opW
  cases h : floatBits op .f64 x y with
  | none => exact run_nan op hop t x y h w
  | some r => exact run_float_arith w op t .f64 x y r h
theorem opW_below (op : BinOp) (a b : Nat) {w0 w : World} (h : Below w0.heap.size w0 w) : Below w0.heap.size w0 (opW op a b w) := by
  unfold opW
  split
  · exact h
  · exact h.drew
theorem add_NR {a b : Nat} (w : World) : NR (floatBits .add .f64 a b) (opR .add a b w) := by
  unfold opR NR
  cases h : floatBits .add .f64 a b with
  | none => exact ⟨(nanW_nan a b w).2, (nanW_nan a b w).1⟩
  | some r => exact ⟨(add_word h).1, rfl⟩
theorem end_ff {a b c d : Nat} (h : a = b) (g : c = d) : Ending.returned (.tuple #[.float .f64 a, .float .f64 c]) = .returned (.tuple #[.float .f64 b, .float .f64 d]) := by subst h; subst g; rfl

set_option maxHeartbeats 400000 in
theorem sum_fin (a b n t r : Nat) (c : Bool) (ha : a < 18446744073709551616) (hb : b < 18446744073709551616) (hc : (FloatKind.f64.format.order (rung a) (rung b) == some .lt) = c)
    (hn : floatBits .add .f64 a b = some n) (ht : floatBits .sub .f64 n (if c then b else a) = some t) (hr : floatBits .sub .f64 (if c then a else b) t = some r) (w : World) :
    Calls Tryz.prog 103 #[.float .f64 a, .float .f64 b] w fun e w' => e = .returned (.tuple #[.float .f64 n, .float .f64 r]) ∧ w' = w := by
  have h1 := fun w => run_float_arith (P := Tryz.prog) w .add 48 .f64 _ _ _ hn
  have h2 := fun w => run_float_arith (P := Tryz.prog) w .sub 48 .f64 _ _ _ ht
  have h3 := fun w => run_float_arith (P := Tryz.prog) w .sub 48 .f64 _ _ _ hr
  have hcv := conv64 n
  clear hn ht hr
  cases c
  · simp only [Bool.false_eq_true, if_false] at h2 h3
    go_enter Tryz.func103, Tryz.ntmps103
    go_wp2_with (go_at_call 47; refine (abs_any _ (by assumption) _).mono ?_; rintro e w' ⟨rfl, rfl⟩)
    go_ret2
    exact ⟨rfl, rfl⟩
  · simp only [if_true] at h2 h3
    go_enter Tryz.func103, Tryz.ntmps103
    go_wp2_with (go_at_call 47; refine (abs_any _ (by assumption) _).mono ?_; rintro e w' ⟨rfl, rfl⟩)
    go_ret2
    exact ⟨rfl, rfl⟩
set_option maxHeartbeats 400000 in
theorem sum_all (a b : Nat) (ha : a < 18446744073709551616) (hb : b < 18446744073709551616) (w : World) :
    Calls Tryz.prog 103 #[.float .f64 a, .float .f64 b] w fun e w' => (∃ n r, e = .returned (.tuple #[.float .f64 n, .float .f64 r]) ∧ NR (floatBits .add .f64 a b) n) ∧ Below w.heap.size w w' := by
  have h1 := fun w => run_op (P := Tryz.prog) .add (Or.inr rfl) 48 a b w
  have h2 := fun x y w => run_op (P := Tryz.prog) .sub (Or.inl rfl) 48 x y w
  have hcv := conv64
  have hB := opW_below .add a b (Below.refl w.heap.size w)
  have hN := add_NR (a := a) (b := b) w
  cases hc : (FloatKind.f64.format.order (rung a) (rung b) == some .lt)
  · go_enter Tryz.func103, Tryz.ntmps103
    go_wp2_with (go_at_call 47; refine (abs_any _ (by assumption) _).mono ?_; rintro e w' ⟨rfl, rfl⟩)
    go_ret2
    exact ⟨⟨_, _, rfl, hN⟩, opW_below _ _ _ (opW_below _ _ _ hB)⟩
  · go_enter Tryz.func103, Tryz.ntmps103
    go_wp2_with (go_at_call 47; refine (abs_any _ (by assumption) _).mono ?_; rintro e w' ⟨rfl, rfl⟩)
    go_ret2
    exact ⟨⟨_, _, rfl, hN⟩, opW_below _ _ _ (opW_below _ _ _ hB)⟩
theorem cpy_nought : cpy 0 13830554455654793216 = 9223372036854775808 := by kernel_rfl
set_option maxHeartbeats 400000 in
theorem rnought_any (a b : Nat) (m : Int) (ha : a < 18446744073709551616) (hb : b < 18446744073709551616) (w : World) :
    Calls Tryz.prog 105 #[.float .f64 a, .float .f64 b, .int .i8 m] w fun e w' => e = .returned (.float .f64 (noughtF a b m)) ∧ w' = w := by
  have HE : Hid (noughtF a b m = if sgn a == sgn b then a else if m == 1 then 9223372036854775808 else 0) := rfl
  cases e1 : (sgn a == sgn b) <;> cases e2 : (m == 1) <;>
    (go_enter Tryz.func105, Tryz.ntmps105
     go_wp2_with (first
        | (go_at_call 111; refine (signbit_any _ (by assumption) _).mono ?_; rintro e w' ⟨rfl, rfl⟩)
        | (go_at_call 127; refine (copysign_any _ _ (by omega) (by omega) _).mono ?_; rintro e w' ⟨rfl, rfl⟩))
     go_ret
     exact ⟨end_flt (by rw [HE.out, e1, e2]; first | rfl | exact cpy_nought), rfl⟩)
/-- What is told of a finite sum. -/
def addM (a b n r : Nat) (m : Int) : Nat := if rung n == 0 then noughtF a b m else stepF n (signF r) m
end Go.Proofs.YtmbcmhncicbbjaaGreatDoor

namespace Go.Proofs.YtmbcmhncicbbjaaGreatDoor
open Go.RowKit

set_option maxHeartbeats 1000000 in
theorem radd_fin (a b n t r : Nat) (c : Bool) (m : Int) (ha : a < 18446744073709551616) (hb : b < 18446744073709551616) (fa : finB a = true) (fb : finB b = true) (hc : (FloatKind.f64.format.order (rung a) (rung b) == some .lt) = c)
    (hn : floatBits .add .f64 a b = some n) (ht : floatBits .sub .f64 n (if c then b else a) = some t) (hr : floatBits .sub .f64 (if c then a else b) t = some r) (hnl : n < 18446744073709551616) (hrl : r < 18446744073709551616) (w : World) :
    Calls Tryz.prog 75 #[.float .f64 a, .float .f64 b, .int .i8 m] w fun e w' => e = .returned (.float .f64 (addM a b n r m)) ∧ w' = w := by
  have cs := sum_fin a b n t r c ha hb hc hn ht hr
  have HE : Hid (addM a b n r m = if rung n == 0 then noughtF a b m else stepF n (signF r) m) := rfl
  have hz := zero_eq hnl
  clear hn ht hr hc
  cases e1 : (rung n == 0) <;> rw [e1] at hz <;>
    (go_enter Tryz.func75, Tryz.ntmps75
     go_wp2_with (first
        | (go_at_call 103; refine (cs _).mono ?_; rintro e w' ⟨rfl, rfl⟩)
        | (go_at_call_of 104 (Value.float FloatKind.f64 a); refine (rofin_any _ ha _).mono ?_; rw [fa]; rintro e w' ⟨rfl, rfl⟩)
        | (go_at_call_of 104 (Value.float FloatKind.f64 b); refine (rofin_any _ hb _).mono ?_; rw [fb]; rintro e w' ⟨rfl, rfl⟩)
        | (go_at_call 105; refine (rnought_any _ _ _ ha hb _).mono ?_; rintro e w' ⟨rfl, rfl⟩)
        | (go_at_call 107; refine (rsign_any _ hrl _).mono ?_; rintro e w' ⟨rfl, rfl⟩)
        | (go_at_call 106; refine (step_any _ _ _ hnl _).mono ?_; rintro e w' ⟨rfl, rfl⟩))
     go_ret
     exact ⟨end_flt (by rw [HE.out, e1]; rfl), rfl⟩)
set_option maxHeartbeats 1000000 in
theorem radd_inf (a b : Nat) (m : Int) (ha : a < 18446744073709551616) (hb : b < 18446744073709551616) (hf : finB a = false ∨ finB b = false) (w : World) :
    Calls Tryz.prog 75 #[.float .f64 a, .float .f64 b, .int .i8 m] w fun e w' => (∃ r, e = .returned (.float .f64 r) ∧ NR (floatBits .add .f64 a b) r) ∧ Below w.heap.size w w' := by
  have ca := rofin_any a ha
  have cb := rofin_any b hb
  cases fa : finB a <;> rw [fa] at ca
  · go_enter Tryz.func75, Tryz.ntmps75
    go_wp2_with (first
        | (go_at_call 103; refine (sum_all a b ha hb _).mono ?_; rintro e w1 ⟨⟨n, r, rfl, hN⟩, hB⟩)
        | (go_at_call 104; refine (ca _).mono ?_; rintro e w' ⟨rfl, rfl⟩))
    go_ret
    exact ⟨⟨_, rfl, hN⟩, hB⟩
  · have fb : finB b = false := by rcases hf with h | h; · rw [fa] at h; cases h
                                   · exact h
    rw [fb] at cb
    go_enter Tryz.func75, Tryz.ntmps75
    go_wp2_with (first
        | (go_at_call 103; refine (sum_all a b ha hb _).mono ?_; rintro e w1 ⟨⟨n, r, rfl, hN⟩, hB⟩)
        | (go_at_call_of 104 (Value.float FloatKind.f64 a); refine (ca _).mono ?_; rintro e w' ⟨rfl, rfl⟩)
        | (go_at_call_of 104 (Value.float FloatKind.f64 b); refine (cb _).mono ?_; rintro e w' ⟨rfl, rfl⟩))
    go_ret
    exact ⟨⟨_, rfl, hN⟩, hB⟩
theorem run_negf (b : Nat) : Op.unary .neg (.float .f64 b) = pure (.float .f64 (negW b)) := rfl
end Go.Proofs.YtmbcmhncicbbjaaGreatDoor

namespace Go.Proofs.YtmbcmhncicbbjaaGreatDoor
open Go.RowKit

def someB (a : Nat) : Bool := finB a && rung a != 0
theorem some_rung {a : Nat} (h : someB a = true) : finB a = true ∧ (rung a == 0) = false := by
  unfold someB at h
  simp at h
  exact ⟨h.1, by simpa using h.2⟩
/-- The nearest float of a sum, and what is left. -/
def sumN (a b : Nat) : Nat := (floatBits .add .f64 a b).getD 0
def sumC (a b : Nat) : Bool := FloatKind.f64.format.order (rung a) (rung b) == some .lt
def sumT (a b : Nat) : Nat := (floatBits .sub .f64 (sumN a b) (if sumC a b then b else a)).getD 0
def sumR (a b : Nat) : Nat := (floatBits .sub .f64 (if sumC a b then a else b) (sumT a b)).getD 0
def addV (a b : Nat) (m : Int) : Nat := addM a b (sumN a b) (sumR a b) m
theorem inf_sub {y t : Nat} (hy : y < 18446744073709551616) (fy : finB y = true) (ht : t < 18446744073709551616) (hr : rung t ≤ 9218868437227405312) : ∃ r, floatBits .sub .f64 y t = some r ∧ r < 18446744073709551616 := by
  cases ft : finB t
  · have hi : rung t = 9218868437227405312 := by unfold finB at ft; simp at ft; omega
    refine ⟨negW t, ?_, negW_lt ht⟩
    rw [fsub_add ht]; exact add_inf_r (negW_lt ht) ((neg_rung ht).1.trans hi) hy fy
  · obtain ⟨r, h1, h2, _⟩ := sub_told hy ht fy ft
    exact ⟨r, h1, h2⟩
theorem sub_fin_r {n x : Nat} (hn : n < 18446744073709551616) (hr : rung n ≤ 9218868437227405312) (hx : x < 18446744073709551616) (fx : finB x = true) : ∃ t, floatBits .sub .f64 n x = some t ∧ t < 18446744073709551616 ∧ rung t ≤ 9218868437227405312 := by
  cases fn : finB n
  · have hi : rung n = 9218868437227405312 := by unfold finB at fn; simp at fn; omega
    exact ⟨n, by rw [fsub_add hx]; exact add_inf_l hn hi (negW_lt hx) ((neg_fin hx).trans fx), hn, hr⟩
  · exact sub_told hn hx fn fx
theorem sum_parts {a b : Nat} (ha : a < 18446744073709551616) (hb : b < 18446744073709551616) (fa : finB a = true) (fb : finB b = true) :
    floatBits .add .f64 a b = some (sumN a b) ∧ floatBits .sub .f64 (sumN a b) (if sumC a b then b else a) = some (sumT a b) ∧ floatBits .sub .f64 (if sumC a b then a else b) (sumT a b) = some (sumR a b) ∧
    sumN a b < 18446744073709551616 ∧ rung (sumN a b) ≤ 9218868437227405312 ∧ sumR a b < 18446744073709551616 ∧ (rung (sumN a b) = 0 → sgn a = sgn b → rung a = 0 ∧ rung b = 0) := by
  obtain ⟨n, h1, h2, h3, h4⟩ := add_told ha hb fa fb
  have en : sumN a b = n := by unfold sumN; rw [h1]; rfl
  have hx : (if sumC a b then b else a) < 18446744073709551616 ∧ finB (if sumC a b then b else a) = true ∧ (if sumC a b then a else b) < 18446744073709551616 ∧ finB (if sumC a b then a else b) = true := by cases sumC a b <;> exact ⟨by assumption, by assumption, by assumption, by assumption⟩
  obtain ⟨t, t1, t2, t3⟩ := sub_fin_r h2 h3 hx.1 hx.2.1
  have et : sumT a b = t := by unfold sumT; rw [en, t1]; rfl
  obtain ⟨r, r1, r2⟩ := inf_sub hx.2.2.1 hx.2.2.2 t2 t3
  have er : sumR a b = r := by unfold sumR; rw [et, r1]; rfl
  rw [en, et, er]
  exact ⟨h1, t1, r1, h2, h3, r2, h4⟩
theorem radd_gen (a b : Nat) (m : Int) (ha : a < 18446744073709551616) (hb : b < 18446744073709551616) (fa : finB a = true) (fb : finB b = true) (w : World) :
    Calls Tryz.prog 75 #[.float .f64 a, .float .f64 b, .int .i8 m] w fun e w' => e = .returned (.float .f64 (addV a b m)) ∧ w' = w := by
  obtain ⟨h1, h2, h3, h4, _, h6, _⟩ := sum_parts ha hb fa fb
  exact radd_fin a b _ _ _ _ m ha hb fa fb rfl h1 h2 h3 h4 h6 w
theorem stepF_lt {x : Nat} (r m : Int) (hx : x < 18446744073709551616) : stepF x r m < 18446744073709551616 := by
  unfold stepF cpy
  have := rung_lt (nextF x (decide (0 < r)))
  (repeat' split) <;> omega
theorem addV_lt {a b : Nat} (m : Int) (ha : a < 18446744073709551616) (hb : b < 18446744073709551616) (fa : finB a = true) (fb : finB b = true) : addV a b m < 18446744073709551616 := by
  obtain ⟨_, _, _, h4, _, _, _⟩ := sum_parts ha hb fa fb
  unfold addV addM noughtF
  split
  · (repeat' split) <;> omega
  · exact stepF_lt _ _ h4
end Go.Proofs.YtmbcmhncicbbjaaGreatDoor

namespace Go.Proofs.YtmbcmhncicbbjaaGreatDoor
open Go.RowKit

theorem fbits_map (x y : Nat) : (floatBits .add .f64 x y = ((Ieee.double.read x).sum (Ieee.double.read y)).map Ieee.double.write) ∧ (floatBits .sub .f64 x y = ((Ieee.double.read x).sum (Ieee.double.read y).opposite).map Ieee.double.write) ∧ (floatBits .mul .f64 x y = ((Ieee.double.read x).product (Ieee.double.read y)).map Ieee.double.write) ∧ (floatBits .quo .f64 x y = ((Ieee.double.read x).quotient 54 (Ieee.double.read y)).map Ieee.double.write) := ⟨rfl, rfl, rfl, rfl⟩
theorem prod_nan {x y d : Ieee.Datum} (h : x.product y = some d) : d.isNaN = false := by
  unfold Ieee.Datum.product at h
  split at h
  · cases h
  · cases h
  · cases h; rfl
  · split at h
    · cases h
    · cases h; rfl
  · split at h
    · cases h
    · cases h; rfl
  · cases h; rfl
theorem quot_nan {n : Nat} {x y d : Ieee.Datum} (h : x.quotient n y = some d) : d.isNaN = false := by
  unfold Ieee.Datum.quotient at h
  split at h
  · cases h
  · cases h
  · cases h
  · cases h; rfl
  · cases h; rfl
  · split at h
    · split at h
      · cases h
      · cases h; rfl
    · cases h; rfl
theorem root_nan {n : Nat} {x d : Ieee.Datum} (h : x.root n = some d) : d.isNaN = false := by
  unfold Ieee.Datum.root at h
  split at h
  · cases h
  · split at h
    · cases h
    · cases h; rfl
  · split at h
    · cases h; rfl
    · split at h
      · cases h
      · cases h; rfl
/-- The four operations. -/
def FourOp (op : BinOp) : Prop := op = .add ∨ op = .sub ∨ op = .mul ∨ op = .quo
theorem op_word {op : BinOp} (hop : FourOp op) {a b r : Nat} (h : floatBits op .f64 a b = some r) : r < 18446744073709551616 ∧ rung r ≤ 9218868437227405312 := by
  rcases hop with rfl | rfl | rfl | rfl
  · exact add_word h
  · exact sum_word (fun _ h => sum_nan h) (show ((Ieee.double.read a).sum (Ieee.double.read b).opposite).map Ieee.double.write = some r from h)
  · exact sum_word (fun _ h => prod_nan h) (show ((Ieee.double.read a).product (Ieee.double.read b)).map Ieee.double.write = some r from h)
  · exact sum_word (fun _ h => quot_nan h) (show ((Ieee.double.read a).quotient 54 (Ieee.double.read b)).map Ieee.double.write = some r from h)
theorem sqrt_word {a r : Nat} (h : FloatKind.f64.format.sqrt a = some r) : r < 18446744073709551616 ∧ rung r ≤ 9218868437227405312 :=
  sum_word (fun _ h => root_nan h) (show ((Ieee.double.read a).root 54).map Ieee.double.write = some r from h)
theorem fma_word {a b c r : Nat} (h : FloatKind.f64.format.fma a b c = some r) : r < 18446744073709551616 ∧ rung r ≤ 9218868437227405312 :=
  sum_word (o := ((Ieee.double.read a).product (Ieee.double.read b)).bind (·.sum (Ieee.double.read c))) (fun d h => by
    cases hp : (Ieee.double.read a).product (Ieee.double.read b) with
    | none => rw [hp] at h; cases h
    | some e => rw [hp] at h; exact sum_nan h) h
theorem rung_nan {r : Nat} (h : rung r ≤ 9218868437227405312) : nanB r = false := by unfold nanB; simpa using h
theorem read_nan {x : Nat} (hx : x < 18446744073709551616) (nx : nanB x = true) : ∃ s t, Ieee.double.read x = .nan s t := by
  have h : 9218868437227405312 < rung x := by simpa [nanB] using nx
  rw [read_eq x hx, if_neg (by omega), if_neg (by omega)]
  exact ⟨_, _, rfl⟩
/-- With a NaN there is no answer. -/
theorem op_nan {op : BinOp} (hop : FourOp op) {a b : Nat} (ha : a < 18446744073709551616) (hb : b < 18446744073709551616) (h : nanB a = true ∨ nanB b = true) : floatBits op .f64 a b = none := by
  obtain ⟨f1, f2, f3, f4⟩ := fbits_map a b
  rcases h with h | h
  · obtain ⟨s, t, e⟩ := read_nan ha h
    rcases hop with rfl | rfl | rfl | rfl
    · rw [f1, e]; cases Ieee.double.read b <;> rfl
    · rw [f2, e]; cases Ieee.double.read b <;> rfl
    · rw [f3, e]; cases Ieee.double.read b <;> rfl
    · rw [f4, e]; cases Ieee.double.read b <;> rfl
  · obtain ⟨s, t, e⟩ := read_nan hb h
    rcases hop with rfl | rfl | rfl | rfl
    · rw [f1, e]; cases Ieee.double.read a <;> rfl
    · rw [f2, e]; cases Ieee.double.read a <;> rfl
    · rw [f3, e]; cases Ieee.double.read a <;> rfl
    · rw [f4, e]; cases Ieee.double.read a <;> rfl
theorem run_nan4 {P : Program} {op : BinOp} (hop : FourOp op) (t : TypeId) (x y : Nat) (h : floatBits op .f64 x y = none) (w : World) : (binOp op t (.float .f64 x) (.float .f64 y)).run P w = .ok (.float .f64 (nanW x y w)) w.drew := by
  rcases hop with rfl | rfl | rfl | rfl
  · exact run_nan .add (Or.inr rfl) t x y h w
  · exact run_nan .sub (Or.inl rfl) t x y h w
  · have h' : Ieee.double.mul x y = none := h
    simp [binOp, Op.floatArith, fmt64, h', Question.forced, nanW]
  · have h' : Ieee.double.div x y = none := h
    simp [binOp, Op.floatArith, fmt64, h', Question.forced, nanW]
theorem run_op4 {P : Program} {op : BinOp} (hop : FourOp op) (t : TypeId) (x y : Nat) (w : World) : (binOp op t (.float .f64 x) (.float .f64 y)).run P w = .ok (.float .f64 (opR op x y w)) (opW op x y w) := by
  unfold opR opW
  cases h : floatBits op .f64 x y with
  | none => exact run_nan4 hop t x y h w
  | some r => exact run_float_arith w op t .f64 x y r h
theorem op_NR {op : BinOp} (hop : FourOp op) {a b : Nat} (w : World) : NR (floatBits op .f64 a b) (opR op a b w) := by
  unfold opR NR
  cases h : floatBits op .f64 a b with
  | none => exact ⟨(nanW_nan a b w).2, (nanW_nan a b w).1⟩
  | some r => exact ⟨(op_word hop h).1, rfl⟩
/-- By Nearest nothing is stepped. -/
theorem stepF_near (x : Nat) (r : Int) : stepF x r 0 = x := by
  unfold stepF dnB upB
  simp
theorem addV_near {a b : Nat} (ha : a < 18446744073709551616) (hb : b < 18446744073709551616) (fa : finB a = true) (fb : finB b = true) : addV a b 0 = sumN a b := by
  obtain ⟨h1, _, _, h4, _, _, h7⟩ := sum_parts ha hb fa fb
  unfold addV addM
  rw [stepF_near]
  by_cases h0 : rung (sumN a b) = 0
  · rw [show (rung (sumN a b) == 0) = true by simpa using h0]
    rw [if_pos rfl]
    have hf : floatBits .add .f64 a b = some (sumN a b) := h1
    have hof := rung_of (sumN a b) h4
    have hoa := rung_of a ha
    rw [h0] at hof
    unfold noughtF
    cases hs : (sgn a == sgn b)
    · -- of unlike signs: a nought that is not below
      rw [if_neg (by simp), if_neg (by decide)]
      have hs' : (sgn a && sgn b) = false := by revert hs; cases sgn a <;> cases sgn b <;> simp
      have hsg : sgn (sumN a b) = false := by
        rw [(fbits_map a b).1, read_fin ha fa, read_fin hb fb, sum_val] at hf
        simp only [Option.map_some, Ieee.Format.write, Option.some.injEq] at hf
        generalize Ieee.signed (sgn a) (mg (rung a)) (up (rung a) - min (up (rung a)) (up (rung b))) + Ieee.signed (sgn b) (mg (rung b)) (up (rung b) - min (up (rung a)) (up (rung b))) = T at hf
        by_cases t0 : T = 0
        · rw [if_pos t0, hs', t0] at hf
          have e0 : Ieee.double.nearest false (Int.natAbs 0) (-1074 + ((min (up (rung a)) (up (rung b)) : Nat) : Int)) = 0 := rfl
          rw [e0] at hf
          rw [← hf]; decide
        · exfalso
          obtain ⟨q, hq0, hq, e⟩ := nearest_ne (s := (if T = 0 then sgn a && sgn b else decide (T < 0))) (p := -1074 + ((min (up (rung a)) (up (rung b)) : Nat) : Int)) (Int.natAbs_ne_zero.2 t0) (by omega)
          rw [e] at hf
          rw [← hf, (word_rung _ (by omega)).1] at h0
          exact hq0 h0
      rw [hsg] at hof
      simpa using hof.symm
    · rw [if_pos rfl]
      have hs2 : sgn a = sgn b := by simpa using hs
      obtain ⟨za, zb⟩ := h7 h0 hs2
      rw [za] at hoa
      have hsg : sgn (sumN a b) = sgn a := by
        rw [(fbits_map a b).1, read_fin ha fa, read_fin hb fb, za, zb, sum_val] at hf
        have t0 : Ieee.signed (sgn a) (mg 0) (up 0 - min (up 0) (up 0)) + Ieee.signed (sgn b) (mg 0) (up 0 - min (up 0) (up 0)) = 0 := by cases sgn a <;> cases sgn b <;> rfl
        rw [t0, ← hs2] at hf
        simp only [Option.map_some, Ieee.Format.write, Option.some.injEq, if_true, Bool.and_self] at hf
        have e0 : ∀ s, Ieee.double.nearest s (Int.natAbs 0) (-1074 + ((min (up 0) (up 0) : Nat) : Int)) = Ieee.double.word s 0 := fun s => rfl
        rw [e0] at hf
        rw [← hf, (word_rung _ (by omega)).2]
      rw [hsg] at hof
      rw [hof]; exact hoa
  · rw [show (rung (sumN a b) == 0) = false by simpa using h0]
    rfl
theorem radd_near (a b : Nat) (ha : a < 18446744073709551616) (hb : b < 18446744073709551616) (w : World) :
    Calls Tryz.prog 75 #[.float .f64 a, .float .f64 b, .int .i8 0] w fun e w' => ∃ r, e = .returned (.float .f64 r) ∧ NR (floatBits .add .f64 a b) r ∧ Below w.heap.size w w' := by
  by_cases hf : finB a = true ∧ finB b = true
  · refine (radd_gen a b 0 ha hb hf.1 hf.2 w).mono ?_
    rintro e w' ⟨rfl, rfl⟩
    obtain ⟨h1, _, _, h4, _, _, _⟩ := sum_parts ha hb hf.1 hf.2
    rw [h1]
    exact ⟨_, rfl, ⟨by rw [addV_near ha hb hf.1 hf.2]; exact h4, addV_near ha hb hf.1 hf.2⟩, Below.refl _ _⟩
  · have hf' : finB a = false ∨ finB b = false := by
      cases h1 : finB a
      · exact Or.inl rfl
      · cases h2 : finB b
        · exact Or.inr rfl
        · exact absurd ⟨h1, h2⟩ hf
    refine (radd_inf a b 0 ha hb hf' w).mono ?_
    rintro e w' ⟨⟨r, rfl, hN⟩, h⟩
    exact ⟨_, rfl, hN, h⟩
/-- A number times a number, and one more added: told, unless infinities meet. -/
theorem fma_told {x y z : Nat} (hx : x < 18446744073709551616) (hy : y < 18446744073709551616) (hz : z < 18446744073709551616) (rx : rung x ≤ 9218868437227405312) (fy : finB y = true) (y0 : rung y ≠ 0) (fz : finB z = true) : ∃ f, FloatKind.f64.format.fma x y z = some f := by
  show ∃ f, (((Ieee.double.read x).product (Ieee.double.read y)).bind (·.sum (Ieee.double.read z))).map Ieee.double.write = some f
  rw [read_fin hy fy, read_fin hz fz]
  have m0 : mg (rung y) ≠ 0 := by unfold mg; split <;> omega
  cases fx : finB x
  · have hi : rung x = 9218868437227405312 := by unfold finB at fx; simp at fx; omega
    rw [read_eq x hx, if_neg (by omega), if_pos hi]
    simp only [Ieee.Datum.product]
    rw [if_neg m0]
    exact ⟨_, rfl⟩
  · rw [read_fin hx fx]
    exact ⟨_, rfl⟩
theorem fma_told2 {x y z : Nat} (hx : x < 18446744073709551616) (hy : y < 18446744073709551616) (hz : z < 18446744073709551616) (fx : finB x = true) (fy : finB y = true) (rz : rung z ≤ 9218868437227405312) : ∃ f, FloatKind.f64.format.fma x y z = some f := by
  show ∃ f, (((Ieee.double.read x).product (Ieee.double.read y)).bind (·.sum (Ieee.double.read z))).map Ieee.double.write = some f
  rw [read_fin hy fy, read_fin hx fx]
  cases fz : finB z
  · have hi : rung z = 9218868437227405312 := by unfold finB at fz; simp at fz; omega
    rw [read_eq z hz, if_neg (by omega), if_pos hi]
    exact ⟨_, rfl⟩
  · rw [read_fin hz fz]
    exact ⟨_, rfl⟩
theorem calm_test {z : Nat} (h : 553942754166571008 ≤ rung z) (hr : rung z ≤ 9218868437227405312) : (FloatKind.f64.format.order (rung z) 553942754166571008 == some .lt) = false := by
  have hs := rung_lt z
  rw [lt_num (by omega) (by omega) (nan_small (by omega)) (by decide), place_small (by omega), place_small (by omega)]
  exact decide_eq_false (by omega)
theorem not_some {a : Nat} (h : someB a = false) : finB a = false ∨ rung a = 0 := by
  unfold someB at h
  cases fa : finB a
  · exact Or.inl rfl
  · rw [fa] at h; simp at h; exact Or.inr h
end Go.Proofs.YtmbcmhncicbbjaaGreatDoor

namespace Go.Proofs.YtmbcmhncicbbjaaGreatDoor
open Go.RowKit

/-- A float, all NaN as one. -/
def toO (x : Nat) : Option Nat := if nanB x then none else some x
def opO (op : BinOp) (o p : Option Nat) : Option Nat := o.bind fun u => p.bind fun v => floatBits op .f64 u v
theorem toO_NR {x : Nat} (hx : x < 18446744073709551616) : NR (toO x) x := by
  cases h : nanB x
  · have e : toO x = some x := by unfold toO; rw [h]; rfl
    rw [e]; exact ⟨hx, rfl⟩
  · have e : toO x = none := by unfold toO; rw [h]; rfl
    rw [e]; exact ⟨hx, h⟩
theorem opO_NR {op : BinOp} (hop : FourOp op) {o p : Option Nat} {r s : Nat} (hr : NR o r) (hs : NR p s) (w : World) : NR (opO op o p) (opR op r s w) := by
  have h := op_NR (op := op) hop (a := r) (b := s) w
  cases o with
  | none =>
    rw [op_nan (op := op) hop hr.1 hs.1 (Or.inl hr.2)] at h
    exact h
  | some u =>
    cases p with
    | none =>
      rw [op_nan (op := op) hop hr.1 hs.1 (Or.inr hs.2)] at h
      exact h
    | some v =>
      have e1 : r = u := hr.2
      have e2 : s = v := hs.2
      subst e1 e2
      exact h
theorem NR_word {o : Option Nat} {r : Nat} (h : NR o r) : r < 18446744073709551616 := h.1
/-- In order. -/
def naiveO (l : List Nat) : Option Nat := l.foldl (fun o x => opO .add o (toO x)) (some 0)
theorem naive_snoc (l : List Nat) (x : Nat) : naiveO (l ++ [x]) = opO .add (naiveO l) (toO x) := by
  unfold naiveO
  rw [List.foldl_append]
  rfl
/-- Is the size of the first not less? (Of NaN it is not.) -/
def geO (o p : Option Nat) : Bool := match o, p with
  | some u, some v => FloatKind.f64.format.order (rung u) (rung v) == some .gt || FloatKind.f64.format.order (rung u) (rung v) == some .eq
  | _, _ => false
theorem geO_NR {o p : Option Nat} {r s : Nat} (hr : NR o r) (hs : NR p s) : (FloatKind.f64.format.order (rung r) (rung s) == some .gt || FloatKind.f64.format.order (rung r) (rung s) == some .eq) = geO o p := by
  have nanr : ∀ {x : Nat}, nanB x = true → nanB (rung x) = true := by
    intro x h
    unfold nanB at h ⊢
    rw [rung_small (rung_lt x)]
    exact h
  have lr := rung_lt r
  have ls := rung_lt s
  cases o with
  | none =>
    have h : nanB r = true := hr.2
    rw [ord_nan (by omega) (by omega) (Or.inl (nanr h))]
    rfl
  | some u =>
    cases p with
    | none =>
      have h : nanB s = true := hs.2
      rw [ord_nan (by omega) (by omega) (Or.inr (nanr h))]
      rfl
    | some v =>
      have e1 : r = u := hr.2
      have e2 : s = v := hs.2
      rw [e1, e2]
      rfl
/-- With what is lost kept: the sum, and what was lost. -/
def keptS (q : Option Nat × Option Nat) (x : Nat) : Option Nat × Option Nat :=
  let t := opO .add q.1 (toO x)
  (t, if geO q.1 (toO x) then opO .add q.2 (opO .add (opO .sub q.1 t) (toO x)) else opO .add q.2 (opO .add (opO .sub (toO x) t) q.1))
def keptP (l : List Nat) : Option Nat × Option Nat := l.foldl keptS (some 0, some 0)
def keptO (l : List Nat) : Option Nat := opO .add (keptP l).1 (keptP l).2
theorem kept_snoc (l : List Nat) (x : Nat) : keptP (l ++ [x]) = keptS (keptP l) x := by
  unfold keptP
  rw [List.foldl_append]
  rfl
/-- By halves. -/
def pairF : Nat → List Nat → Option Nat
  | 0, _ => some 0
  | _ + 1, [] => some 0
  | _ + 1, [x] => toO x
  | n + 1, l => opO .add (pairF n (l.take (l.length / 2))) (pairF n (l.drop (l.length / 2)))
end Go.Proofs.YtmbcmhncicbbjaaGreatDoor

namespace Go.Proofs.YtmbcmhncicbbjaaGreatDoor
open Go.RowKit

/-- Floats at an address. -/
def GRow (w : World) (ao : Option Addr) (xs : List Nat) : Prop := xs.length = 0 ∨ ∃ b off, ao = some ⟨b, off, none⟩ ∧ ∀ j, j < xs.length → w.cell? ⟨b, off + j, none⟩ = some (.float .f64 (xs.getD j 0))
theorem GRow.below {w w' : World} {ao : Option Addr} {xs : List Nat} (h : GRow w ao xs) (hb : Below w.heap.size w w') : GRow w' ao xs := by
  rcases h with h | ⟨b, off, rfl, hc⟩
  · exact Or.inl h
  · exact Or.inr ⟨b, off, rfl, fun j hj => by rw [hb.cell (World.block_lt_of_cell? w _ (hc j hj))]; exact hc j hj⟩
theorem getD_at {xs : List Nat} {k : Nat} (hk : k < xs.length) : xs.getD k 0 = xs[k] := by simp [List.getD, hk]
def FW (xs : List Nat) : Prop := ∀ x, x ∈ xs → x < 18446744073709551616
theorem FW.at {xs : List Nat} (h : FW xs) {k : Nat} (hk : k < xs.length) : xs.getD k 0 < 18446744073709551616 := by
  rw [getD_at hk]
  exact h _ (List.getElem_mem hk)
theorem take_at {xs : List Nat} {k : Nat} (hk : k < xs.length) : xs.take (k + 1) = xs.take k ++ [xs.getD k 0] := by
  rw [List.take_succ_eq_append_getElem hk, getD_at hk]
end Go.Proofs.YtmbcmhncicbbjaaGreatDoor

namespace Go.Proofs.YtmbcmhncicbbjaaGreatDoor
open Go.RowKit

/-- Are both as long, and the same at each place? -/
def sameL (xs ys : List Nat) : Bool := decide (xs.length = ys.length) && (List.range xs.length).all fun j => sameB (xs.getD j 0) (ys.getD j 0)
theorem sameL_yes {xs ys : List Nat} (h : xs.length = ys.length) (hj : ∀ j, j < xs.length → sameB (xs.getD j 0) (ys.getD j 0) = true) : sameL xs ys = true := by
  unfold sameL
  rw [decide_eq_true h, Bool.true_and, List.all_eq_true]
  intro j hm
  exact hj j (List.mem_range.1 hm)
theorem sameL_len {xs ys : List Nat} (h : ¬ xs.length = ys.length) : sameL xs ys = false := by
  unfold sameL
  rw [decide_eq_false h, Bool.false_and]
theorem sameL_not {xs ys : List Nat} {j : Nat} (hj : j < xs.length) (h : sameB (xs.getD j 0) (ys.getD j 0) = false) : sameL xs ys = false := by
  unfold sameL
  have : ((List.range xs.length).all fun j => sameB (xs.getD j 0) (ys.getD j 0)) = false := by
    rw [List.all_eq_false]
    exact ⟨j, List.mem_range.2 hj, by rw [h]; simp⟩
  rw [this, Bool.and_false]
set_option maxHeartbeats 1000000 in
theorem sreals_any (xs ys : List Nat) (ao bo : Option Addr) (cap cap2 : Nat) (w : World) (hr : GRow w ao xs) (hs : GRow w bo ys) (hF : FW xs) (hG : FW ys) (hn : xs.length ≤ 1125899906842624) (_hm : ys.length ≤ 1125899906842624) :
    Calls Tryz.prog 12 #[.slice ao xs.length cap, .slice bo ys.length cap2] w fun e w' => e = .returned (.bool (sameL xs ys)) ∧ Below w.heap.size w w' := by
  by_cases hl : xs.length = ys.length
  · have HL : Hid (ys.length = xs.length) := hl.symm
    have HY : Hid ((∀ j, j < xs.length → sameB (xs.getD j 0) (ys.getD j 0) = true) → sameL xs ys = true) := sameL_yes hl
    have HX : Hid (∀ j, j < xs.length → sameB (xs.getD j 0) (ys.getD j 0) = false → sameL xs ys = false) := fun j h1 h2 => sameL_not h1 h2
    rw [← hl]
    clear hl
    go_enter Tryz.func12, Tryz.ntmps12
    go_wp2
    go_loopg [5] xs.length (fun g i wr => ∃ k : Nat, k ≤ xs.length ∧ g = xs.length - k ∧ i = .int .i64 k ∧ Hid (∀ j, j < k → sameB (xs.getD j 0) (ys.getD j 0) = true) ∧ Hid (Below w.heap.size w wr))
    case atStart => exact ⟨0, Nat.zero_le _, rfl, rfl, fun j hj => by omega, Below.refl _ _⟩
    case round =>
      obtain ⟨k, hk, hg, rfl, hN, hB⟩ := hrel
      have HG : Hid (gk = xs.length - k) := hg
      clear hg
      by_cases hlt : k < xs.length
      · rcases hr.below hB.out with h | ⟨b, off, rfl, hc⟩
        · omega
        rcases hs.below hB.out with h | ⟨b2, off2, rfl, hd⟩
        · have := HL.out; omega
        have hlt2 : k < ys.length := by have := HL.out; omega
        have g1 := hc k hlt
        have g2 := hd k hlt2
        have hx := hF.at hlt
        have hy := hG.at hlt2
        have H0 := HX.out k hlt
        have HS : Hid (sameB (xs.getD k 0) (ys.getD k 0) = true → ∀ j, j < k + 1 → sameB (xs.getD j 0) (ys.getD j 0) = true) := fun h j hj => by
          by_cases e : j = k
          · subst e; exact h
          · exact hN.out j (by omega)
        have i1 : (k : Int) < (xs.length : Int) := by omega
        generalize xs.getD k 0 = x at *
        generalize ys.getD k 0 = y at *
        have cs := samef_any x y hx hy
        have HD := hB.out.drew
        clear hc hd hlt2
        cases hq : sameB x y
        · rw [hq] at cs
          have HZ : Hid (sameL xs ys = false) := H0 hq
          clear H0
          go_wp2
          go_region_with (go_at_call 34; refine (cs _).mono ?_; rintro e w' ⟨rfl, rfl⟩)
          all_goals
            go_wp2
            go_ret
            exact ⟨end_bool HZ.out.symm, HD⟩
        · rw [hq] at cs
          go_wp2
          go_region_with (go_at_call 34; refine (cs _).mono ?_; rintro e w' ⟨rfl, rfl⟩)
          all_goals
            go_wp2
            go_roundg (xs.length - (k + 1))
            case measure => rw [HG.out]; omega
            case rel => exact ⟨k + 1, by omega, rfl, by go_num, HS.out hq, HD⟩
      · have hY := HY.out (fun j hj => hN.out j (by omega))
        have HZ : Hid (sameL xs ys = true) := hY
        clear hY
        have i1 : ¬ (k : Int) < (xs.length : Int) := by omega
        have HD := hB.out
        clear hN
        go_wp2
        go_ret
        exact ⟨end_bool HZ.out.symm, HD⟩
  · rw [sameL_len hl]
    have hI : ¬ (xs.length : Int) = (ys.length : Int) := by omega
    go_enter Tryz.func12, Tryz.ntmps12
    go_wp2
    go_ret
    exact ⟨rfl, Below.refl _ _⟩
end Go.Proofs.YtmbcmhncicbbjaaGreatDoor

namespace Go.Proofs.YtmbcmhncicbbjaaGreatDoor
open Go.RowKit

theorem ord_same (a : Nat) (ha : a < 18446744073709551616) : (FloatKind.f64.format.order a a == some .eq) = !nanB a := by
  rw [← ord_self a ha]
  simp [bne]
end Go.Proofs.YtmbcmhncicbbjaaGreatDoor
