/- Places of neighbours, of infinities, of noughts; what the law's own 'finite' computes. -/
import Derived.Test.YtfipmopmpacdaaaGreatDoorZf
import Derived.Test.YtfipmopmpacdaaaGreatDoorK1
namespace Go.Proofs.YtfipmopmpacdaaaGreatDoor
open Go.RowKit
theorem log2_eq {n k : Nat} (h1 : 2 ^ k ≤ n) (h2 : n < 2 ^ (k + 1)) : n.log2 = k := by
 have hn : n ≠ 0 := by have := Nat.two_pow_pos k; omega
 have a1 : k ≤ n.log2 := (Nat.le_log2 hn).2 h1
 have a2 : n.log2 < k + 1 := (Nat.log2_lt hn).2 h2
 omega
theorem log2_mul {n d : Nat} (hn : n ≠ 0) : (n * 2 ^ d).log2 = n.log2 + d := by
 have h1 := Nat.log2_self_le hn
 have h2 := Nat.lt_log2_self (n := n)
 refine log2_eq ?_ ?_
 ·rw [Nat.pow_add]; exact Nat.mul_le_mul_right _ h1
 ·rw [show n.log2 + d + 1 = n.log2 + 1 + d by omega, Nat.pow_add]
  exact Nat.mul_lt_mul_of_pos_right h2 (Nat.two_pow_pos _)
theorem cut_exact (neg : Bool) (M d : Nat) (hM : M ≠ 0) : Ieee.Toward.even.cut neg (M * 2 ^ d) d = M := by
 unfold Ieee.Toward.cut
 have hl := log2_mul (d := d) hM
 have hm : min d ((M * 2 ^ d).log2 + 2) = d := by omega
 have hp := Nat.two_pow_pos d
 simp only [hm, Nat.one_shiftLeft]
 rw [Nat.mul_div_cancel _ hp, Nat.mul_mod_left]
 have : ¬ (2 ^ d < 2 * 0) := by omega
 have h3 : (2 ^ d == 2 * 0) = false := by simp
 simp [h3]
theorem nearest_val (neg : Bool) (m : Nat) (p : Int) (M U : Nat) (hM : M < 9007199254740992) (hM0 : M ≠ 0) (hU : U = 0 ∨ 4503599627370496 ≤ M)
  (h : (∃ d : Nat, p = (U : Int) - 1074 + d ∧ m * 2 ^ d = M) ∨ (∃ d : Nat, p + d = (U : Int) - 1074 ∧ m = M * 2 ^ d)) :
  Ieee.double.nearest neg m p = Ieee.double.word neg (min (U * 4503599627370496 + M) 9218868437227405312) := by
 have s2 : Ieee.double.binade = 4503599627370496 := by decide
 have s3 : Ieee.double.infRung = 9218868437227405312 := by decide
 have s4 : Ieee.double.leastPlace = -1074 := by decide
 have s5 : (Ieee.double.fractionBits : Int) = 52 := by decide
 have hlM : M.log2 < 53 := (Nat.log2_lt hM0).2 (by omega)
 have hlM2 : U = 0 ∨ M.log2 = 52 := by
  rcases hU with h | h
  ·exact Or.inl h
  ·exact Or.inr (log2_eq (by omega) (by omega))
 unfold Ieee.Format.nearest
 simp only [s2, s3, s4, s5]
 rcases h with ⟨d, hp, hm⟩ | ⟨d, hp, hm⟩
 ·have hm0 : m ≠ 0 := by intro e; rw [e] at hm; omega
  have hl : M.log2 = m.log2 + d := by rw [← hm]; exact log2_mul hm0
  rw [if_neg hm0]
  have hlast : max (p + (m.log2 : Int) - 52) (-1074) = (U : Int) - 1074 := by omega
  rw [hlast]
  have e1 : (p - ((U : Int) - 1074)).toNat = d := by omega
  have e2 : ((U : Int) - 1074 - p).toNat = 0 := by omega
  have e3 : ((U : Int) - 1074 - -1074).toNat = U := by omega
  rw [e1, e2, e3, Nat.shiftLeft_eq, hm]
  have := cut_exact neg M 0 hM0
  rw [Nat.pow_zero, Nat.mul_one] at this
  rw [this]
 ·have hm0 : m ≠ 0 := by
   intro e; rw [e] at hm
   have := Nat.mul_pos (Nat.pos_of_ne_zero hM0) (Nat.two_pow_pos d)
   omega
  have hl : m.log2 = M.log2 + d := by rw [hm]; exact log2_mul hM0
  rw [if_neg hm0]
  have hlast : max (p + (m.log2 : Int) - 52) (-1074) = (U : Int) - 1074 := by omega
  rw [hlast]
  have e1 : (p - ((U : Int) - 1074)).toNat = 0 := by omega
  have e2 : ((U : Int) - 1074 - p).toNat = d := by omega
  have e3 : ((U : Int) - 1074 - -1074).toNat = U := by omega
  rw [e1, e2, e3, Nat.shiftLeft_zero, hm, cut_exact neg M d hM0]
theorem word_pos (r : Nat) : Ieee.double.word false r = r := rfl
theorem word_neg (r : Nat) : Ieee.double.word true r = 9223372036854775808 + r := by
 have s1 : Ieee.double.signWeight = 9223372036854775808 := by decide
 unfold Ieee.Format.word; rw [s1]; rfl
theorem mg_of {U M : Nat} (hM : M < 9007199254740992) (hU : U = 0 ∨ 4503599627370496 ≤ M) : mg (U * 4503599627370496 + M) = M ∧ up (U * 4503599627370496 + M) = U := by
 unfold mg up
 rcases hU with h | h
 ·subst h; (repeat' split) <;> omega
 ·(repeat' split) <;> omega
theorem read_fin {x : Nat} (hx : x < 18446744073709551616) (hf : finB x = true) : Ieee.double.read x = .number (sgn x) (mg (rung x)) (-1074 + (up (rung x) : Nat)) := by
 rw [read_eq x hx, if_pos (by simpa [finB] using hf)]
def pw (e : Int) : Nat := if e < -1022 then 2 ^ (e + 1074).toNat else (e + 1023).toNat * 4503599627370496
def key (a : Nat) : Int := if nanB a then 36893488147419103232 else 2 * place a + (if sgn a then 0 else 1)
theorem ordF_key (a b : Nat) : ordF a b = if key a < key b then -1 else if key b < key a then 1 else 0 := by
 have h1 := place_bd a
 have h2 := place_bd b
 unfold ordF key ordS
 cases nanB a <;> cases nanB b <;> cases sgn a <;> cases sgn b <;> simp only [Bool.and_true, Bool.and_false, Bool.not_true, Bool.not_false, Bool.false_eq_true, if_true, if_false] <;> (repeat' split) <;> omega
theorem neg_word {r : Nat} (h : r < 9223372036854775808) : Op.negFloat .f64 r = 9223372036854775808 + r := by
 unfold Op.negFloat
 rw [fmt64]
 have e : (2 : Nat) ^ (Ieee.double.exponentBits + Ieee.double.fractionBits) = 2 ^ 63 := rfl
 rw [e]
 have h1 := Nat.two_pow_add_eq_or_of_lt (i := 63) (b := r) (by omega) 1
 rw [Nat.mul_one] at h1
 have h2 : r ^^^ 2 ^ 63 = 2 ^ 63 ||| r := by
  apply Nat.eq_of_testBit_eq
  intro k
  rw [Nat.testBit_xor, Nat.testBit_or, Nat.testBit_two_pow]
  by_cases hk : 63 = k
  ·subst hk
   have : r.testBit 63 = false := Nat.testBit_lt_two_pow (by omega)
   simp [this]
  ·simp [hk]
 rw [h2, ← h1]
theorem word_lt64 (s : Bool) {r : Nat} (h : r < 9223372036854775808) : Ieee.double.word s r < 18446744073709551616 := by
 cases s
 ·rw [word_pos]; omega
 ·rw [word_neg]; omega
theorem word_rung (s : Bool) {r : Nat} (h : r < 9223372036854775808) : rung (Ieee.double.word s r) = r ∧ sgn (Ieee.double.word s r) = s := by
 cases s
 ·rw [word_pos]; exact ⟨rung_small h, sgn_small h⟩
 ·rw [word_neg]; unfold rung sgn; constructor
  ·omega
  ·simp
theorem word_of {a : Nat} (ha : a < 18446744073709551616) : a = Ieee.double.word (sgn a) (rung a) := by
 have := rung_of a ha
 cases hs : sgn a
 ·rw [word_pos]; rw [hs] at this; simpa using this
 ·rw [word_neg]; rw [hs] at this; simpa using this
theorem sum_val (s t : Bool) (r q : Nat) : Ieee.Datum.sum (.number s (mg r) (-1074 + (up r : Nat))) (.number t (mg q) (-1074 + (up q : Nat))) =
  some (.number (if Ieee.signed s (mg r) (up r - min (up r) (up q)) + Ieee.signed t (mg q) (up q - min (up r) (up q)) = 0 then s && t else decide (Ieee.signed s (mg r) (up r - min (up r) (up q)) + Ieee.signed t (mg q) (up q - min (up r) (up q)) < 0))
   (Ieee.signed s (mg r) (up r - min (up r) (up q)) + Ieee.signed t (mg q) (up q - min (up r) (up q))).natAbs (-1074 + (min (up r) (up q) : Nat))) := by
 have e1 : (-1074 + (up r : Int) - (-1074 + ((min (up r) (up q) : Nat) : Int))).toNat = up r - min (up r) (up q) := by omega
 have e2 : (-1074 + (up q : Int) - (-1074 + ((min (up r) (up q) : Nat) : Int))).toNat = up q - min (up r) (up q) := by omega
 have e3 : min (-1074 + (up r : Int)) (-1074 + (up q : Int)) = -1074 + ((min (up r) (up q) : Nat) : Int) := by omega
 simp only [Ieee.Datum.sum, e3, e1, e2]
theorem ord_lt {a b : Nat} (ha : a < 18446744073709551616) (hb : b < 18446744073709551616) (na : nanB a = false) (nb : nanB b = false) (h : place a < place b) : FloatKind.f64.format.order a b = some .lt := by
 rw [ord_num ha hb na nb, cmp_int, if_pos h]
theorem ord_eq {a b : Nat} (ha : a < 18446744073709551616) (hb : b < 18446744073709551616) (na : nanB a = false) (nb : nanB b = false) (h : place a = place b) : FloatKind.f64.format.order a b = some .eq := by
 rw [ord_num ha hb na nb, cmp_int, if_neg (by omega), if_pos h]
theorem ord_gt {a b : Nat} (ha : a < 18446744073709551616) (hb : b < 18446744073709551616) (na : nanB a = false) (nb : nanB b = false) (h : place b < place a) : FloatKind.f64.format.order a b = some .gt := by
 rw [ord_num ha hb na nb, cmp_int, if_neg (by omega), if_neg (by omega)]
theorem fin_place {a : Nat} : finB a = decide (-9218868437227405312 < place a ∧ place a < 9218868437227405312) := by
 unfold finB place
 rw [decide_eq_decide]
 split <;> omega
theorem neg_place {a : Nat} (ha : a < 18446744073709551616) : place (Op.negFloat .f64 a) = -place a ∧ nanB (Op.negFloat .f64 a) = nanB a ∧ Op.negFloat .f64 a < 18446744073709551616 := by
 have hr := rung_lt a
 have hw := rung_of a ha
 cases hs : sgn a
 ·rw [hs] at hw
  simp only [Bool.false_eq_true, if_false] at hw
  have e : Op.negFloat .f64 a = 9223372036854775808 + a := neg_word (by omega)
  rw [e]
  have hra : rung (9223372036854775808 + a) = rung a := by unfold rung; omega
  refine ⟨?_, ?_, by omega⟩
  ·unfold place; rw [hra, hs]; unfold sgn; simp
  ·unfold nanB; rw [hra]
 ·rw [hs] at hw
  simp only [if_true] at hw
  have e0 : Op.negFloat .f64 (rung a) = 9223372036854775808 + rung a := neg_word hr
  have e1 : a = Op.negFloat .f64 (rung a) := by rw [e0]; exact hw
  have e2 : Op.negFloat .f64 (Op.negFloat .f64 (rung a)) = rung a := by
   unfold Op.negFloat
   rw [Nat.xor_assoc, Nat.xor_self, Nat.xor_zero]
  have e : Op.negFloat .f64 a = rung a := (congrArg (Op.negFloat .f64) e1).trans e2
  rw [e]
  refine ⟨?_, ?_, by omega⟩
  ·rw [place_small hr]; unfold place; rw [hs]; simp
  ·unfold nanB; rw [rung_rung]
def nanW (x y : Nat) (w : World) : Nat := (Question.nanBits .f64 x y).cut (w.tape w.drawn (.nanBits .f64 x y))
theorem nanW_nan (x y : Nat) (w : World) : nanB (nanW x y w) = true ∧ nanW x y w < 18446744073709551616 := by
 unfold nanW Question.cut
 generalize w.tape w.drawn (Question.nanBits .f64 x y) = t
 have h1 := Nat.mod_lt t (show 0 < 2 by omega)
 have h2 := Nat.mod_lt (t / 2) (show 0 < 2 ^ 52 - 1 by omega)
 unfold nanB rung
 simp only [decide_eq_true_eq]
 generalize t / 2 % (2 ^ 52 - 1) = y at *
 rcases (show t % 2 = 0 ∨ t % 2 = 1 by omega) with h | h
 ·rw [h]; omega
 ·rw [h]; omega
theorem run_nan {P : Program} (op : BinOp) (hop : op = .sub ∨ op = .add) (t : TypeId) (x y : Nat) (h : floatBits op .f64 x y = none) (w : World) : (binOp op t (.float .f64 x) (.float .f64 y)).run P w = .ok (.float .f64 (nanW x y w)) w.drew := by
 rcases hop with rfl | rfl
 ·have h' : Ieee.double.sub x y = none := h
  simp [binOp, Op.floatArith, fmt64, h', Question.forced, nanW]
 ·have h' : Ieee.double.add x y = none := h
  simp [binOp, Op.floatArith, fmt64, h', Question.forced, nanW]
end Go.Proofs.YtfipmopmpacdaaaGreatDoor
