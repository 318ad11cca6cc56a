/- Places of neighbours, of infinities, of noughts; what the law's own 'finite' computes. -/
import Derived.Test.YtbfefoidpgbjaaaGreatDoorZg
import Derived.Test.YtbfefoidpgbjaaaGreatDoorK1
namespace Go.Proofs.YtbfefoidpgbjaaaGreatDoor
open Go.RowKit
theorem word_lt64 (s : Bool) {r : Nat} (h : r < 9223372036854775808) : Ieee.double.word s r < 18446744073709551616 := by
 cases s
 ·rw [word_pos]; omega
 ·rw [word_neg]; omega
theorem word_rung (s : Bool) {r : Nat} (h : r < 9223372036854775808) : rung (Ieee.double.word s r) = r ∧ sgn (Ieee.double.word s r) = s := by
 cases s
 ·rw [word_pos]; exact ⟨rung_small h, sgn_small h⟩
 ·rw [word_neg]; unfold rung sgn; constructor
  ·omega
  ·simp
theorem word_of {a : Nat} (ha : a < 18446744073709551616) : a = Ieee.double.word (sgn a) (rung a) := by
 have := rung_of a ha
 cases hs : sgn a
 ·rw [word_pos]; rw [hs] at this; simpa using this
 ·rw [word_neg]; rw [hs] at this; simpa using this
theorem sum_val (s t : Bool) (r q : Nat) : Ieee.Datum.sum (.number s (mg r) (-1074 + (up r : Nat))) (.number t (mg q) (-1074 + (up q : Nat))) =
  some (.number (if Ieee.signed s (mg r) (up r - min (up r) (up q)) + Ieee.signed t (mg q) (up q - min (up r) (up q)) = 0 then s && t else decide (Ieee.signed s (mg r) (up r - min (up r) (up q)) + Ieee.signed t (mg q) (up q - min (up r) (up q)) < 0))
   (Ieee.signed s (mg r) (up r - min (up r) (up q)) + Ieee.signed t (mg q) (up q - min (up r) (up q))).natAbs (-1074 + (min (up r) (up q) : Nat))) := by
 have e1 : (-1074 + (up r : Int) - (-1074 + ((min (up r) (up q) : Nat) : Int))).toNat = up r - min (up r) (up q) := by omega
 have e2 : (-1074 + (up q : Int) - (-1074 + ((min (up r) (up q) : Nat) : Int))).toNat = up q - min (up r) (up q) := by omega
 have e3 : min (-1074 + (up r : Int)) (-1074 + (up q : Int)) = -1074 + ((min (up r) (up q) : Nat) : Int) := by omega
 simp only [Ieee.Datum.sum, e3, e1, e2]
theorem neg_word {r : Nat} (h : r < 9223372036854775808) : Op.negFloat .f64 r = 9223372036854775808 + r := by
 unfold Op.negFloat
 rw [fmt64]
 have e : (2 : Nat) ^ (Ieee.double.exponentBits + Ieee.double.fractionBits) = 2 ^ 63 := rfl
 rw [e]
 have h1 := Nat.two_pow_add_eq_or_of_lt (i := 63) (b := r) (by omega) 1
 rw [Nat.mul_one] at h1
 have h2 : r ^^^ 2 ^ 63 = 2 ^ 63 ||| r := by
  apply Nat.eq_of_testBit_eq
  intro k
  rw [Nat.testBit_xor, Nat.testBit_or, Nat.testBit_two_pow]
  by_cases hk : 63 = k
  ·subst hk
   have : r.testBit 63 = false := Nat.testBit_lt_two_pow (by omega)
   simp [this]
  ·simp [hk]
 rw [h2, ← h1]
set_option maxHeartbeats 400000 in
theorem samef_any (a b : Nat) (ha : a < 18446744073709551616) (hb : b < 18446744073709551616) (w : World) :
  Calls Tryz.prog 23 #[.float .f64 a, .float .f64 b] w fun e w' => e = .returned (.bool (sameB a b)) ∧ w' = w := by
 have fa := run_fbits a
 have fb := run_fbits b
 have na := ord_self a ha
 have nb := ord_self b hb
 by_cases h : a = b
 ·have b1 : ((a : Int) == (b : Int)) = true := by simp; omega
  have HE : Hid (sameB a b = true) := (show sameB a b = true by unfold sameB; subst h; cases nanB a <;> simp)
  clear h
  go_enter Tryz.func23, Tryz.ntmps23
  go_wp2
  go_ret
  exact ⟨end_bool HE.out.symm, rfl⟩
 ·have b1 : ((a : Int) == (b : Int)) = false := by simp; omega
  have HE : Hid (sameB a b = (nanB a && nanB b)) := (show sameB a b = (nanB a && nanB b) by unfold sameB; cases nanB a <;> simp [h])
  clear h
  cases ea : nanB a
  all_goals
   rw [ea] at na
   go_enter Tryz.func23, Tryz.ntmps23
   go_wp2
   go_ret
   exact ⟨end_bool (by rw [HE.out, ea]; rfl), rfl⟩
theorem ord_lt {a b : Nat} (ha : a < 18446744073709551616) (hb : b < 18446744073709551616) (na : nanB a = false) (nb : nanB b = false) (h : place a < place b) : FloatKind.f64.format.order a b = some .lt := by
 rw [ord_num ha hb na nb, cmp_int, if_pos h]
theorem ord_eq {a b : Nat} (ha : a < 18446744073709551616) (hb : b < 18446744073709551616) (na : nanB a = false) (nb : nanB b = false) (h : place a = place b) : FloatKind.f64.format.order a b = some .eq := by
 rw [ord_num ha hb na nb, cmp_int, if_neg (by omega), if_pos h]
theorem ord_gt {a b : Nat} (ha : a < 18446744073709551616) (hb : b < 18446744073709551616) (na : nanB a = false) (nb : nanB b = false) (h : place b < place a) : FloatKind.f64.format.order a b = some .gt := by
 rw [ord_num ha hb na nb, cmp_int, if_neg (by omega), if_neg (by omega)]
theorem fin_place {a : Nat} : finB a = decide (-9218868437227405312 < place a ∧ place a < 9218868437227405312) := by
 unfold finB place
 rw [decide_eq_decide]
 split <;> omega
theorem neg_place {a : Nat} (ha : a < 18446744073709551616) : place (Op.negFloat .f64 a) = -place a ∧ nanB (Op.negFloat .f64 a) = nanB a ∧ Op.negFloat .f64 a < 18446744073709551616 := by
 have hr := rung_lt a
 have hw := rung_of a ha
 cases hs : sgn a
 ·rw [hs] at hw
  simp only [Bool.false_eq_true, if_false] at hw
  have e : Op.negFloat .f64 a = 9223372036854775808 + a := neg_word (by omega)
  rw [e]
  have hra : rung (9223372036854775808 + a) = rung a := by unfold rung; omega
  refine ⟨?_, ?_, by omega⟩
  ·unfold place; rw [hra, hs]; unfold sgn; simp
  ·unfold nanB; rw [hra]
 ·rw [hs] at hw
  simp only [if_true] at hw
  have e0 : Op.negFloat .f64 (rung a) = 9223372036854775808 + rung a := neg_word hr
  have e1 : a = Op.negFloat .f64 (rung a) := by rw [e0]; exact hw
  have e2 : Op.negFloat .f64 (Op.negFloat .f64 (rung a)) = rung a := by
   unfold Op.negFloat
   rw [Nat.xor_assoc, Nat.xor_self, Nat.xor_zero]
  have e : Op.negFloat .f64 a = rung a := (congrArg (Op.negFloat .f64) e1).trans e2
  rw [e]
  refine ⟨?_, ?_, by omega⟩
  ·rw [place_small hr]; unfold place; rw [hs]; simp
  ·unfold nanB; rw [rung_rung]
def nanW (x y : Nat) (w : World) : Nat := (Question.nanBits .f64 x y).cut (w.tape w.drawn (.nanBits .f64 x y))
theorem nanW_nan (x y : Nat) (w : World) : nanB (nanW x y w) = true ∧ nanW x y w < 18446744073709551616 := by
 unfold nanW Question.cut
 generalize w.tape w.drawn (Question.nanBits .f64 x y) = t
 have h1 := Nat.mod_lt t (show 0 < 2 by omega)
 have h2 := Nat.mod_lt (t / 2) (show 0 < 2 ^ 52 - 1 by omega)
 unfold nanB rung
 simp only [decide_eq_true_eq]
 generalize t / 2 % (2 ^ 52 - 1) = y at *
 rcases (show t % 2 = 0 ∨ t % 2 = 1 by omega) with h | h
 ·rw [h]; omega
 ·rw [h]; omega
theorem run_nan {P : Program} (op : BinOp) (hop : op = .sub ∨ op = .add) (t : TypeId) (x y : Nat) (h : floatBits op .f64 x y = none) (w : World) : (binOp op t (.float .f64 x) (.float .f64 y)).run P w = .ok (.float .f64 (nanW x y w)) w.drew := by
 rcases hop with rfl | rfl
 ·have h' : Ieee.double.sub x y = none := h
  simp [binOp, Op.floatArith, fmt64, h', Question.forced, nanW]
 ·have h' : Ieee.double.add x y = none := h
  simp [binOp, Op.floatArith, fmt64, h', Question.forced, nanW]
end Go.Proofs.YtbfefoidpgbjaaaGreatDoor
