/- Places of neighbours, of infinities, of noughts; what the law's own 'finite' computes. -/
import Derived.Test.YtnclddfljghebaaGreatDoorRS
import Derived.Test.YtnclddfljghebaaGreatDoorWj
namespace Go.Proofs.YtnclddfljghebaaGreatDoor
open Go.RowKit

theorem place_at {p : Int} (h : -9218868437227405312 ≤ p ∧ p ≤ 9218868437227405312) : place (atF p) = p ∧ nanB (atF p) = false ∧ atF p < 18446744073709551616 := by
  have hl := atF_lt p
  refine ⟨?_, ?_, hl⟩
  · unfold atF; rw [atB_in h, if_pos rfl]
    by_cases hp : p < 0
    · rw [if_pos hp]; unfold place sgn rung; simp; omega
    · rw [if_neg hp]; rw [place_small (by omega)]; omega
  · unfold atF; rw [atB_in h, if_pos rfl]
    by_cases hp : p < 0
    · rw [if_pos hp]; unfold nanB rung; simp; omega
    · rw [if_neg hp]; exact nan_small (by omega)
theorem next_up {a : Nat} (na : nanB a = false) : place (nextF a true) = min (place a + 1) 9218868437227405312 ∧ nanB (nextF a true) = false ∧ nextF a true < 18446744073709551616 := by
  have hb := place_nan na
  have e : nextF a true = atF (min (place a + 1) 9218868437227405312) := by unfold nextF; rw [na]; rfl
  rw [e]; exact place_at (by omega)
theorem next_dn {a : Nat} (na : nanB a = false) : place (nextF a false) = max (place a - 1) (-9218868437227405312) ∧ nanB (nextF a false) = false ∧ nextF a false < 18446744073709551616 := by
  have hb := place_nan na
  have e : nextF a false = atF (max (place a - 1) (-9218868437227405312)) := by unfold nextF; rw [na]; rfl
  rw [e]; exact place_at (by omega)
theorem ord_lt {a b : Nat} (ha : a < 18446744073709551616) (hb : b < 18446744073709551616) (na : nanB a = false) (nb : nanB b = false) (h : place a < place b) : FloatKind.f64.format.order a b = some .lt := by
  rw [ord_num ha hb na nb, cmp_int, if_pos h]
theorem ord_eq {a b : Nat} (ha : a < 18446744073709551616) (hb : b < 18446744073709551616) (na : nanB a = false) (nb : nanB b = false) (h : place a = place b) : FloatKind.f64.format.order a b = some .eq := by
  rw [ord_num ha hb na nb, cmp_int, if_neg (by omega), if_pos h]
theorem ord_gt {a b : Nat} (ha : a < 18446744073709551616) (hb : b < 18446744073709551616) (na : nanB a = false) (nb : nanB b = false) (h : place b < place a) : FloatKind.f64.format.order a b = some .gt := by
  rw [ord_num ha hb na nb, cmp_int, if_neg (by omega), if_neg (by omega)]
theorem fin_place {a : Nat} : finB a = decide (-9218868437227405312 < place a ∧ place a < 9218868437227405312) := by
  unfold finB place
  rw [decide_eq_decide]
  split <;> omega

theorem neg_place {a : Nat} (ha : a < 18446744073709551616) : place (Op.negFloat .f64 a) = -place a ∧ nanB (Op.negFloat .f64 a) = nanB a ∧ Op.negFloat .f64 a < 18446744073709551616 := by
  have hr := rung_lt a
  have hw := rung_of a ha
  cases hs : sgn a
  · rw [hs] at hw
    simp only [Bool.false_eq_true, if_false] at hw
    have e : Op.negFloat .f64 a = 9223372036854775808 + a := neg_word (by omega)
    rw [e]
    have hra : rung (9223372036854775808 + a) = rung a := by unfold rung; omega
    refine ⟨?_, ?_, by omega⟩
    · unfold place; rw [hra, hs]; unfold sgn; simp
    · unfold nanB; rw [hra]
  · rw [hs] at hw
    simp only [if_true] at hw
    have e0 : Op.negFloat .f64 (rung a) = 9223372036854775808 + rung a := neg_word hr
    have e1 : a = Op.negFloat .f64 (rung a) := by rw [e0]; exact hw
    have e2 : Op.negFloat .f64 (Op.negFloat .f64 (rung a)) = rung a := by
      unfold Op.negFloat
      rw [Nat.xor_assoc, Nat.xor_self, Nat.xor_zero]
    have e : Op.negFloat .f64 a = rung a := (congrArg (Op.negFloat .f64) e1).trans e2
    rw [e]
    refine ⟨?_, ?_, by omega⟩
    · rw [place_small hr]; unfold place; rw [hs]; simp
    · unfold nanB; rw [rung_rung]

def infB (a : Nat) (s : Int) : Bool := if s < 0 then FloatKind.f64.format.order (Op.negFloat .f64 a) 9218868437227405311 == some .gt else FloatKind.f64.format.order a 9218868437227405311 == some .gt
theorem inf_plus {a : Nat} (ha : a < 18446744073709551616) (na : nanB a = false) : infB a 1 = decide (9218868437227405312 ≤ place a) := by
  unfold infB
  rw [if_neg (by omega), gt_num ha (by omega) na (nan_small (by omega)), place_small (by omega), decide_eq_decide]; omega
theorem inf_minus {a : Nat} (ha : a < 18446744073709551616) (na : nanB a = false) : infB a (-1) = decide (place a ≤ -9218868437227405312) := by
  obtain ⟨h1, h2, h3⟩ := neg_place ha
  unfold infB
  rw [if_pos (by omega), gt_num h3 (by omega) (h2.trans na) (nan_small (by omega)), place_small (by omega), h1, decide_eq_decide]; omega

/-- The NaN that an operation without an answer draws. -/
def nanW (x y : Nat) (w : World) : Nat := (Question.nanBits .f64 x y).cut (w.tape w.drawn (.nanBits .f64 x y))
theorem nanW_nan (x y : Nat) (w : World) : nanB (nanW x y w) = true ∧ nanW x y w < 18446744073709551616 := by
  unfold nanW Question.cut
  generalize w.tape w.drawn (Question.nanBits .f64 x y) = t
  have h1 := Nat.mod_lt t (show 0 < 2 by omega)
  have h2 := Nat.mod_lt (t / 2) (show 0 < 2 ^ 52 - 1 by omega)
  unfold nanB rung
  simp only [decide_eq_true_eq]
  generalize t / 2 % (2 ^ 52 - 1) = y at *
  rcases (show t % 2 = 0 ∨ t % 2 = 1 by omega) with h | h
  · rw [h]; omega
  · rw [h]; omega
theorem run_nan {P : Program} (op : BinOp) (hop : op = .sub ∨ op = .add) (t : TypeId) (x y : Nat) (h : floatBits op .f64 x y = none) (w : World) : (binOp op t (.float .f64 x) (.float .f64 y)).run P w = .ok (.float .f64 (nanW x y w)) w.drew := by
  rcases hop with rfl | rfl
  · have h' : Ieee.double.sub x y = none := h
    simp [binOp, Op.floatArith, fmt64, h', Question.forced, nanW]
  · have h' : Ieee.double.add x y = none := h
    simp [binOp, Op.floatArith, fmt64, h', Question.forced, nanW]
theorem sub_inf {a : Nat} (ha : a < 18446744073709551616) (hf : finB a = false) : floatBits .sub .f64 a a = none := by
  have h : ¬ rung a < 9218868437227405312 := by unfold finB at hf; simpa using hf
  unfold floatBits
  simp only [fmt64, Ieee.Format.sub]
  rw [read_eq a ha, if_neg h]
  split
  · simp only [Ieee.Datum.opposite, Ieee.Datum.sum]; cases sgn a <;> rfl
  · rfl

end Go.Proofs.YtnclddfljghebaaGreatDoor
