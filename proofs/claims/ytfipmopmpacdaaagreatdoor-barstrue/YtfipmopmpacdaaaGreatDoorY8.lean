/- What Copysign, and round's and the document's small functions (finite, sign, step, nought, sum; Finite, sign, up, down, side, great, nought), answer, call by call. -/
import Derived.Test.YtfipmopmpacdaaaGreatDoorZg
import Derived.Test.YtfipmopmpacdaaaGreatDoorK1
namespace Go.Proofs.YtfipmopmpacdaaaGreatDoor
def cpy (f s : Nat) : Nat := rung f + (if sgn s then 9223372036854775808 else 0)
def negW (x : Nat) : Nat := Op.negFloat .f64 x
def signF (x : Nat) : Int := if nanB x then 0 else if place x < 0 then -1 else if 0 < place x then 1 else 0
def dnB (m : Int) (neg : Bool) : Bool := m == 1 || (m == 3 && !neg)
def upB (m : Int) (neg : Bool) : Bool := m == 2 || (m == 3 && neg)
def stepF (x : Nat) (r m : Int) : Nat := if (dnB m (sgn x) && decide (r < 0)) || (upB m (sgn x) && decide (0 < r)) then cpy (nextF x (decide (0 < r))) x else x
def noughtF (a b : Nat) (m : Int) : Nat := if sgn a == sgn b then a else if m == 1 then 9223372036854775808 else 0
def noughtR (zero neg : Bool) (b : Nat) (m : Int) : Nat := if zero && (rung b == 0 && neg == sgn b) then b else if m == 1 then 9223372036854775808 else 0
theorem negW_pos {r : Nat} (h : r < 9223372036854775808) : negW r = 9223372036854775808 + r := neg_word h
theorem negW_neg {r : Nat} (h : r < 9223372036854775808) : negW (9223372036854775808 + r) = r := by
 rw [← negW_pos h]
 unfold negW Op.negFloat
 rw [Nat.xor_assoc, Nat.xor_self, Nat.xor_zero]
theorem negW_lt {x : Nat} (h : x < 18446744073709551616) : negW x < 18446744073709551616 := (neg_place h).2.2
theorem rung_big {r : Nat} (h : r < 9223372036854775808) : rung (9223372036854775808 + r) = r ∧ sgn (9223372036854775808 + r) = true := by
 unfold rung sgn
 exact ⟨by omega, by simp⟩
theorem rung_pos {r : Nat} (h : r < 9223372036854775808) : rung r = r ∧ sgn r = false := ⟨rung_small h, sgn_small h⟩
theorem word_two {x : Nat} (h : x < 18446744073709551616) : (x = rung x ∧ sgn x = false) ∨ (x = 9223372036854775808 + rung x ∧ sgn x = true) := by
 have e := rung_of x h
 cases hs : sgn x <;> rw [hs] at e
 ·exact Or.inl ⟨by simpa using e, rfl⟩
 ·exact Or.inr ⟨by simpa using e, rfl⟩
theorem at_plus {p : Nat} (h : p ≤ 9218868437227405312) : atF (p : Int) = p := by
 unfold atF; rw [atB_in (by omega), if_pos rfl, if_neg (by omega)]; omega
theorem at_minus {p : Nat} (h : p ≤ 9218868437227405312) (h0 : p ≠ 0) : atF (-(p : Int)) = 9223372036854775808 + p := by
 unfold atF; rw [atB_in (by omega), if_pos rfl, if_pos (by omega)]; omega
theorem next_plus {r : Nat} (h : r < 9218868437227405312) : nextF r true = r + 1 := by
 obtain ⟨h1, h2⟩ := rung_pos (r := r) (by omega)
 unfold nextF place
 rw [nan_small (by omega), h2, h1]
 simp only [Bool.false_eq_true, if_false, if_true]
 rw [show min ((r : Int) + 1) 9218868437227405312 = ((r + 1 : Nat) : Int) by omega]
 exact at_plus (by omega)
theorem next_less {r : Nat} (h : r ≤ 9218868437227405312) (h0 : r ≠ 0) : nextF r false = r - 1 := by
 obtain ⟨h1, h2⟩ := rung_pos (r := r) (by omega)
 unfold nextF place
 rw [nan_small (by omega), h2, h1]
 simp only [Bool.false_eq_true, if_false]
 rw [show max ((r : Int) - 1) (-9218868437227405312) = ((r - 1 : Nat) : Int) by omega]
 exact at_plus (by omega)
theorem nan_big {r : Nat} (h : r ≤ 9218868437227405312) : nanB (9223372036854775808 + r) = false := by
 unfold nanB; rw [(rung_big (by omega)).1]; simp; omega
theorem next_big_dn {r : Nat} (h : r < 9218868437227405312) : nextF (9223372036854775808 + r) false = 9223372036854775808 + (r + 1) := by
 obtain ⟨h1, h2⟩ := rung_big (r := r) (by omega)
 unfold nextF place
 rw [nan_big (by omega), h2, h1]
 simp only [Bool.false_eq_true, if_false, if_true]
 rw [show max (-(r : Int) - 1) (-9218868437227405312) = -((r + 1 : Nat) : Int) by omega]
 exact at_minus (by omega) (by omega)
theorem next_big_up {r : Nat} (h : r ≤ 9218868437227405312) (h0 : r ≠ 0) : rung (nextF (9223372036854775808 + r) true) = r - 1 := by
 obtain ⟨h1, h2⟩ := rung_big (r := r) (by omega)
 unfold nextF place
 rw [nan_big (by omega), h2, h1]
 simp only [Bool.false_eq_true, if_false, if_true]
 rw [show min (-(r : Int) + 1) 9218868437227405312 = -((r - 1 : Nat) : Int) by omega]
 by_cases h2 : r - 1 = 0
 ·rw [h2]; rfl
 ·rw [at_minus (by omega) h2]; exact (rung_big (by omega)).1
theorem cpy_pos {f r : Nat} (h : r < 9223372036854775808) : cpy f r = rung f := by unfold cpy; rw [(rung_pos h).2]; rfl
theorem cpy_big {f r : Nat} (h : r < 9223372036854775808) : cpy f (9223372036854775808 + r) = 9223372036854775808 + rung f := by unfold cpy; rw [(rung_big h).2, if_pos rfl]; omega
theorem nearest_bd (s : Bool) (m : Nat) (p : Int) : ∃ q, q ≤ 9218868437227405312 ∧ Ieee.double.nearest s m p = Ieee.double.word s q := by
 unfold Ieee.Format.nearest
 split
 ·exact ⟨0, by omega, rfl⟩
 ·exact ⟨_, Nat.min_le_right _ _, rfl⟩
theorem nearest_ne {s : Bool} {m : Nat} {p : Int} (hm : m ≠ 0) (hp : -1074 ≤ p) : ∃ q, q ≠ 0 ∧ q ≤ 9218868437227405312 ∧ Ieee.double.nearest s m p = Ieee.double.word s q := by
 have s2 : Ieee.double.binade = 4503599627370496 := by decide
 have s3 : Ieee.double.infRung = 9218868437227405312 := by decide
 have s4 : Ieee.double.leastPlace = -1074 := by decide
 unfold Ieee.Format.nearest
 rw [if_neg hm]
 simp only [s2, s3, s4]
 refine ⟨_, ?_, Nat.min_le_right _ _, rfl⟩
 generalize hL : max (p + (m.log2 : Int) - (Ieee.double.fractionBits : Nat)) (-1074) = L
 by_cases h : L = -1074
 ·have hd : (L - p).toNat = 0 := by omega
  have hk : Ieee.Toward.even.cut s (m <<< (p - L).toNat) (L - p).toNat = m <<< (p - L).toNat := by
   rw [hd]
   unfold Ieee.Toward.cut
   simp [Nat.mod_one]
  rw [hk, Nat.shiftLeft_eq]
  have h1 : 0 < m * 2 ^ (p - L).toNat := Nat.mul_pos (Nat.pos_of_ne_zero hm) (Nat.pow_pos (by omega))
  omega
 ·have h1 : 1 ≤ (L - -1074).toNat := by omega
  generalize Ieee.Toward.even.cut s (m <<< (p - L).toNat) (L - p).toNat = k
  omega
theorem fin_rung {x : Nat} (h : finB x = true) : rung x < 9218868437227405312 := by unfold finB at h; simpa using h
def NR (o : Option Nat) (r : Nat) : Prop := r < 18446744073709551616 ∧ (match o with | some v => r = v | none => nanB r = true)
theorem add_told {a b : Nat} (ha : a < 18446744073709551616) (hb : b < 18446744073709551616) (fa : finB a = true) (fb : finB b = true) :
  ∃ r, floatBits .add .f64 a b = some r ∧ r < 18446744073709551616 ∧ rung r ≤ 9218868437227405312 ∧ (rung r = 0 → sgn a = sgn b → rung a = 0 ∧ rung b = 0) := by
 unfold floatBits
 simp only [fmt64, Ieee.Format.add]
 rw [read_fin ha fa, read_fin hb fb, sum_val]
 simp only [Option.map_some, Ieee.Format.write]
 generalize hT : Ieee.signed (sgn a) (mg (rung a)) (up (rung a) - min (up (rung a)) (up (rung b))) + Ieee.signed (sgn b) (mg (rung b)) (up (rung b) - min (up (rung a)) (up (rung b))) = T
 generalize (if T = 0 then sgn a && sgn b else decide (T < 0)) = S
 by_cases h0 : T = 0
 ·obtain ⟨q, hq, e⟩ := nearest_bd S T.natAbs (-1074 + (min (up (rung a)) (up (rung b)) : Nat))
  refine ⟨_, rfl, ?_, ?_, ?_⟩
  ·rw [e]; exact word_lt64 S (by omega)
  ·rw [e, (word_rung S (by omega)).1]; exact hq
  ·intro _ hs
   have hm : ∀ r, mg r = 0 → r = 0 := fun r h => by unfold mg at h; split at h <;> omega
   have hp : ∀ m k : Nat, 0 ≤ ((m <<< k : Nat) : Int) := fun _ _ => Int.natCast_nonneg _
   have hz : ∀ m k : Nat, m <<< k = 0 → m = 0 := fun m k h => by
    rw [Nat.shiftLeft_eq] at h
    rcases Nat.mul_eq_zero.1 h with h | h
    ·exact h
    ·exact absurd h (Nat.ne_of_gt (Nat.pow_pos (by omega)))
   rw [h0] at hT
   replace h0 := hT
   unfold Ieee.signed at h0
   rw [← hs] at h0
   have h1 := hp (mg (rung a)) (up (rung a) - min (up (rung a)) (up (rung b)))
   have h2 := hp (mg (rung b)) (up (rung b) - min (up (rung a)) (up (rung b)))
   have h3 : mg (rung a) <<< (up (rung a) - min (up (rung a)) (up (rung b))) = 0 ∧ mg (rung b) <<< (up (rung b) - min (up (rung a)) (up (rung b))) = 0 := by
    cases hg : sgn a <;> rw [hg] at h0 <;> simp only [Bool.false_eq_true, if_false, if_true] at h0 <;> omega
   exact ⟨hm _ (hz _ _ h3.1), hm _ (hz _ _ h3.2)⟩
 ·obtain ⟨q, hq0, hq, e⟩ := nearest_ne (s := S) (p := -1074 + ((min (up (rung a)) (up (rung b)) : Nat) : Int)) (Int.natAbs_ne_zero.2 h0) (by omega)
  refine ⟨_, rfl, ?_, ?_, ?_⟩
  ·rw [e]; exact word_lt64 S (by omega)
  ·rw [e, (word_rung S (by omega)).1]; exact hq
  ·intro h; rw [e, (word_rung S (by omega)).1] at h; exact absurd h hq0
theorem neg_read {b : Nat} (hb : b < 18446744073709551616) : Ieee.double.read (negW b) = (Ieee.double.read b).opposite := by
 have hr := rung_lt b
 rcases word_two hb with ⟨e, hs⟩ | ⟨e, hs⟩
 ·have h1 : rung (negW b) = rung b ∧ sgn (negW b) = true := by
   rw [e, negW_pos (rung_lt _), (rung_big (rung_lt _)).1, rung_rung]; exact ⟨rfl, (rung_big (rung_lt _)).2⟩
  rw [read_eq _ (negW_lt hb), read_eq _ hb, h1.1, h1.2, hs]
  split
  ·rfl
  ·split <;> rfl
 ·have h1 : rung (negW b) = rung b ∧ sgn (negW b) = false := by
   have h2 : negW b = rung b := by rw [e, negW_neg (rung_lt _), (rung_big (rung_lt _)).1]
   rw [h2, rung_rung]; exact ⟨rfl, (rung_pos (rung_lt _)).2⟩
  rw [read_eq _ (negW_lt hb), read_eq _ hb, h1.1, h1.2, hs]
  split
  ·rfl
  ·split <;> rfl
theorem fsub_add {a b : Nat} (hb : b < 18446744073709551616) : floatBits .sub .f64 a b = floatBits .add .f64 a (negW b) := by
 unfold floatBits
 simp only [fmt64, Ieee.Format.sub, Ieee.Format.add]
 rw [neg_read hb]
theorem neg_fin {b : Nat} (hb : b < 18446744073709551616) : finB (negW b) = finB b := by
 rw [fin_place, fin_place]
 have h := (neg_place hb).1
 unfold negW
 rw [h, decide_eq_decide]; omega
theorem sub_told {a b : Nat} (ha : a < 18446744073709551616) (hb : b < 18446744073709551616) (fa : finB a = true) (fb : finB b = true) :
  ∃ r, floatBits .sub .f64 a b = some r ∧ r < 18446744073709551616 ∧ rung r ≤ 9218868437227405312 := by
 rw [fsub_add hb]
 obtain ⟨r, h1, h2, h3, _⟩ := add_told ha (negW_lt hb) fa ((neg_fin hb).trans fb)
 exact ⟨r, h1, h2, h3⟩
theorem add_inf_l {i b : Nat} (hi : i < 18446744073709551616) (hr : rung i = 9218868437227405312) (hb : b < 18446744073709551616) (fb : finB b = true) : floatBits .add .f64 i b = some i := by
 unfold floatBits
 simp only [fmt64, Ieee.Format.add]
 rw [read_eq i hi, if_neg (by omega), if_pos hr, read_fin hb fb]
 simp only [Ieee.Datum.sum, Option.map_some, Ieee.Format.write, Option.some.injEq]
 have h := word_of hi
 rw [hr] at h
 exact h.symm
theorem add_inf_r {i b : Nat} (hi : i < 18446744073709551616) (hr : rung i = 9218868437227405312) (hb : b < 18446744073709551616) (fb : finB b = true) : floatBits .add .f64 b i = some i := by
 unfold floatBits
 simp only [fmt64, Ieee.Format.add]
 rw [read_eq i hi, if_neg (by omega), if_pos hr, read_fin hb fb]
 simp only [Ieee.Datum.sum, Option.map_some, Ieee.Format.write, Option.some.injEq]
 have h := word_of hi
 rw [hr] at h
 exact h.symm
theorem neg_rung {b : Nat} (hb : b < 18446744073709551616) : rung (negW b) = rung b ∧ sgn (negW b) = !sgn b := by
 rcases word_two hb with ⟨e, hs⟩ | ⟨e, hs⟩
 ·rw [hs, e, negW_pos (rung_lt _), (rung_big (rung_lt _)).1, rung_rung]; exact ⟨rfl, (rung_big (rung_lt _)).2⟩
 ·have h2 : negW b = rung b := by rw [e, negW_neg (rung_lt _), (rung_big (rung_lt _)).1]
  rw [h2, rung_rung, hs]; exact ⟨rfl, (rung_pos (rung_lt _)).2⟩
theorem rest_inf {i x y : Nat} (hi : i < 18446744073709551616) (hr : rung i = 9218868437227405312) (hx : x < 18446744073709551616) (fx : finB x = true) (hy : y < 18446744073709551616) (fy : finB y = true) :
  floatBits .sub .f64 i x = some i ∧ floatBits .sub .f64 y i = some (negW i) ∧ signF (negW i) = if sgn i then 1 else -1 := by
 refine ⟨?_, ?_, ?_⟩
 ·rw [fsub_add hx]; exact add_inf_l hi hr (negW_lt hx) ((neg_fin hx).trans fx)
 ·rw [fsub_add hi]; exact add_inf_r (negW_lt hi) ((neg_rung hi).1.trans hr) hy fy
 ·obtain ⟨h1, h2⟩ := neg_rung hi
  unfold signF nanB place
  rw [h1, h2, hr]
  cases sgn i <;> rfl
theorem signF_bd (x : Nat) : -1 ≤ signF x ∧ signF x ≤ 1 := by unfold signF; (repeat' split) <;> omega
open Go.RowKit
theorem or_none {r : Nat} (h : r < 9223372036854775808) : bits .or .u64 (r : Int) 0 = (r : Int) := by
 have h1 := u64_or_nat r 0 (by omega) (by omega)
 rw [show ((0 : Nat) : Int) = 0 from rfl] at h1
 rw [h1, Nat.or_zero]
theorem or_sgn {r : Nat} (s : Nat) (h : r < 9223372036854775808) : (bits .or .u64 (r : Int) (if sgn s then 9223372036854775808 else 0)).toNat = r + (if sgn s then 9223372036854775808 else 0) := by
 cases sgn s
 ·simp only [Bool.false_eq_true, if_false]
  have : bits .or .u64 (r : Int) 0 = (r : Int) := or_none h
  rw [this]; omega
 ·simp only [if_true]
  have h1 := or_sign h
  have h2 : bits .or .u64 (r : Int) 9223372036854775808 = bits .or .u64 9223372036854775808 (r : Int) := by
   unfold bits
   simp [BitVec.or_comm]
  rw [h2, h1]; omega
set_option maxHeartbeats 400000 in
theorem copysign_any (f s : Nat) (hf : f < 18446744073709551616) (hs : s < 18446744073709551616) (w : World) :
  Calls Tryz.prog 88 #[.float .f64 f, .float .f64 s] w fun e w' => e = .returned (.float .f64 (cpy f s)) ∧ w' = w := by
 have fa := run_fbits f
 have fs := run_fbits s
 have ff := run_ffrom
 go_enter Tryz.func88, Tryz.ntmps88
 go_wp2
 go_ret
 exact ⟨end_flt (by rw [andNot_sign f hf, and_sign s hs]; exact or_sgn s (rung_lt f)), rfl⟩
theorem zero_lt {x : Nat} (hx : x < 18446744073709551616) : (FloatKind.f64.format.order x 0 == some .lt) = (!nanB x && decide (place x < 0)) := by
 cases hn : nanB x
 ·rw [lt_num hx (by omega) hn (nan_small (by omega))]; rfl
 ·rw [ord_nan hx (by omega) (Or.inl hn)]; rfl
theorem zero_gt {x : Nat} (hx : x < 18446744073709551616) : (FloatKind.f64.format.order x 0 == some .gt) = (!nanB x && decide (0 < place x)) := by
 cases hn : nanB x
 ·rw [gt_num hx (by omega) hn (nan_small (by omega))]; rfl
 ·rw [ord_nan hx (by omega) (Or.inl hn)]; rfl
theorem zero_eq {x : Nat} (hx : x < 18446744073709551616) : (FloatKind.f64.format.order x 0 == some .eq) = (rung x == 0) := by
 cases hn : nanB x
 ·rw [eq_num hx (by omega) hn (nan_small (by omega)), show place 0 = 0 from rfl]
  unfold place
  by_cases h : rung x = 0
  ·rw [h]; cases sgn x <;> rfl
  ·have h1 : (rung x == 0) = false := by simpa using h
   rw [h1, decide_eq_false]
   split <;> omega
 ·rw [ord_nan hx (by omega) (Or.inl hn)]
  have h : rung x ≠ 0 := by unfold nanB at hn; simp at hn; omega
  have h1 : (rung x == 0) = false := by simpa using h
  rw [h1]; rfl
theorem zero_ne {x : Nat} (hx : x < 18446744073709551616) : (FloatKind.f64.format.order x 0 != some .eq) = (rung x != 0) := by
 have h := zero_eq hx
 unfold bne
 rw [h]
theorem conv64 (b : Nat) (w : World) : (convert 36 36 (.float .f64 b)).run Tryz.prog w = .ok (.float .f64 b) w := by
 simp [convert, run_underlying Tryz.underlying36, Result.andThen]
 rfl
set_option maxHeartbeats 400000 in
theorem rofin_any (a : Nat) (ha : a < 18446744073709551616) (w : World) :
  Calls Tryz.prog 86 #[.float .f64 a] w fun e w' => e = .returned (.bool (finB a)) ∧ w' = w := by
 go_enter Tryz.func86, Tryz.ntmps86
 go_wp2_with (go_at_call 83; refine (abs_any _ (by assumption) _).mono ?_; rintro e w' ⟨rfl, rfl⟩)
 go_ret
 exact ⟨end_bool (fin_le a), rfl⟩
set_option maxHeartbeats 400000 in
theorem rsign_any (x : Nat) (hx : x < 18446744073709551616) (w : World) :
    Calls Tryz.prog 92 #[.float .f64 x] w fun e w' => e = .returned (.int .i64 (signF x)) ∧ w' = w := by
  have h1 := zero_lt hx
  have h2 := zero_gt hx
  have HE : Hid (signF x = if (!nanB x && decide (place x < 0)) then -1 else if (!nanB x && decide (0 < place x)) then 1 else 0) := by
    show _ = _
    unfold signF
    cases nanB x <;> simp
  cases g1 : (!nanB x && decide (place x < 0)) <;> cases g2 : (!nanB x && decide (0 < place x)) <;> rw [g1] at h1 <;> rw [g2] at h2 <;>
    (go_enter Tryz.func92, Tryz.ntmps92
     go_wp2
     go_ret
     exact ⟨end_int (by rw [HE.out, g1, g2]; rfl), rfl⟩)
theorem nextF_lt {x : Nat} (b : Bool) (hx : x < 18446744073709551616) : nextF x b < 18446744073709551616 := by
 unfold nextF
 split
 ·exact hx
 ·exact atF_lt _
set_option maxHeartbeats 1000000 in
theorem step_any (x : Nat) (r m : Int) (hx : x < 18446744073709551616) (w : World) :
    Calls Tryz.prog 74 #[.float .f64 x, .int .i64 r, .int .i8 m] w fun e w' => e = .returned (.float .f64 (stepF x r m)) ∧ w' = w := by
  have HE : Hid (stepF x r m = if (dnB m (sgn x) && decide (r < 0)) || (upB m (sgn x) && decide (0 < r)) then cpy (nextF x (decide (0 < r))) x else x) := rfl
  cases e1 : (m == 1) <;> cases e2 : (m == 2) <;> cases e3 : (m == 3) <;> cases hs : sgn x <;> by_cases h1 : r < 0 <;> by_cases h2 : 0 < r <;>
    first
    | (exfalso; simp at e1 e2 e3; omega)
    | (go_enter Tryz.func74, Tryz.ntmps74
       go_wp2_with (first
        | (go_at_call 87; refine (signbit_any _ (by assumption) _).mono ?_; rintro e w' ⟨rfl, rfl⟩)
        | (go_at_call 89; refine (next_any _ _ (by assumption) _).mono ?_; rintro e w' ⟨rfl, rfl⟩)
        | (go_at_call 88; refine (copysign_any _ _ (nextF_lt _ (by assumption)) (by assumption) _).mono ?_; rintro e w' ⟨rfl, rfl⟩))
       go_ret
       exact ⟨end_flt (by rw [HE.out]; unfold dnB upB; simp [e1, e2, e3, hs, h1, h2]; try (intro _; omega)), rfl⟩)
end Go.Proofs.YtfipmopmpacdaaaGreatDoor
