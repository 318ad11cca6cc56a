/- What the document's Div answers of finite floats other than 0: what round's tells. -/
import Derived.Test.YtlhoidkfphellaaDoorZt
import Derived.Test.YtlhoidkfphellaaDoorSk
import Derived.Test.YtlhoidkfphellaaDoorZm
import Derived.Test.YtlhoidkfphellaaDoorSf
namespace Go.Proofs.YtlhoidkfphellaaDoor
open Go.RowKit

/-- A finite float's number. -/
def flD (x : Nat) : Dy := ⟨sgn x, lo (mg (rung x)), -1074 + (up (rung x) : Int)⟩
def midB (x : Nat) : Bool := decide (553942754166571008 ≤ rung x ∧ rung x ≤ 8660422083433463808)
end Go.Proofs.YtlhoidkfphellaaDoor

namespace Go.Proofs.YtlhoidkfphellaaDoor
open Go.RowKit

def pwH : Nat := 63388
def pwL : Nat := 64462
theorem mg_lt53 (r : Nat) : mg r < 9007199254740992 := by unfold mg; split <;> omega
theorem sv_fl (x : Nat) : sv (flD x) * 2 ^ up (rung x) = vI x := by
  have e : ((2 : Int) ^ up (rung x)) = ((2 ^ up (rung x) : Nat) : Int) := by push_cast; rfl
  unfold sv flD vI
  simp only
  rw [vl_lo, ← mg_up, e]
  cases sgn x <;> simp [Int.neg_mul]
theorem qd_fl (x : Nat) : qd (flD x) = vI x * 2 ^ pwL := by
  have e : ((flD x).exp + 65536).toNat = up (rung x) + pwL := by unfold flD pwL; simp only; omega
  unfold qd
  rw [e, Int.pow_add, ← Int.mul_assoc, sv_fl]
/-- The product of two floats' numbers. -/
def tmD (x y : Nat) : Dy := ⟨sgn x != sgn y, lo (vl (lo (mg (rung x))) * vl (lo (mg (rung y)))), -1074 + (up (rung x) : Int) + (-1074 + (up (rung y) : Int))⟩
theorem qd_tm (x y : Nat) : qd (tmD x y) = vI x * vI y * 2 ^ pwH := by
  have e : ((tmD x y).exp + 65536).toNat = up (rung x) + up (rung y) + pwH := by unfold tmD pwH; simp only; omega
  unfold qd
  rw [e, Int.pow_add, ← Int.mul_assoc, ← sv_fl x, ← sv_fl y]
  congr 1
  unfold sv tmD flD
  simp only [vl_lo]
  rw [Int.pow_add]
  generalize (2 : Int) ^ up (rung x) = P
  generalize (2 : Int) ^ up (rung y) = Q
  generalize mg (rung x) = a
  generalize mg (rung y) = b
  have hc : ((a * b : Nat) : Int) = (a : Int) * b := by push_cast; rfl
  rw [hc]
  cases sgn x <;> cases sgn y <;> simp [Int.neg_mul, Int.mul_neg] <;> ac_rfl
theorem vI_neg {x : Nat} (hx : x < 18446744073709551616) : vI (negW x) = -vI x := by
  obtain ⟨r1, r2⟩ := neg_rung hx
  unfold vI
  rw [r1, r2]
  cases sgn x <;> simp
theorem cmp_prod {a b q : Nat} (hq : q < 18446744073709551616) : sgI (qd (tmD a b) - qd (flD q)) = sgI (exX a b (negW q)) := by
  have e : qd (tmD a b) - qd (flD q) = exX a b (negW q) * 2 ^ pwH := by
    rw [qd_tm, qd_fl, exX_un (L := twP) rfl, vI_neg hq, show pwL = twP + pwH from rfl, Int.pow_add, Int.add_mul, Int.neg_mul, Int.neg_mul, ← Int.mul_assoc]
    omega
  rw [e, sg_mul]
theorem fl_len (x : Nat) : (lo (mg (rung x))).length ≤ 1000 := by
  rw [lo_length]
  refine Nat.le_trans (nl_le (n := 1) ?_) (by omega)
  have := mg_lt53 (rung x)
  omega
theorem tm_len (x y : Nat) : (lo (vl (lo (mg (rung x))) * vl (lo (mg (rung y))))).length ≤ 1000 := by
  rw [lo_length, vl_lo, vl_lo]
  refine Nat.le_trans (nl_le (n := 2) ?_) (by omega)
  have h1 := mg_lt53 (rung x)
  have h2 := mg_lt53 (rung y)
  have := Nat.mul_le_mul (Nat.le_of_lt h1) (Nat.le_of_lt h2)
  omega
theorem up_le46 {x : Nat} (hf : finB x = true) : up (rung x) ≤ 2046 := by
  have := fin_rung hf
  unfold up; split <;> omega
theorem step_zero {x : Nat} (r m : Int) (hx : x < 18446744073709551616) (h0 : rung x = 0) (hr : r = if sgn x then -1 else 1) : stepF x r m = sideR x r m := by
  have h := rung_of x hx
  rw [h0] at h
  have c1 : cpy (nextF 0 true) 0 = 1 := by kernel_rfl
  have c2 : cpy (nextF 9223372036854775808 false) 9223372036854775808 = 9223372036854775809 := by kernel_rfl
  have c3 : upR 0 = 1 := by kernel_rfl
  have c4 : downR 9223372036854775808 = 9223372036854775809 := by kernel_rfl
  cases hs : sgn x <;> rw [hs] at h hr
  · have e : x = 0 := by simpa using h
    subst e
    rw [hr]
    unfold stepF sideR dnB upB
    simp [c1, c3, hs, h0]
  · have e : x = 9223372036854775808 := by simpa using h
    subst e
    rw [hr]
    unfold stepF sideR dnB upB
    simp [c2, c4, hs, h0]
end Go.Proofs.YtlhoidkfphellaaDoor

namespace Go.Proofs.YtlhoidkfphellaaDoor
open Go.RowKit

theorem mul_sgn {a b q : Nat} (ha : a < 18446744073709551616) (hb : b < 18446744073709551616) (sa : someB a = true) (sb : someB b = true) (hq : floatBits .mul .f64 a b = some q) (hql : q < 18446744073709551616) (h0 : rung q = 0) : sgI (exX a b (negW q)) = if sgn q then -1 else 1 := by
  obtain ⟨fa, a0⟩ := some_rung sa
  obtain ⟨fb, b0⟩ := some_rung sb
  have a0' : rung a ≠ 0 := by simpa using a0
  have b0' : rung b ≠ 0 := by simpa using b0
  have hs : sgn q = (sgn a ^^ sgn b) := by
    rw [(fbits_map a b).2.2.1, read_fin ha fa, read_fin hb fb] at hq
    simp only [Ieee.Datum.product, Option.map_some, Ieee.Format.write, Option.some.injEq] at hq
    obtain ⟨k, hk, e⟩ := nearest_bd (sgn a ^^ sgn b) (mg (rung a) * mg (rung b)) (-1074 + ((up (rung a) : Nat) : Int) + (-1074 + ((up (rung b) : Nat) : Int)))
    rw [← hq, e, (word_rung _ (show k < 9223372036854775808 by omega)).2]
  have vq : vI (negW q) = 0 := by
    rw [vI_neg hql]
    unfold vI
    rw [h0]
    cases sgn q <;> rfl
  have hv : ∀ r, r ≠ 0 → 0 < (val r : Int) := fun r h => by
    have := val_lt (show 0 < r by omega)
    rw [val_zero] at this
    omega
  rw [exX_un (L := twP) rfl, vq, Int.zero_mul, Int.add_zero, hs]
  unfold vI
  have va := hv _ a0'
  have vb := hv _ b0'
  have vab := Int.mul_pos va vb
  unfold sgI
  cases sgn a <;> cases sgn b <;> simp [Int.neg_mul, Int.mul_neg] <;> omega
end Go.Proofs.YtlhoidkfphellaaDoor

namespace Go.Proofs.YtlhoidkfphellaaDoor
open Go.RowKit

theorem cmp_quot {a b q : Nat} (hq : q < 18446744073709551616) : sgI (qd (flD a) - qd (tmD q b)) = sgI (exX (negW q) b a) := by
  have e : qd (flD a) - qd (tmD q b) = exX (negW q) b a * 2 ^ pwH := by
    rw [qd_tm, qd_fl, exX_un (L := twP) rfl, vI_neg hq, show pwL = twP + pwH from rfl, Int.pow_add, Int.add_mul, Int.neg_mul, Int.neg_mul, ← Int.mul_assoc]
    omega
  rw [e, sg_mul]
theorem div_sgn {a b q : Nat} (ha : a < 18446744073709551616) (hb : b < 18446744073709551616) (sa : someB a = true) (sb : someB b = true) (hq : floatBits .quo .f64 a b = some q) (hql : q < 18446744073709551616) (h0 : rung q = 0) : (if sgn b then -sgI (exX (negW q) b a) else sgI (exX (negW q) b a)) = if sgn q then -1 else 1 := by
  obtain ⟨fa, a0⟩ := some_rung sa
  obtain ⟨fb, b0⟩ := some_rung sb
  have a0' : rung a ≠ 0 := by simpa using a0
  have b0' : rung b ≠ 0 := by simpa using b0
  have m2 : mg (rung b) ≠ 0 := by unfold mg; split <;> omega
  have hs : sgn q = (sgn a ^^ sgn b) := by
    rw [(fbits_map a b).2.2.2, read_fin ha fa, read_fin hb fb] at hq
    simp only [Ieee.Datum.quotient] at hq
    rw [if_neg m2] at hq
    simp only [Option.map_some, Ieee.Format.write, Option.some.injEq] at hq
    obtain ⟨k, hk, e⟩ := nearest_bd (sgn a ^^ sgn b) (2 * (mg (rung a) <<< (54 + (mg (rung b)).log2 - (mg (rung a)).log2) / mg (rung b)) + (mg (rung a) <<< (54 + (mg (rung b)).log2 - (mg (rung a)).log2) % mg (rung b) != 0).toNat) (-1074 + ((up (rung a) : Nat) : Int) - (-1074 + ((up (rung b) : Nat) : Int)) - ((54 + (mg (rung b)).log2 - (mg (rung a)).log2 : Nat) : Int) - 1)
    rw [← hq, e, (word_rung _ (show k < 9223372036854775808 by omega)).2]
  have vq : vI (negW q) = 0 := by
    rw [vI_neg hql]
    unfold vI
    rw [h0]
    cases sgn q <;> rfl
  have va : 0 < (val (rung a) : Int) := by
    have := val_lt (show 0 < rung a by omega)
    rw [val_zero] at this
    omega
  have hx : exX (negW q) b a = vI a * 2 ^ twP := by rw [exX_un (L := twP) rfl, vq, Int.zero_mul, Int.zero_add]
  rw [hx, sg_mul, hs]
  unfold vI sgI
  cases sgn a <;> cases sgn b <;> simp <;> omega
theorem sign_some {b : Nat} (sb : someB b = true) : signF b = if sgn b then -1 else 1 := by
  obtain ⟨fb, b0⟩ := some_rung sb
  have b0' : rung b ≠ 0 := by simpa using b0
  have hr := fin_rung fb
  unfold signF place nanB
  rw [decide_eq_false (by omega)]
  cases sgn b <;> simp <;> omega
end Go.Proofs.YtlhoidkfphellaaDoor
