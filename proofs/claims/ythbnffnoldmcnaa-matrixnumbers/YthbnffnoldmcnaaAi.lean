/- Dot, of the program and of the document; a float times 1 or -1. -/
import Derived.Test.YthbnffnoldmcnaaAh
namespace Go.Proofs.Ythbnffnoldmcnaa
open Go.RowKit

/-- The products of each two, each added to those before it. -/
def dtO (xs ys : List Nat) : Nat → Option Nat
  | 0 => some 0
  | k + 1 => opO .add (dtO xs ys k) (opO .mul (toO (xs.getD k 0)) (toO (ys.getD k 0)))
def dotF (xs ys : List Nat) : Option Nat := if fitN xs.length ys.length = 0 then dtO xs ys xs.length else some 0
theorem NR_zero : NR (some 0) 0 := ⟨by omega, rfl⟩
/-- 1 or -1. -/
def oneW (s : Bool) : Nat := Ieee.double.word s 4607182418800017408
theorem one_parts (s : Bool) : oneW s < 18446744073709551616 ∧ finB (oneW s) = true ∧ sgn (oneW s) = s ∧ mg (rung (oneW s)) = 4503599627370496 ∧ up (rung (oneW s)) = 1022 := by
  cases s <;> decide
theorem mul_oneW (s : Bool) {x : Nat} (hx : x < 18446744073709551616) (hn : nanB x = false) : floatBits .mul .f64 (oneW s) x = some (Ieee.double.word (s ^^ sgn x) (rung x)) := by
  obtain ⟨o1, o2, o3, o4, o5⟩ := one_parts s
  have hr : rung x ≤ 9218868437227405312 := by unfold nanB at hn; simpa using hn
  rw [(fbits_map _ _).2.2.1, read_fin o1 o2, o3, o4, o5]
  by_cases hi : rung x = 9218868437227405312
  · rw [read_eq x hx, if_neg (by omega), if_pos hi, hi]
    simp only [Ieee.Datum.product]
    rw [Bool.xor_comm]; rfl
  · have fx : finB x = true := by unfold finB; simp; omega
    rw [read_fin hx fx]
    simp only [Ieee.Datum.product, Option.map_some, Ieee.Format.write, Option.some.injEq]
    by_cases h0 : rung x = 0
    · have m0 : mg (rung x) = 0 := by rw [h0]; decide
      rw [m0, h0, Nat.mul_zero]
      show Ieee.double.nearest _ 0 _ = _
      rfl
    · have hv := nearest_val (s ^^ sgn x) (4503599627370496 * mg (rung x)) (-1074 + (1022 : Nat) + (-1074 + (up (rung x) : Nat))) (mg (rung x)) (up (rung x)) (mg_lt _) (mg_ne h0) (mg_up_ok _) (Or.inr ⟨52, by omega, by rw [Nat.mul_comm]⟩)
      rw [hv]
      have e := rung_mg (rung x)
      rw [show min (up (rung x) * 4503599627370496 + mg (rung x)) 9218868437227405312 = rung x by omega]
theorem opO_one {x : Nat} (hx : x < 18446744073709551616) : opO .mul (toO 4607182418800017408) (toO x) = toO x := by
  have e1 : toO 4607182418800017408 = some (oneW false) := by decide
  rw [e1]
  cases hn : nanB x
  · have e2 : toO x = some x := by unfold toO; rw [hn]; rfl
    rw [e2]
    show floatBits .mul .f64 (oneW false) x = some x
    rw [mul_oneW false hx hn, Bool.false_xor, ← word_of hx]
  · have e2 : toO x = none := by unfold toO; rw [hn]; rfl
    rw [e2]; rfl
theorem ax_one {xs ys : List Nat} (hF : FW xs) {k : Nat} (hk : k < xs.length) : axO 4607182418800017408 xs ys k = adO xs ys k := by
  unfold axO adO
  rw [opO_one (hF.at hk)]
theorem tab_congr {n : Nat} {o p : Nat → Option Nat} (h : ∀ k, k < n → o k = p k) : tab n o = tab n p := by
  unfold tab
  apply List.map_congr_left
  intro a ha
  exact h a (List.mem_range.1 ha)
theorem ax_one_tab {xs ys : List Nat} (hF : FW xs) : tab xs.length (axO 4607182418800017408 xs ys) = tab xs.length (adO xs ys) := tab_congr fun _ hk => ax_one hF hk
end Go.Proofs.Ythbnffnoldmcnaa
