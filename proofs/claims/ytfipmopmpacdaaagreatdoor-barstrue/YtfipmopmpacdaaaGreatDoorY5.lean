/- Exact numbers, 0 too, rounded: the place never falls; the ways in their order: no program in this text. -/
import Derived.Test.YtfipmopmpacdaaaGreatDoorV2
import Derived.Test.YtfipmopmpacdaaaGreatDoorZ10
namespace Go.Proofs.YtfipmopmpacdaaaGreatDoor
open Go.RowKit
def addO (a b : Nat) (m : Int) : Option Nat := if finB a && finB b then some (addV a b m) else floatBits .add .f64 a b
def mulO (a b : Nat) (m : Int) : Option Nat := if someB a && someB b then some (stepF (pQ a b) (pS a b) m) else floatBits .mul .f64 a b
def divO (a b : Nat) (m : Int) : Option Nat := if someB a && someB b then some (stepF (kQ a b) (kS a b) m) else floatBits .quo .f64 a b
theorem nearest_opp (s : Bool) (m : Nat) (p : Int) : Ieee.double.nearest (!s) m p = negW (Ieee.double.nearest s m p) := by
 by_cases hm : m = 0
 ·have e : ∀ t, Ieee.double.nearest t m p = Ieee.double.word t 0 := fun t => by rw [hm]; rfl
  rw [e, e]
  exact word_opp s (by omega)
 ·obtain ⟨K, hK⟩ : ∃ K : Nat, 0 ≤ p + 1074 + (K : Int) := ⟨(-(p + 1074)).toNat, by omega⟩
  obtain ⟨k, e1, hk, c1⟩ := near_anyD s p K hm hK
  obtain ⟨j, e2, hj, c2⟩ := near_anyD (!s) p K hm hK
  have ek : j = k := by
   rcases Nat.lt_trichotomy j k with c | c | c
   ·exfalso
    have := (c2 j (by omega)).2 ((c1 j (by omega)).1 c)
    omega
   ·exact c
   ·exfalso
    have := (c1 k (by omega)).2 ((c2 k (by omega)).1 c)
    omega
  rw [e1, e2, ek]
  exact word_opp s hk
theorem write_opp {d : Ieee.Datum} (h : d.isNaN = false) : Ieee.double.write d.opposite = negW (Ieee.double.write d) := by
 cases d with
 | number s m p => exact nearest_opp s m p
 | infinity s => exact word_opp s (Nat.le_refl _)
 | nan s t => cases h
theorem map_opp {o : Option Ieee.Datum} (h : ∀ d, o = some d → d.isNaN = false) : (o.map Ieee.Datum.opposite).map Ieee.double.write = (o.map Ieee.double.write).map negW := by
 cases o with
 | none => rfl
 | some d => simp only [Option.map_some]; rw [write_opp (h d rfl)]
theorem prod_opp (x y : Ieee.Datum) : x.opposite.product y = (x.product y).map Ieee.Datum.opposite := by
 cases x with
 | nan s t => rfl
 | infinity s =>
  cases y with
  | nan u v => rfl
  | infinity u => cases s <;> cases u <;> rfl
  | number u n j =>
   show (if n = 0 then none else some (Ieee.Datum.infinity ((!s) ^^ u))) = (if n = 0 then none else some (Ieee.Datum.infinity (s ^^ u))).map Ieee.Datum.opposite
   by_cases h : n = 0
   ·rw [if_pos h, if_pos h]; rfl
   ·rw [if_neg h, if_neg h]; cases s <;> cases u <;> rfl
 | number s m i =>
  cases y with
  | nan u v => rfl
  | infinity u =>
   show (if m = 0 then none else some (Ieee.Datum.infinity (u ^^ (!s)))) = (if m = 0 then none else some (Ieee.Datum.infinity (u ^^ s))).map Ieee.Datum.opposite
   by_cases h : m = 0
   ·rw [if_pos h, if_pos h]; rfl
   ·rw [if_neg h, if_neg h]; cases s <;> cases u <;> rfl
  | number u n j => cases s <;> cases u <;> rfl
theorem prod_comm (x y : Ieee.Datum) : x.product y = y.product x := by
 cases x with
 | nan s t => cases y <;> rfl
 | infinity s =>
  cases y with
  | nan u v => rfl
  | infinity u => cases s <;> cases u <;> rfl
  | number u n j => rfl
 | number s m i =>
  cases y with
  | nan u v => rfl
  | infinity u => rfl
  | number u n j =>
   simp only [Ieee.Datum.product]
   rw [Nat.mul_comm, Int.add_comm i, Bool.xor_comm]
theorem quot_opp (n : Nat) (x y : Ieee.Datum) : x.quotient n y.opposite = (x.quotient n y).map Ieee.Datum.opposite := by
 cases x with
 | nan s t => cases y <;> rfl
 | infinity s =>
  cases y with
  | nan u v => rfl
  | infinity u => rfl
  | number u k j => cases s <;> cases u <;> rfl
 | number s m i =>
  cases y with
  | nan u v => rfl
  | infinity u => cases s <;> cases u <;> rfl
  | number u k j =>
   simp only [Ieee.Datum.quotient, Ieee.Datum.opposite]
   by_cases h : k = 0
   ·rw [if_pos h, if_pos h]
    by_cases g : m = 0
    ·rw [if_pos g, if_pos g]; rfl
    ·rw [if_neg g, if_neg g]; cases s <;> cases u <;> rfl
   ·rw [if_neg h, if_neg h]; cases s <;> cases u <;> rfl
theorem dsum_comm (x y : Ieee.Datum) : x.sum y = y.sum x := by
 cases x with
 | nan s t => cases y <;> rfl
 | infinity s =>
  cases y with
  | nan u v => rfl
  | infinity u => cases s <;> cases u <;> rfl
  | number u n j => rfl
 | number s m i =>
  cases y with
  | nan u v => rfl
  | infinity u => rfl
  | number u n j =>
   simp only [Ieee.Datum.sum]
   rw [Int.min_comm i j, Int.add_comm (Ieee.signed s m _), Bool.and_comm s u]
theorem bits_comm (a b : Nat) : floatBits .add .f64 a b = floatBits .add .f64 b a ∧ floatBits .mul .f64 a b = floatBits .mul .f64 b a := by
 rw [(fbits_map a b).1, (fbits_map b a).1, (fbits_map a b).2.2.1, (fbits_map b a).2.2.1, dsum_comm, prod_comm]
 exact ⟨rfl, rfl⟩
theorem mul_opp {a : Nat} (b : Nat) (ha : a < 18446744073709551616) : floatBits .mul .f64 (negW a) b = (floatBits .mul .f64 a b).map negW := by
 rw [(fbits_map (negW a) b).2.2.1, (fbits_map a b).2.2.1, neg_read ha, prod_opp]
 exact map_opp fun d h => prod_nan h
theorem quo_opp (a : Nat) {b : Nat} (hb : b < 18446744073709551616) : floatBits .quo .f64 a (negW b) = (floatBits .quo .f64 a b).map negW := by
 rw [(fbits_map a (negW b)).2.2.2, (fbits_map a b).2.2.2, neg_read hb, quot_opp]
 exact map_opp fun d h => quot_nan h
theorem add_nought {a b : Nat} (m : Int) (ha : a < 18446744073709551616) (hb : b < 18446744073709551616) (fa : finB a = true) (fb : finB b = true) (h0 : vI a + vI b = 0) : addV a b m = noughtF a b m ∧ (sgn a = sgn b → rung a = 0 ∧ rung b = 0) := by
 obtain ⟨p1, _, _, _, _, _, p7⟩ := sum_parts ha hb fa fb
 obtain ⟨n, n1, n2⟩ := add_fl ha hb fa fb rfl (by rw [h0]; exact Nat.zero_le _)
 rw [p1] at n1
 rw [← Option.some.inj n1, h0] at n2
 have e0 := nst_self rep_zero n2.2.2.1
 have hz : rung (sumN a b) = 0 := by
  rcases Nat.eq_zero_or_pos (rung (sumN a b)) with g | g
  ·exact g
  ·exact absurd e0 (vI_sign (by omega)).1
 refine ⟨?_, p7 hz⟩
 unfold addV addM
 rw [hz]
 rfl
theorem mulO_comm {a b : Nat} (m : Int) (ha : a < 18446744073709551616) (hb : b < 18446744073709551616) : mulO b a m = mulO a b m := by
 unfold mulO
 rw [Bool.and_comm, (bits_comm b a).2]
 cases h : (someB a && someB b)
 ·rfl
 ·have sa : someB a = true := by revert h; cases someB a <;> simp
  have sb : someB b = true := by revert h; cases someB b <;> simp
  simp only [if_true]
  rw [mul_fu m ha hb sa sb, mul_fu m hb ha sb sa, Int.mul_comm]
theorem some_neg {a : Nat} (ha : a < 18446744073709551616) : someB (negW a) = someB a := by
 unfold someB
 rw [neg_fin ha, (neg_rung ha).1]
theorem mulO_turn {a b : Nat} (m : Int) (ha : a < 18446744073709551616) (hb : b < 18446744073709551616) : mulO (negW a) b (tmd m) = (mulO a b m).map negW := by
 unfold mulO
 rw [some_neg ha, mul_opp b ha]
 cases h : (someB a && someB b)
 ·rfl
 ·have sa : someB a = true := by revert h; cases someB a <;> simp
  have sb : someB b = true := by revert h; cases someB b <;> simp
  have a0 : rung a ≠ 0 := by simpa using (some_rung sa).2
  have b0 : rung b ≠ 0 := by simpa using (some_rung sb).2
  simp only [if_true, Option.map_some]
  rw [mul_fu m ha hb sa sb, mul_fu (tmd m) (negW_lt ha) hb ((some_neg ha).trans sa) sb, vI_ng ha, Int.neg_mul, fuV_turn m (mul_sign (vI_sign a0).1 (vI_sign b0).1).1]
theorem divO_turn {a b : Nat} (m : Int) (ha : a < 18446744073709551616) (hb : b < 18446744073709551616) : divO a (negW b) (tmd m) = (divO a b m).map negW := by
 unfold divO
 rw [some_neg hb, quo_opp a hb]
 cases h : (someB a && someB b)
 ·rfl
 ·have sa : someB a = true := by revert h; cases someB a <;> simp
  have sb : someB b = true := by revert h; cases someB b <;> simp
  have b0 : rung b ≠ 0 := by simpa using (some_rung sb).2
  have m0 : mg (rung b) ≠ 0 := by unfold mg; split <;> omega
  obtain ⟨q, hq⟩ : ∃ q, floatBits .quo .f64 a b = some q := by
   rw [(fbits_map a b).2.2.2, read_fin ha (some_rung sa).1, read_fin hb (some_rung sb).1]
   simp only [Ieee.Datum.quotient]
   rw [if_neg m0]
   exact ⟨_, rfl⟩
  have eq : kQ a b = q := by unfold kQ; rw [hq]; rfl
  have eq2 : kQ a (negW b) = negW q := by unfold kQ; rw [quo_opp a hb, hq]; rfl
  obtain ⟨q1, q2⟩ := op_word (op := .quo) (Or.inr (Or.inr (Or.inr rfl))) hq
  have eS : kS a (negW b) = -kS a b := by
   unfold kS
   rw [eq, eq2, neg_fin q1, (neg_rung hb).2, (neg_rung q1).2]
   have eX : exX (negW (negW q)) (negW b) a = exX (negW q) b a := by
    unfold exX
    rw [vI_ng (negW_lt q1), vI_ng q1, vI_ng hb, Int.neg_neg, Int.neg_mul, Int.mul_neg]
   rw [eX]
   cases finB q <;> cases sgn b <;> cases sgn q <;> simp
  simp only [if_true, Option.map_some]
  rw [eS, eq2, eq, stepF_turn _ m q1 (rung_nan q2)]
def NoughtB (o : Option Nat) : Prop := o = some 0 ∨ o = some 9223372036854775808
theorem nought_is {a : Nat} (ha : a < 18446744073709551616) (h : rung a = 0) : NoughtB (some a) := by
 have e := rung_of a ha
 rw [h] at e
 cases hs : sgn a <;> rw [hs] at e
 ·left; rw [e]; rfl
 ·right; rw [e]; rfl
theorem noughtF_is {a b : Nat} (m : Int) (ha : a < 18446744073709551616) (h : sgn a = sgn b → rung a = 0 ∧ rung b = 0) : NoughtB (some (noughtF a b m)) := by
 unfold noughtF
 by_cases hs : sgn a = sgn b
 ·rw [if_pos (by simpa using hs)]; exact nought_is ha (h hs).1
 ·rw [if_neg (by simpa using hs)]
  by_cases hm : (m == 1) = true
  ·rw [if_pos hm]; exact Or.inr rfl
  ·rw [if_neg hm]; exact Or.inl rfl
theorem fuV_side {X : Int} (m : Int) (h0 : X ≠ 0) : (0 < X → 0 ≤ place (fuV X m)) ∧ (X < 0 → place (fuV X m) ≤ 0) := by
 have nX := fuK_near h0
 have aX := fu_units h0
 refine ⟨fun h => ?_, fun h => ?_⟩
 ·rw [fuV_pos m h, (place_rung (rg_le m aX nX)).1]; omega
 ·rw [fuV_neg m h, (place_rung (rg_le (tmd m) aX nX)).2]; omega
def plX (X m : Int) : Int := if X = 0 then 0 else place (fuV X m)
theorem plX_mono {X Y : Int} (m : Int) (h : X ≤ Y) : plX X m ≤ plX Y m := by
 unfold plX
 by_cases hX : X = 0
 ·rw [if_pos hX]
  by_cases hY : Y = 0
  ·rw [if_pos hY]; exact Int.le_refl _
  ·rw [if_neg hY]; exact (fuV_side m hY).1 (by omega)
 ·rw [if_neg hX]
  by_cases hY : Y = 0
  ·rw [if_pos hY]; exact (fuV_side m hX).2 (by omega)
  ·rw [if_neg hY]; exact fuV_mono m h hX hY
end Go.Proofs.YtfipmopmpacdaaaGreatDoor
