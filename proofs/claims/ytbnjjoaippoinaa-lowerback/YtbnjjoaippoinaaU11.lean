/- What the document's Sqrt answers of any float: what round's tells. -/
import Derived.Test.YtbnjjoaippoinaaU4
import Derived.Test.YtbnjjoaippoinaaU1
import Derived.Test.YtbnjjoaippoinaaU10
import Derived.Test.YtbnjjoaippoinaaA1
import Derived.Test.YtbnjjoaippoinaaU7
import Derived.Test.YtbnjjoaippoinaaU9
namespace Go.Proofs.Ytbnjjoaippoinaa
open Go.RowKit

theorem lm_one {x : Nat} (h : x < 18446744073709551616) : Lm [x] := fun y hy => by simp at hy; omega
theorem awi : intD 9007199254740993 = ⟨false, [9007199254740993], 0⟩ := by kernel_rfl
theorem awr : rndW ⟨false, [9007199254740993], 0⟩ 2 = 4845873199050653697 := by kernel_rfl
def divQ (a b : Nat) : Nat := (floatBits .quo .f64 a b).getD 0
def divF (a b : Nat) : Nat := (FloatKind.f64.format.fma (negW (divQ a b)) b a).getD 0
end Go.Proofs.Ytbnjjoaippoinaa

namespace Go.Proofs.Ytbnjjoaippoinaa
open Go.RowKit

theorem NR_same {o : Option Nat} {r s : Nat} (h : NR o r) (g : NR o s) : sameB r s = true := by
  unfold NR at h g
  cases o with
  | none => unfold sameB; rw [h.2, g.2]; rfl
  | some v => rw [h.2, g.2]; unfold sameB; cases hn : nanB v <;> simp
theorem NR_some {r s : Nat} (h : r < 18446744073709551616) (e : s = r) : NR (some r) s := ⟨by omega, e⟩
end Go.Proofs.Ytbnjjoaippoinaa

namespace Go.Proofs.Ytbnjjoaippoinaa
open Go.RowKit

def addO (a b : Nat) (m : Int) : Option Nat := if finB a && finB b then some (addV a b m) else floatBits .add .f64 a b
def mulO (a b : Nat) (m : Int) : Option Nat := if someB a && someB b then some (stepF (pQ a b) (pS a b) m) else floatBits .mul .f64 a b
def divO (a b : Nat) (m : Int) : Option Nat := if someB a && someB b then some (stepF (kQ a b) (kS a b) m) else floatBits .quo .f64 a b
theorem nearest_opp (s : Bool) (m : Nat) (p : Int) : Ieee.double.nearest (!s) m p = negW (Ieee.double.nearest s m p) := by
  by_cases hm : m = 0
  · have e : ∀ t, Ieee.double.nearest t m p = Ieee.double.word t 0 := fun t => by rw [hm]; rfl
    rw [e, e]
    exact word_opp s (by omega)
  · obtain ⟨K, hK⟩ : ∃ K : Nat, 0 ≤ p + 1074 + (K : Int) := ⟨(-(p + 1074)).toNat, by omega⟩
    obtain ⟨k, e1, hk, c1⟩ := near_anyD s p K hm hK
    obtain ⟨j, e2, hj, c2⟩ := near_anyD (!s) p K hm hK
    have ek : j = k := by
      rcases Nat.lt_trichotomy j k with c | c | c
      · exfalso
        have := (c2 j (by omega)).2 ((c1 j (by omega)).1 c)
        omega
      · exact c
      · exfalso
        have := (c1 k (by omega)).2 ((c2 k (by omega)).1 c)
        omega
    rw [e1, e2, ek]
    exact word_opp s hk
theorem write_opp {d : Ieee.Datum} (h : d.isNaN = false) : Ieee.double.write d.opposite = negW (Ieee.double.write d) := by
  cases d with
  | number s m p => exact nearest_opp s m p
  | infinity s => exact word_opp s (Nat.le_refl _)
  | nan s t => cases h
theorem map_opp {o : Option Ieee.Datum} (h : ∀ d, o = some d → d.isNaN = false) : (o.map Ieee.Datum.opposite).map Ieee.double.write = (o.map Ieee.double.write).map negW := by
  cases o with
  | none => rfl
  | some d => simp only [Option.map_some]; rw [write_opp (h d rfl)]
theorem prod_opp (x y : Ieee.Datum) : x.opposite.product y = (x.product y).map Ieee.Datum.opposite := by
  cases x with
  | nan s t => rfl
  | infinity s =>
    cases y with
    | nan u v => rfl
    | infinity u => cases s <;> cases u <;> rfl
    | number u n j =>
      show (if n = 0 then none else some (Ieee.Datum.infinity ((!s) ^^ u))) = (if n = 0 then none else some (Ieee.Datum.infinity (s ^^ u))).map Ieee.Datum.opposite
      by_cases h : n = 0
      · rw [if_pos h, if_pos h]; rfl
      · rw [if_neg h, if_neg h]; cases s <;> cases u <;> rfl
  | number s m i =>
    cases y with
    | nan u v => rfl
    | infinity u =>
      show (if m = 0 then none else some (Ieee.Datum.infinity (u ^^ (!s)))) = (if m = 0 then none else some (Ieee.Datum.infinity (u ^^ s))).map Ieee.Datum.opposite
      by_cases h : m = 0
      · rw [if_pos h, if_pos h]; rfl
      · rw [if_neg h, if_neg h]; cases s <;> cases u <;> rfl
    | number u n j => cases s <;> cases u <;> rfl
theorem prod_comm (x y : Ieee.Datum) : x.product y = y.product x := by
  cases x with
  | nan s t => cases y <;> rfl
  | infinity s =>
    cases y with
    | nan u v => rfl
    | infinity u => cases s <;> cases u <;> rfl
    | number u n j => rfl
  | number s m i =>
    cases y with
    | nan u v => rfl
    | infinity u => rfl
    | number u n j =>
      simp only [Ieee.Datum.product]
      rw [Nat.mul_comm, Int.add_comm i, Bool.xor_comm]
theorem quot_opp (n : Nat) (x y : Ieee.Datum) : x.quotient n y.opposite = (x.quotient n y).map Ieee.Datum.opposite := by
  cases x with
  | nan s t => cases y <;> rfl
  | infinity s =>
    cases y with
    | nan u v => rfl
    | infinity u => rfl
    | number u k j => cases s <;> cases u <;> rfl
  | number s m i =>
    cases y with
    | nan u v => rfl
    | infinity u => cases s <;> cases u <;> rfl
    | number u k j =>
      simp only [Ieee.Datum.quotient, Ieee.Datum.opposite]
      by_cases h : k = 0
      · rw [if_pos h, if_pos h]
        by_cases g : m = 0
        · rw [if_pos g, if_pos g]; rfl
        · rw [if_neg g, if_neg g]; cases s <;> cases u <;> rfl
      · rw [if_neg h, if_neg h]; cases s <;> cases u <;> rfl
theorem dsum_comm (x y : Ieee.Datum) : x.sum y = y.sum x := by
  cases x with
  | nan s t => cases y <;> rfl
  | infinity s =>
    cases y with
    | nan u v => rfl
    | infinity u => cases s <;> cases u <;> rfl
    | number u n j => rfl
  | number s m i =>
    cases y with
    | nan u v => rfl
    | infinity u => rfl
    | number u n j =>
      simp only [Ieee.Datum.sum]
      rw [Int.min_comm i j, Int.add_comm (Ieee.signed s m _), Bool.and_comm s u]
theorem bits_comm (a b : Nat) : floatBits .add .f64 a b = floatBits .add .f64 b a ∧ floatBits .mul .f64 a b = floatBits .mul .f64 b a := by
  rw [(fbits_map a b).1, (fbits_map b a).1, (fbits_map a b).2.2.1, (fbits_map b a).2.2.1, dsum_comm, prod_comm]
  exact ⟨rfl, rfl⟩
theorem mul_opp {a : Nat} (b : Nat) (ha : a < 18446744073709551616) : floatBits .mul .f64 (negW a) b = (floatBits .mul .f64 a b).map negW := by
  rw [(fbits_map (negW a) b).2.2.1, (fbits_map a b).2.2.1, neg_read ha, prod_opp]
  exact map_opp fun d h => prod_nan h
theorem quo_opp (a : Nat) {b : Nat} (hb : b < 18446744073709551616) : floatBits .quo .f64 a (negW b) = (floatBits .quo .f64 a b).map negW := by
  rw [(fbits_map a (negW b)).2.2.2, (fbits_map a b).2.2.2, neg_read hb, quot_opp]
  exact map_opp fun d h => quot_nan h
theorem not_fin {a : Nat} (ha : a < 18446744073709551616) (h : finB a = false) : (∃ s, Ieee.double.read a = .infinity s) ∨ (∃ s t, Ieee.double.read a = .nan s t) := by
  have hr : ¬ rung a < 9218868437227405312 := by unfold finB at h; simpa using h
  rw [read_eq a ha, if_neg hr]
  split
  · exact Or.inl ⟨_, rfl⟩
  · exact Or.inr ⟨_, _, rfl⟩
theorem dsum_opp {x y : Ieee.Datum} (h : (∃ s, x = .infinity s) ∨ (∃ s t, x = .nan s t)) : x.opposite.sum y.opposite = (x.sum y).map Ieee.Datum.opposite := by
  rcases h with ⟨s, rfl⟩ | ⟨s, t, rfl⟩
  · cases y with
    | nan u v => rfl
    | infinity u => cases s <;> cases u <;> rfl
    | number u n j => rfl
  · rfl
theorem add_opp {a b : Nat} (ha : a < 18446744073709551616) (hb : b < 18446744073709551616) (h : (finB a && finB b) = false) : floatBits .add .f64 (negW a) (negW b) = (floatBits .add .f64 a b).map negW := by
  rw [(fbits_map (negW a) (negW b)).1, (fbits_map a b).1, neg_read ha, neg_read hb]
  have e : (Ieee.double.read a).opposite.sum (Ieee.double.read b).opposite = ((Ieee.double.read a).sum (Ieee.double.read b)).map Ieee.Datum.opposite := by
    cases fa : finB a
    · exact dsum_opp (not_fin ha fa)
    · cases fb : finB b
      · rw [dsum_comm, dsum_comm (Ieee.double.read a)]; exact dsum_opp (not_fin hb fb)
      · rw [fa, fb] at h; cases h
  rw [e]
  exact map_opp fun d h => sum_nan h
theorem add_nought {a b : Nat} (m : Int) (ha : a < 18446744073709551616) (hb : b < 18446744073709551616) (fa : finB a = true) (fb : finB b = true) (h0 : vI a + vI b = 0) : addV a b m = noughtF a b m ∧ (sgn a = sgn b → rung a = 0 ∧ rung b = 0) := by
  obtain ⟨p1, _, _, _, _, _, p7⟩ := sum_parts ha hb fa fb
  obtain ⟨n, n1, n2⟩ := add_fl ha hb fa fb rfl (by rw [h0]; exact Nat.zero_le _)
  rw [p1] at n1
  rw [← Option.some.inj n1, h0] at n2
  have e0 := nst_self rep_zero n2.2.2.1
  have hz : rung (sumN a b) = 0 := by
    rcases Nat.eq_zero_or_pos (rung (sumN a b)) with g | g
    · exact g
    · exact absurd e0 (vI_sign (by omega)).1
  refine ⟨?_, p7 hz⟩
  unfold addV addM
  rw [hz]
  rfl
theorem addO_comm {a b : Nat} (m : Int) (ha : a < 18446744073709551616) (hb : b < 18446744073709551616) : addO b a m = addO a b m := by
  unfold addO
  rw [Bool.and_comm, (bits_comm b a).1]
  cases h : (finB a && finB b)
  · rfl
  · have fa : finB a = true := by revert h; cases finB a <;> simp
    have fb : finB b = true := by revert h; cases finB b <;> simp
    simp only [if_true]
    congr 1
    by_cases h0 : vI a + vI b = 0
    · obtain ⟨e1, e2⟩ := add_nought m ha hb fa fb h0
      obtain ⟨e3, _⟩ := add_nought m hb ha fb fa (by rw [Int.add_comm]; exact h0)
      rw [e1, e3]
      unfold noughtF
      by_cases hs : sgn a = sgn b
      · obtain ⟨z1, z2⟩ := e2 hs
        have w1 := rung_of a ha
        have w2 := rung_of b hb
        have : a = b := by rw [w1, w2, z1, z2, hs]
        rw [this]
      · have e4 : (sgn a == sgn b) = false := by simpa using hs
        have e5 : (sgn b == sgn a) = false := by simpa using fun h => hs h.symm
        rw [e4, e5]
        simp only [Bool.false_eq_true, if_false]
    · rw [add_fu m ha hb fa fb h0, add_fu m hb ha fb fa (by rw [Int.add_comm]; exact h0), Int.add_comm]
theorem mulO_comm {a b : Nat} (m : Int) (ha : a < 18446744073709551616) (hb : b < 18446744073709551616) : mulO b a m = mulO a b m := by
  unfold mulO
  rw [Bool.and_comm, (bits_comm b a).2]
  cases h : (someB a && someB b)
  · rfl
  · have sa : someB a = true := by revert h; cases someB a <;> simp
    have sb : someB b = true := by revert h; cases someB b <;> simp
    simp only [if_true]
    rw [mul_fu m ha hb sa sb, mul_fu m hb ha sb sa, Int.mul_comm]
theorem fuO_comm {a b : Nat} (c : Nat) (m : Int) : fuO b a c m = fuO a b c m := by
  have eX : exX b a c = exX a b c := by unfold exX; rw [Int.mul_comm]
  have e1 : (rung b == 0 || rung a == 0) = (rung a == 0 || rung b == 0) := Bool.or_comm _ _
  have e2 : (sgn b != sgn a) = (sgn a != sgn b) := by cases sgn a <;> cases sgn b <;> rfl
  unfold fuO fuI fuW
  rw [Bool.and_comm, (bits_comm b a).2, eX, e1, e2]
theorem some_neg {a : Nat} (ha : a < 18446744073709551616) : someB (negW a) = someB a := by
  unfold someB
  rw [neg_fin ha, (neg_rung ha).1]
theorem mulO_turn {a b : Nat} (m : Int) (ha : a < 18446744073709551616) (hb : b < 18446744073709551616) : mulO (negW a) b (tmd m) = (mulO a b m).map negW := by
  unfold mulO
  rw [some_neg ha, mul_opp b ha]
  cases h : (someB a && someB b)
  · rfl
  · have sa : someB a = true := by revert h; cases someB a <;> simp
    have sb : someB b = true := by revert h; cases someB b <;> simp
    have a0 : rung a ≠ 0 := by simpa using (some_rung sa).2
    have b0 : rung b ≠ 0 := by simpa using (some_rung sb).2
    simp only [if_true, Option.map_some]
    rw [mul_fu m ha hb sa sb, mul_fu (tmd m) (negW_lt ha) hb ((some_neg ha).trans sa) sb, vI_ng ha, Int.neg_mul, fuV_turn m (mul_sign (vI_sign a0).1 (vI_sign b0).1).1]
theorem divO_turn {a b : Nat} (m : Int) (ha : a < 18446744073709551616) (hb : b < 18446744073709551616) : divO a (negW b) (tmd m) = (divO a b m).map negW := by
  unfold divO
  rw [some_neg hb, quo_opp a hb]
  cases h : (someB a && someB b)
  · rfl
  · have sa : someB a = true := by revert h; cases someB a <;> simp
    have sb : someB b = true := by revert h; cases someB b <;> simp
    have b0 : rung b ≠ 0 := by simpa using (some_rung sb).2
    have m0 : mg (rung b) ≠ 0 := by unfold mg; split <;> omega
    obtain ⟨q, hq⟩ : ∃ q, floatBits .quo .f64 a b = some q := by
      rw [(fbits_map a b).2.2.2, read_fin ha (some_rung sa).1, read_fin hb (some_rung sb).1]
      simp only [Ieee.Datum.quotient]
      rw [if_neg m0]
      exact ⟨_, rfl⟩
    have eq : kQ a b = q := by unfold kQ; rw [hq]; rfl
    have eq2 : kQ a (negW b) = negW q := by unfold kQ; rw [quo_opp a hb, hq]; rfl
    obtain ⟨q1, q2⟩ := op_word (op := .quo) (Or.inr (Or.inr (Or.inr rfl))) hq
    have eS : kS a (negW b) = -kS a b := by
      unfold kS
      rw [eq, eq2, neg_fin q1, (neg_rung hb).2, (neg_rung q1).2]
      have eX : exX (negW (negW q)) (negW b) a = exX (negW q) b a := by
        unfold exX
        rw [vI_ng (negW_lt q1), vI_ng q1, vI_ng hb, Int.neg_neg, Int.neg_mul, Int.mul_neg]
      rw [eX]
      cases finB q <;> cases sgn b <;> cases sgn q <;> simp
    simp only [if_true, Option.map_some]
    rw [eS, eq2, eq, stepF_turn _ m q1 (rung_nan q2)]
/-- Noughts of both signs. -/
def NoughtB (o : Option Nat) : Prop := o = some 0 ∨ o = some 9223372036854775808
theorem nought_is {a : Nat} (ha : a < 18446744073709551616) (h : rung a = 0) : NoughtB (some a) := by
  have e := rung_of a ha
  rw [h] at e
  cases hs : sgn a <;> rw [hs] at e
  · left; rw [e]; rfl
  · right; rw [e]; rfl
theorem noughtF_is {a b : Nat} (m : Int) (ha : a < 18446744073709551616) (h : sgn a = sgn b → rung a = 0 ∧ rung b = 0) : NoughtB (some (noughtF a b m)) := by
  unfold noughtF
  by_cases hs : sgn a = sgn b
  · rw [if_pos (by simpa using hs)]; exact nought_is ha (h hs).1
  · rw [if_neg (by simpa using hs)]
    by_cases hm : (m == 1) = true
    · rw [if_pos hm]; exact Or.inr rfl
    · rw [if_neg hm]; exact Or.inl rfl
theorem tmd_one (m : Int) : (tmd m == 1) = (m == 2) ∧ ((m = 1 ∨ m = 2) → (m == 1) = !(m == 2)) := by
  unfold tmd
  refine ⟨?_, fun h => by rcases h with rfl | rfl <;> rfl⟩
  by_cases h1 : m = 1
  · subst h1; rfl
  · by_cases h2 : m = 2
    · subst h2; rfl
    · rw [if_neg h1, if_neg h2]
      have e1 : (m == 1) = false := by simpa using h1
      have e2 : (m == 2) = false := by simpa using h2
      rw [e1, e2]
theorem addO_turn {a b : Nat} (m : Int) (ha : a < 18446744073709551616) (hb : b < 18446744073709551616) : (addO (negW a) (negW b) (tmd m) = (addO a b m).map negW ∨ (NoughtB (addO a b m) ∧ NoughtB (addO (negW a) (negW b) (tmd m)))) ∧ ((m = 1 ∨ m = 2) → addO (negW a) (negW b) (tmd m) = (addO a b m).map negW) := by
  unfold addO
  rw [neg_fin ha, neg_fin hb]
  cases h : (finB a && finB b)
  · simp only [Bool.false_eq_true, if_false]
    exact ⟨Or.inl (add_opp ha hb h), fun _ => add_opp ha hb h⟩
  · have fa : finB a = true := by revert h; cases finB a <;> simp
    have fb : finB b = true := by revert h; cases finB b <;> simp
    have fa' := (neg_fin ha).trans fa
    have fb' := (neg_fin hb).trans fb
    simp only [if_true, Option.map_some]
    by_cases h0 : vI a + vI b = 0
    · obtain ⟨e1, e2⟩ := add_nought m ha hb fa fb h0
      obtain ⟨e3, e4⟩ := add_nought (tmd m) (negW_lt ha) (negW_lt hb) fa' fb' (by rw [vI_ng ha, vI_ng hb]; omega)
      rw [e1, e3]
      refine ⟨Or.inr ⟨noughtF_is m ha e2, noughtF_is (tmd m) (negW_lt ha) e4⟩, fun hm => ?_⟩
      congr 1
      unfold noughtF
      rw [(neg_rung ha).2, (neg_rung hb).2, (tmd_one m).1, (tmd_one m).2 hm]
      cases sgn a <;> cases sgn b <;> cases (m == 2) <;> simp <;> first | rfl | kernel_rfl
    · have h1 : vI (negW a) + vI (negW b) ≠ 0 := by rw [vI_ng ha, vI_ng hb]; omega
      have hX0 : (vI a + vI b) * 2 ^ twP ≠ 0 := fun h => h0 (neg_pw.2.1 h)
      have e : addV (negW a) (negW b) (tmd m) = negW (addV a b m) := by
        rw [add_fu m ha hb fa fb h0, add_fu (tmd m) (negW_lt ha) (negW_lt hb) fa' fb' h1, ← fuV_turn m hX0, vI_ng ha, vI_ng hb, ← Int.neg_add, Int.neg_mul]
      rw [e]
      exact ⟨Or.inl rfl, fun _ => rfl⟩
theorem fuO_turn {a b c : Nat} (m : Int) (ha : a < 18446744073709551616) (hb : b < 18446744073709551616) (hc : c < 18446744073709551616) : (fuO (negW a) b (negW c) (tmd m) = (fuO a b c m).map negW ∨ (NoughtB (fuO a b c m) ∧ NoughtB (fuO (negW a) b (negW c) (tmd m)))) ∧ ((m = 1 ∨ m = 2) → fuO (negW a) b (negW c) (tmd m) = (fuO a b c m).map negW) := by
  unfold fuO
  rw [neg_fin ha, neg_fin hc]
  cases h : (finB a && finB b)
  · simp only [Bool.false_eq_true, if_false]
    suffices e : fuI (negW a) b (negW c) = (fuI a b c).map negW from ⟨Or.inl e, fun _ => e⟩
    unfold fuI
    rw [mul_opp b ha]
    cases hm : floatBits .mul .f64 a b with
    | none => rfl
    | some p =>
      obtain ⟨q1, q2⟩ := op_word (op := .mul) (Or.inr (Or.inr (Or.inl rfl))) hm
      have fp : finB p = false := by
        rw [(fbits_map a b).2.2.1] at hm
        cases hx : (Ieee.double.read a).product (Ieee.double.read b) with
        | none => rw [hx] at hm; cases hm
        | some d =>
          rw [hx] at hm
          have hi : ∃ s, d = .infinity s := by
            cases fa : finB a
            · rcases not_fin ha fa with ⟨s, e⟩ | ⟨s, t, e⟩
              · rw [e] at hx
                cases hy : Ieee.double.read b with
                | nan u v => rw [hy] at hx; cases hx
                | infinity u => rw [hy] at hx; exact ⟨_, (Option.some.inj hx).symm⟩
                | number u n j =>
                  rw [hy] at hx
                  simp only [Ieee.Datum.product] at hx
                  split at hx
                  · cases hx
                  · exact ⟨_, (Option.some.inj hx).symm⟩
              · rw [e] at hx; cases hx
            · cases fb : finB b
              · rw [prod_comm] at hx
                rcases not_fin hb fb with ⟨s, e⟩ | ⟨s, t, e⟩
                · rw [e] at hx
                  cases hy : Ieee.double.read a with
                  | nan u v => rw [hy] at hx; cases hx
                  | infinity u => rw [hy] at hx; exact ⟨_, (Option.some.inj hx).symm⟩
                  | number u n j =>
                    rw [hy] at hx
                    simp only [Ieee.Datum.product] at hx
                    split at hx
                    · cases hx
                    · exact ⟨_, (Option.some.inj hx).symm⟩
                · rw [e] at hx; cases hx
              · rw [fa, fb] at h; cases h
          obtain ⟨s, rfl⟩ := hi
          have ew : p = Ieee.double.word s 9218868437227405312 := (Option.some.inj hm).symm
          unfold finB
          rw [ew, (word_rung s (by omega)).1]
          rfl
      show floatBits .add .f64 (negW p) (negW c) = (floatBits .add .f64 p c).map negW
      exact add_opp q1 hc (by rw [fp]; rfl)
  · simp only [if_true]
    cases fc : finB c
    · simp only [Bool.false_eq_true, if_false]
      have hn : nanB (negW c) = nanB c := (neg_place hc).2.1
      rw [hn]
      cases nanB c <;> exact ⟨Or.inl rfl, fun _ => rfl⟩
    · simp only [if_true, Option.map_some]
      have eX : exX (negW a) b (negW c) = -exX a b c := by
        rw [exX_un (L := twP) rfl, exX_un (L := twP) rfl, vI_ng ha, vI_ng hc, Int.neg_mul, Int.neg_mul, Int.neg_add]
      unfold fuW
      rw [eX]
      by_cases h0 : exX a b c = 0
      · rw [if_pos h0, if_pos (by omega), (neg_rung ha).1, (neg_rung ha).2]
        generalize (rung a == 0 || rung b == 0) = z
        have hs : ((!sgn a) != sgn b) = !(sgn a != sgn b) := by cases sgn a <;> cases sgn b <;> rfl
        rw [hs]
        generalize (sgn a != sgn b) = g
        unfold noughtR
        rw [(neg_rung hc).1, (neg_rung hc).2, (tmd_one m).1]
        by_cases hz : (z && (rung c == 0 && g == sgn c)) = true
        · have hz2 : (z && (rung c == 0 && (!g) == !sgn c)) = true := by
            have e : ((!g) == !sgn c) = (g == sgn c) := by cases g <;> cases sgn c <;> rfl
            rw [e]; exact hz
          rw [if_pos hz, if_pos hz2]
          exact ⟨Or.inl rfl, fun _ => rfl⟩
        · have hz2 : ¬ (z && (rung c == 0 && (!g) == !sgn c)) = true := by
            have e : ((!g) == !sgn c) = (g == sgn c) := by cases g <;> cases sgn c <;> rfl
            rw [e]; exact hz
          rw [if_neg hz, if_neg hz2]
          refine ⟨Or.inr ⟨?_, ?_⟩, fun hm => ?_⟩
          · cases (m == 1)
            · exact Or.inl rfl
            · exact Or.inr rfl
          · cases (m == 2)
            · exact Or.inl rfl
            · exact Or.inr rfl
          · rw [(tmd_one m).2 hm]
            cases (m == 2) <;> simp <;> first | rfl | kernel_rfl
      · rw [if_neg h0, if_neg (by omega), fuV_turn m h0]
        exact ⟨Or.inl rfl, fun _ => rfl⟩
end Go.Proofs.Ytbnjjoaippoinaa

namespace Go.Proofs.Ytbnjjoaippoinaa
open Go.RowKit

theorem fuV_side {X : Int} (m : Int) (h0 : X ≠ 0) : (0 < X → 0 ≤ place (fuV X m)) ∧ (X < 0 → place (fuV X m) ≤ 0) := by
  have nX := fuK_near h0
  have aX := fu_units h0
  refine ⟨fun h => ?_, fun h => ?_⟩
  · rw [fuV_pos m h, (place_rung (rg_le m aX nX)).1]; omega
  · rw [fuV_neg m h, (place_rung (rg_le (tmd m) aX nX)).2]; omega
/-- The place of an exact number rounded. -/
def plX (X m : Int) : Int := if X = 0 then 0 else place (fuV X m)
theorem plX_mono {X Y : Int} (m : Int) (h : X ≤ Y) : plX X m ≤ plX Y m := by
  unfold plX
  by_cases hX : X = 0
  · rw [if_pos hX]
    by_cases hY : Y = 0
    · rw [if_pos hY]; exact Int.le_refl _
    · rw [if_neg hY]; exact (fuV_side m hY).1 (by omega)
  · rw [if_neg hX]
    by_cases hY : Y = 0
    · rw [if_pos hY]; exact (fuV_side m hX).2 (by omega)
    · rw [if_neg hY]; exact fuV_mono m h hX hY
theorem rg_order {A k : Nat} : rgK A k 1 ≤ k ∧ k ≤ rgK A k 2 ∧ rgK A k 0 = k := by
  refine ⟨?_, ?_, rg_other (by decide) (by decide) (by decide)⟩
  · unfold rgK
    split
    · omega
    · rw [if_neg (fun c => absurd c.1 (by decide))]; exact Nat.le_refl _
  · unfold rgK
    rw [if_neg (fun c => absurd c.1 (by decide))]
    split
    · omega
    · exact Nat.le_refl _
theorem plX_order (X : Int) : plX X 1 ≤ plX X 0 ∧ plX X 0 ≤ plX X 2 := by
  unfold plX
  by_cases hX : X = 0
  · simp [hX]
  · simp only [if_neg hX]
    have nX := fuK_near hX
    have aX := fu_units hX
    obtain ⟨o1, o2, o3⟩ := rg_order (A := X.natAbs * 2 ^ puH) (k := fuK X)
    rcases Int.lt_or_le X 0 with c | c
    · rw [fuV_neg 1 c, fuV_neg 0 c, fuV_neg 2 c, show tmd 1 = 2 from rfl, show tmd 0 = 0 from rfl, show tmd 2 = 1 from rfl, (place_rung (rg_le 2 aX nX)).2, (place_rung (rg_le 0 aX nX)).2, (place_rung (rg_le 1 aX nX)).2]
      omega
    · rw [fuV_pos 1 (by omega), fuV_pos 0 (by omega), fuV_pos 2 (by omega), (place_rung (rg_le 2 aX nX)).1, (place_rung (rg_le 0 aX nX)).1, (place_rung (rg_le 1 aX nX)).1]
      omega
/-- Sums of finite floats: by places. -/
theorem add_place {a b : Nat} (m : Int) (ha : a < 18446744073709551616) (hb : b < 18446744073709551616) (fa : finB a = true) (fb : finB b = true) : place (addV a b m) = plX ((vI a + vI b) * 2 ^ twP) m := by
  unfold plX
  by_cases h0 : vI a + vI b = 0
  · rw [if_pos (by rw [h0, Int.zero_mul])]
    obtain ⟨e1, e2⟩ := add_nought m ha hb fa fb h0
    rw [e1]
    rcases noughtF_is m ha e2 with e | e
    · rw [Option.some.inj e]; decide
    · rw [Option.some.inj e]; decide
  · rw [if_neg (fun h => h0 (neg_pw.2.1 h)), add_fu m ha hb fa fb h0]
theorem add_grows {a b c : Nat} (m : Int) (ha : a < 18446744073709551616) (hb : b < 18446744073709551616) (hc : c < 18446744073709551616) (fa : finB a = true) (fb : finB b = true) (fc : finB c = true) (h : vI a ≤ vI b) : place (addV a c m) ≤ place (addV b c m) := by
  rw [add_place m ha hc fa fc, add_place m hb hc fb fc]
  exact plX_mono m (Int.mul_le_mul_of_nonneg_right (by omega) (Int.le_of_lt (pw_pos _)))
end Go.Proofs.Ytbnjjoaippoinaa

namespace Go.Proofs.Ytbnjjoaippoinaa
open Go.RowKit

theorem val_shift {r : Nat} (j : Nat) (h : 4503599627370496 ≤ r) : val (r + j * 4503599627370496) = val r * 2 ^ j := by
  unfold val
  rw [if_neg (by omega), if_neg (by omega)]
  have e1 : (r + j * 4503599627370496) % 4503599627370496 = r % 4503599627370496 := Nat.add_mul_mod_self_right _ _ _
  have e2 : (r + j * 4503599627370496) / 4503599627370496 - 1 = (r / 4503599627370496 - 1) + j := by
    rw [Nat.add_mul_div_right _ _ (by omega)]; omega
  rw [e1, e2, Nat.pow_add, Nat.mul_assoc]
theorem above_shift {K A r : Nat} (j : Nat) (h : 4503599627370496 ≤ r) : aboveD K (A * 2 ^ j) (r + j * 4503599627370496) ↔ aboveD K A r := by
  unfold aboveD
  have e1 := val_shift j h
  have e2 : val (r + j * 4503599627370496 + 1) = val (r + 1) * 2 ^ j := by
    rw [show r + j * 4503599627370496 + 1 = (r + 1) + j * 4503599627370496 by omega]; exact val_shift j (by omega)
  rw [e1, e2, ← Nat.add_mul]
  have hp := Nat.two_pow_pos j
  generalize val r + val (r + 1) = S at *
  generalize 2 ^ K = Q at *
  have e3 : S * 2 ^ j * Q = S * Q * 2 ^ j := by ac_rfl
  have e4 : 2 * (A * 2 ^ j) = 2 * A * 2 ^ j := by rw [Nat.mul_assoc]
  have e5 : (r + j * 4503599627370496) % 2 = r % 2 := by omega
  rw [e3, e4, e5]
  constructor
  · rintro (h | ⟨h, g⟩)
    · exact Or.inl (Nat.lt_of_mul_lt_mul_right h)
    · exact Or.inr ⟨Nat.eq_of_mul_eq_mul_right hp h, g⟩
  · rintro (h | ⟨h, g⟩)
    · exact Or.inl (Nat.mul_lt_mul_of_pos_right h hp)
    · exact Or.inr ⟨by rw [h], g⟩
theorem above_low {K A r q : Nat} (h : r < q) (g : aboveD K A q) : aboveD K A r := by
  left
  have v1 := val_lt h
  have v2 := val_lt (show r + 1 < q + 1 by omega)
  have : (val r + val (r + 1)) * 2 ^ K < (val q + val (q + 1)) * 2 ^ K := Nat.mul_lt_mul_of_pos_right (by omega) (Nat.two_pow_pos K)
  rcases g with g | ⟨g, _⟩
  · exact Nat.lt_trans this g
  · rw [← g]; exact this
theorem near_shiftK {A k : Nat} (j : Nat) (h : NearK A k) (hB : 4503599627370496 < k) (hI : k + j * 4503599627370496 < 9218868437227405312) : NearK (A * 2 ^ j) (k + j * 4503599627370496) := by
  refine ⟨by omega, fun r hr => ?_⟩
  rcases Nat.lt_or_ge r (4503599627370496 + j * 4503599627370496) with c | c
  · refine ⟨fun _ => ?_, fun _ => by omega⟩
    exact above_low c ((above_shift j (Nat.le_refl _)).2 ((h.2 _ (by omega)).1 hB))
  · obtain ⟨q, rfl⟩ : ∃ q, r = q + j * 4503599627370496 := ⟨r - j * 4503599627370496, by omega⟩
    rw [above_shift j (by omega), ← h.2 q (by omega)]
    omega
theorem two_val {i : Nat} (hi : i ≤ 2090) : ∃ k, val k = 2 ^ i ∧ k < 9218868437227405312 := by
  obtain ⟨k, hk⟩ := rep_ladder i 1 (by omega)
  rw [Nat.one_mul] at hk
  refine ⟨k, hk, ?_⟩
  obtain ⟨V, hV⟩ : ∃ V, V = 2090 := ⟨_, rfl⟩
  have h1 := top_val hV
  have h2 : 2 ^ i ≤ 2 ^ V := pw_le (by omega)
  have := val_le_iff (i := k) (j := 9218868437227405311) (by rw [hk]; exact Nat.lt_of_le_of_lt h2 h1)
  omega
theorem near_leK {A k i : Nat} (h : NearK A k) (hi : i ≤ 2090) (hA : A ≤ 2 ^ i * 2 ^ kV) : val k ≤ 2 ^ i := by
  obtain ⟨q, hq, hq2⟩ := two_val hi
  rw [← hq] at hA ⊢
  exact val_le_D (near_mono hA h (val_near q hq2))
theorem near_geK {A k i : Nat} (h : NearK A k) (hi : i ≤ 2090) (hA : 2 ^ i * 2 ^ kV ≤ A) : 2 ^ i ≤ val k := by
  obtain ⟨q, hq, hq2⟩ := two_val hi
  rw [← hq] at hA ⊢
  exact val_le_D (near_mono hA (val_near q hq2) h)
theorem le_fin {k i : Nat} (hi : i ≤ 2090) (h : val k ≤ 2 ^ i) : k < 9218868437227405312 := by
  obtain ⟨q, hq, hq2⟩ := two_val hi
  rw [← hq] at h
  rcases Nat.lt_or_ge q k with c | c
  · have := val_lt c; omega
  · omega
theorem near_dvd {A k q : Nat} (h : NearK A k) (hq : q ≤ 2000) (hA : 2 ^ q * 2 ^ kV ∣ A) : 2 ^ q ∣ val k := by
  obtain ⟨m, rfl⟩ := hA
  by_cases c : m ≤ 9007199254740992
  · obtain ⟨r, hr⟩ := rep_ladder q m c
    have hr2 : r < 9218868437227405312 := by
      refine le_fin (i := 53 + q) (by omega) ?_
      rw [hr, Nat.pow_add]
      exact Nat.mul_le_mul_right _ c
    have hA2 : 2 ^ q * 2 ^ kV * m = val r * 2 ^ kV := by
      rw [hr]
      generalize 2 ^ kV = Q
      ac_rfl
    rw [hA2] at h
    rw [nearK_uniq h (val_near r hr2), hr]
    exact Nat.dvd_mul_left _ _
  · have h2 : 2 ^ (53 + q) ≤ val k := near_geK h (by omega) (by
      rw [Nat.pow_add]
      generalize 2 ^ kV = Q
      rw [show 2 ^ q * Q * m = m * 2 ^ q * Q by ac_rfl]
      exact Nat.mul_le_mul_right _ (Nat.mul_le_mul_right _ (by omega)))
    rw [← mg_up] at h2 ⊢
    have m1 := mg_lt k
    have hu : q ≤ up k := by
      rcases Nat.lt_or_ge (up k) q with d | d
      · exfalso
        have a1 : mg k * 2 ^ up k ≤ mg k * 2 ^ q := Nat.mul_le_mul_left _ (pw_le (by omega))
        have a2 : mg k * 2 ^ q < 2 ^ 53 * 2 ^ q := Nat.mul_lt_mul_of_pos_right (by omega) (Nat.two_pow_pos q)
        rw [Nat.pow_add] at h2
        omega
      · exact d
    exact Nat.dvd_trans (Nat.pow_dvd_pow 2 hu) (Nat.dvd_mul_left _ _)
theorem dvd_ge {q A : Nat} (h : 2 ^ q * 2 ^ kV ∣ A) (h0 : A ≠ 0) : 2 ^ q * 2 ^ kV ≤ A := Nat.le_of_dvd (Nat.pos_of_ne_zero h0) h
theorem big_rung {k q : Nat} (hq : 53 ≤ q) (h : 2 ^ q ≤ val k) : 4503599627370496 < k := by
  have h1 : val 4503599627370496 < val k := by
    have e : val 4503599627370496 = 2 ^ 52 := by decide
    rw [e]
    exact Nat.lt_of_lt_of_le (Nat.pow_lt_pow_right (by omega) (by omega)) h
  exact val_le_iff h1
/-- What is rounded of a number and of 2^j times it. -/
theorem sh_step {A j k k' q i : Nat} (h : NearK A k) (h' : NearK (A * 2 ^ j) k') (h0 : A ≠ 0) (hd : 2 ^ q * 2 ^ kV ∣ A) (hq : 53 ≤ q) (hq2 : q ≤ 2000) (hi : A ≤ 2 ^ i * 2 ^ kV) (hij : i + j ≤ 2090) :
    k < 9218868437227405312 ∧ k' < 9218868437227405312 ∧ val k' = val k * 2 ^ j ∧ 2 ^ q ∣ val k ∧ val k ≤ 2 ^ i := by
  have a1 := near_leK h (by omega) hi
  have a2 := near_geK h (by omega) (dvd_ge hd h0)
  have a3 := big_rung hq a2
  have a4 := le_fin (by omega) a1
  have a5 := val_shift j (Nat.le_of_lt a3)
  have a6 : k + j * 4503599627370496 < 9218868437227405312 := by
    refine le_fin (i := i + j) hij ?_
    rw [a5, Nat.pow_add]
    exact Nat.mul_le_mul_right _ a1
  have e := nearK_uniq h' (near_shiftK j h a3 a6)
  rw [e]
  exact ⟨a4, a6, a5, near_dvd h hq2 hd, a1⟩
theorem vI_abs (x : Nat) : (vI x).natAbs = val (rung x) := by unfold vI; split <;> omega
theorem vI_zero {x : Nat} : vI x = 0 ↔ rung x = 0 := by
  constructor
  · intro h
    have : val (rung x) = 0 := by rw [← vI_abs, h]; rfl
    exact val_inj (by rw [this, val_zero])
  · intro h
    unfold vI
    rw [h, val_zero]; split <;> rfl
/-- A sum of finite floats. -/
theorem add_near {x y : Nat} (hx : x < 18446744073709551616) (hy : y < 18446744073709551616) (fx : finB x = true) (fy : finB y = true) : ∃ r, floatBits .add .f64 x y = some r ∧ r < 18446744073709551616 ∧ (vI x + vI y = 0 → rung r = 0 ∧ sgn r = (sgn x && sgn y)) ∧ (vI x + vI y ≠ 0 → sgn r = decide (vI x + vI y < 0) ∧ NearK ((vI x + vI y).natAbs * 2 ^ kV) (rung r)) := by
  rw [(fbits_map x y).1, read_fin hx fx, read_fin hy fy, sum_val]
  simp only [Option.map_some, Ieee.Format.write]
  obtain ⟨u, hu⟩ : ∃ u, min (up (rung x)) (up (rung y)) = u := ⟨_, rfl⟩
  have e1 := sgn_val x (u := u) (by omega)
  have e2 := sgn_val y (u := u) (by omega)
  rw [hu]
  generalize Ieee.signed (sgn x) (mg (rung x)) (up (rung x) - u) = P at *
  generalize Ieee.signed (sgn y) (mg (rung y)) (up (rung y) - u) = Q at *
  have e3 : vI x + vI y = (P + Q) * 2 ^ u := by
    rw [← e1, ← e2, ← Int.add_mul]; push_cast; rfl
  by_cases h0 : P + Q = 0
  · rw [if_pos h0, h0]
    refine ⟨_, rfl, ?_, fun _ => ?_, fun h => absurd (by rw [e3, h0, Int.zero_mul]) h⟩
    · show Ieee.double.nearest _ 0 _ < _
      exact word_lt64 _ (by omega)
    · show rung (Ieee.double.nearest _ 0 _) = 0 ∧ sgn (Ieee.double.nearest _ 0 _) = _
      exact word_rung _ (by omega)
  · rw [if_neg h0]
    obtain ⟨k, ek, hN⟩ := nearK_of (decide (P + Q < 0)) (m := (P + Q).natAbs) (p := -1074 + (u : Int)) (by omega) (by omega)
    have hk := hN.1
    obtain ⟨w1, w2⟩ := word_rung (decide (P + Q < 0)) (show k < 9223372036854775808 by omega)
    refine ⟨_, rfl, by rw [ek]; exact word_lt64 _ (by omega), fun h => ?_, fun _ => ?_⟩
    · exfalso
      rw [e3] at h
      exact h0 (neg_pw.2.1 h)
    · rw [ek, w1, w2]
      refine ⟨?_, ?_⟩
      · rw [e3]; exact decide_eq_decide.2 neg_pw.1.symm
      · have eA : (P + Q).natAbs * 2 ^ (-1074 + (u : Int) + 65536).toNat = (vI x + vI y).natAbs * 2 ^ kV := by
          rw [e3, Int.natAbs_mul, pw_abs, Nat.mul_assoc, ← Nat.pow_add, show (-1074 + (u : Int) + 65536).toNat = u + kV by have := kV_eq; omega]
        rw [← eA]; exact hN
/-- A product of finite floats. -/
theorem mul_near {a b : Nat} (ha : a < 18446744073709551616) (hb : b < 18446744073709551616) (fa : finB a = true) (fb : finB b = true) : ∃ r, floatBits .mul .f64 a b = some r ∧ r < 18446744073709551616 ∧ sgn r = (sgn a ^^ sgn b) ∧ (vI a * vI b = 0 → rung r = 0) ∧ (vI a * vI b ≠ 0 → NearK ((vI a * vI b).natAbs * 2 ^ puH) (rung r)) := by
  have hq : floatBits .mul .f64 a b = some (Ieee.double.nearest (sgn a ^^ sgn b) (mg (rung a) * mg (rung b)) (-1074 + ((up (rung a) : Nat) : Int) + (-1074 + ((up (rung b) : Nat) : Int)))) := by
    rw [(fbits_map a b).2.2.1, read_fin ha fa, read_fin hb fb]
    rfl
  rw [hq]
  have hab : ∀ x, (vI x).natAbs = mg (rung x) * 2 ^ up (rung x) := fun x => by rw [vI_abs, mg_up]
  by_cases h0 : mg (rung a) * mg (rung b) = 0
  · rw [h0]
    refine ⟨_, rfl, ?_, ?_, fun _ => ?_, fun h => ?_⟩
    · show Ieee.double.nearest _ 0 _ < _
      exact word_lt64 _ (by omega)
    · show sgn (Ieee.double.nearest _ 0 _) = _
      exact (word_rung _ (by omega)).2
    · show rung (Ieee.double.nearest _ 0 _) = 0
      exact (word_rung _ (by omega)).1
    · exfalso
      apply h
      apply Int.natAbs_eq_zero.1
      rw [Int.natAbs_mul, hab, hab]
      rcases Nat.mul_eq_zero.1 h0 with g | g
      · rw [g, Nat.zero_mul, Nat.zero_mul]
      · rw [g, Nat.zero_mul, Nat.mul_zero]
  · obtain ⟨k, ek, hN⟩ := nearK_of (sgn a ^^ sgn b) (m := mg (rung a) * mg (rung b)) (p := -1074 + ((up (rung a) : Nat) : Int) + (-1074 + ((up (rung b) : Nat) : Int))) h0 (by omega)
    have hk := hN.1
    obtain ⟨w1, w2⟩ := word_rung (sgn a ^^ sgn b) (show k < 9223372036854775808 by omega)
    have eA : mg (rung a) * mg (rung b) * 2 ^ (-1074 + ((up (rung a) : Nat) : Int) + (-1074 + ((up (rung b) : Nat) : Int)) + 65536).toNat = (vI a * vI b).natAbs * 2 ^ puH := by
      rw [Int.natAbs_mul, hab, hab, show (-1074 + ((up (rung a) : Nat) : Int) + (-1074 + ((up (rung b) : Nat) : Int)) + 65536).toNat = up (rung a) + up (rung b) + puH by unfold puH; omega, Nat.pow_add, Nat.pow_add]
      generalize puH = v
      ac_rfl
    rw [eA] at hN
    refine ⟨_, rfl, by rw [ek]; exact word_lt64 _ (by omega), by rw [ek]; exact w2, fun h => ?_, fun _ => by rw [ek, w1]; exact hN⟩
    exfalso
    rw [h] at eA
    have : 0 < mg (rung a) * mg (rung b) * 2 ^ (-1074 + ((up (rung a) : Nat) : Int) + (-1074 + ((up (rung b) : Nat) : Int)) + 65536).toNat := Nat.mul_pos (Nat.pos_of_ne_zero h0) (Nat.two_pow_pos _)
    rw [eA] at this
    simp at this
end Go.Proofs.Ytbnjjoaippoinaa

namespace Go.Proofs.Ytbnjjoaippoinaa
open Go.RowKit

/-- b is a times 2^j; both are finite. -/
def Sf (j a b : Nat) : Prop := a < 18446744073709551616 ∧ b < 18446744073709551616 ∧ finB a = true ∧ finB b = true ∧ sgn b = sgn a ∧ val (rung b) = val (rung a) * 2 ^ j
theorem Sf.val {j a b : Nat} (h : Sf j a b) : vI b = vI a * 2 ^ j := by
  obtain ⟨_, _, _, _, h5, h6⟩ := h
  unfold vI
  rw [h5, h6]
  cases sgn a
  · simp only [Bool.false_eq_true, if_false]; push_cast; rfl
  · simp only [if_true]; rw [Int.neg_mul]; push_cast; rfl
theorem fin_zero {r : Nat} (h : rung r = 0) : finB r = true := by unfold finB; rw [h]; rfl
theorem fin_rg {r : Nat} (h : rung r < 9218868437227405312) : finB r = true := by unfold finB; simpa using h
theorem dvd_abs {q : Nat} {x : Nat} : 2 ^ q ∣ Go.Proofs.Ytbnjjoaippoinaa.val (rung x) ↔ ((2 ^ q : Nat) : Int) ∣ vI x := by
  rw [Int.ofNat_dvd_left, vI_abs]
theorem add_sf {j a a' b b' q i : Nat} (h : Sf j a a') (g : Sf j b b') (hq : 53 ≤ q) (hq2 : q ≤ 2000) (d1 : 2 ^ q ∣ val (rung a)) (d2 : 2 ^ q ∣ val (rung b)) (l1 : val (rung a) ≤ 2 ^ i) (l2 : val (rung b) ≤ 2 ^ i) (hij : i + 1 + j ≤ 2090) :
    ∃ r r', floatBits .add .f64 a b = some r ∧ floatBits .add .f64 a' b' = some r' ∧ Sf j r r' ∧ 2 ^ q ∣ val (rung r) ∧ val (rung r) ≤ 2 ^ (i + 1) := by
  obtain ⟨r, r1, r2, r3, r4⟩ := add_near h.1 g.1 h.2.2.1 g.2.2.1
  obtain ⟨r', q1, q2, q3, q4⟩ := add_near h.2.1 g.2.1 h.2.2.2.1 g.2.2.2.1
  have eX : vI a' + vI b' = (vI a + vI b) * 2 ^ j := by rw [h.val, g.val, Int.add_mul]
  refine ⟨r, r', r1, q1, ?_⟩
  by_cases h0 : vI a + vI b = 0
  · obtain ⟨z1, z2⟩ := r3 h0
    obtain ⟨z3, z4⟩ := q3 (by rw [eX, h0, Int.zero_mul])
    rw [z1, val_zero]
    refine ⟨⟨r2, q2, fin_zero z1, fin_zero z3, by rw [z2, z4, h.2.2.2.2.1, g.2.2.2.2.1], by rw [z1, z3, val_zero, Nat.zero_mul]⟩, Nat.dvd_zero _, Nat.zero_le _⟩
  · obtain ⟨s1, n1⟩ := r4 h0
    obtain ⟨s2, n2⟩ := q4 (fun e => h0 (by rw [eX] at e; exact neg_pw.2.1 e))
    rw [eX, Int.natAbs_mul, pw_abs] at n2
    have dX : 2 ^ q ∣ (vI a + vI b).natAbs := by
      rw [← Int.ofNat_dvd_left]
      exact Int.dvd_add (dvd_abs.1 d1) (dvd_abs.1 d2)
    have lX : (vI a + vI b).natAbs ≤ 2 ^ (i + 1) := by
      have e1 := vI_abs a
      have e2 := vI_abs b
      rw [Nat.pow_succ]
      omega
    have nX : (vI a + vI b).natAbs ≠ 0 := by omega
    have s1' : sgn r' = sgn r := by
      rw [s1, s2, eX]
      exact decide_eq_decide.2 neg_pw.1
    generalize (vI a + vI b).natAbs = X at *
    have hK := Nat.two_pow_pos kV
    have n2' : NearK (X * 2 ^ kV * 2 ^ j) (rung r') := by
      rw [show X * 2 ^ kV * 2 ^ j = X * 2 ^ j * 2 ^ kV by generalize 2 ^ kV = Q; ac_rfl]
      exact n2
    obtain ⟨t1, t2, t3, t4, t5⟩ := sh_step n1 n2' (Nat.mul_ne_zero nX (by omega)) (Nat.mul_dvd_mul_right dX _) hq hq2 (Nat.mul_le_mul_right _ lX) hij
    exact ⟨⟨r2, q2, fin_rg t1, fin_rg t2, s1', t3⟩, t4, t5⟩
theorem mul_sf {j a a' b q1 q2 q i1 i2 i : Nat} (h : Sf j a a') (hb : b < 18446744073709551616) (fb : finB b = true) (d1 : 2 ^ q1 ∣ val (rung a)) (d2 : 2 ^ q2 ∣ val (rung b)) (hqq : q1 + q2 = q + twP) (l1 : val (rung a) ≤ 2 ^ i1) (l2 : val (rung b) ≤ 2 ^ i2) (hii : i1 + i2 = i + twP) (hq : 53 ≤ q) (hq2 : q ≤ 2000) (hij : i + j ≤ 2090) :
    ∃ r r', floatBits .mul .f64 a b = some r ∧ floatBits .mul .f64 a' b = some r' ∧ Sf j r r' ∧ 2 ^ q ∣ val (rung r) ∧ val (rung r) ≤ 2 ^ i := by
  obtain ⟨r, r1, r2, r3, r4, r5⟩ := mul_near h.1 hb h.2.2.1 fb
  obtain ⟨r', p1, p2, p3, p4, p5⟩ := mul_near h.2.1 hb h.2.2.2.1 fb
  have eX : vI a' * vI b = (vI a * vI b) * 2 ^ j := by rw [h.val, Int.mul_assoc, Int.mul_comm (2 ^ j), ← Int.mul_assoc]
  refine ⟨r, r', r1, p1, ?_⟩
  have es : sgn r' = sgn r := by rw [r3, p3, h.2.2.2.2.1]
  by_cases h0 : vI a * vI b = 0
  · have z1 := r4 h0
    have z3 := p4 (by rw [eX, h0, Int.zero_mul])
    rw [z1, val_zero]
    exact ⟨⟨r2, p2, fin_zero z1, fin_zero z3, es, by rw [z1, z3, val_zero, Nat.zero_mul]⟩, Nat.dvd_zero _, Nat.zero_le _⟩
  · have n1 := r5 h0
    have n2 := p5 (fun e => h0 (by rw [eX] at e; exact neg_pw.2.1 e))
    rw [eX, Int.natAbs_mul, pw_abs] at n2
    have eV : (vI a * vI b).natAbs = val (rung a) * val (rung b) := by rw [Int.natAbs_mul, vI_abs, vI_abs]
    have nX : (vI a * vI b).natAbs ≠ 0 := by omega
    have eK : 2 ^ kV = 2 ^ twP * 2 ^ puH := by rw [show kV = twP + puH from rfl, Nat.pow_add]
    have dX : 2 ^ q * 2 ^ kV ∣ (vI a * vI b).natAbs * 2 ^ puH := by
      rw [eK, ← Nat.mul_assoc, ← Nat.pow_add, ← hqq, Nat.pow_add, eV]
      exact Nat.mul_dvd_mul_right (Nat.mul_dvd_mul d1 d2) _
    have lX : (vI a * vI b).natAbs * 2 ^ puH ≤ 2 ^ i * 2 ^ kV := by
      rw [eK, ← Nat.mul_assoc, ← Nat.pow_add, ← hii, Nat.pow_add, eV]
      exact Nat.mul_le_mul_right _ (Nat.mul_le_mul l1 l2)
    generalize (vI a * vI b).natAbs = X at *
    have hK := Nat.two_pow_pos puH
    have n2' : NearK (X * 2 ^ puH * 2 ^ j) (rung r') := by
      rw [show X * 2 ^ puH * 2 ^ j = X * 2 ^ j * 2 ^ puH by generalize 2 ^ puH = Q; ac_rfl]
      exact n2
    obtain ⟨t1, t2, t3, t4, t5⟩ := sh_step n1 n2' (Nat.mul_ne_zero nX (by omega)) dX hq hq2 lX hij
    exact ⟨⟨r2, p2, fin_rg t1, fin_rg t2, es, t3⟩, t4, t5⟩
theorem toO_fin {x : Nat} (h : finB x = true) : toO x = some x := by
  unfold toO
  rw [rung_nan (Nat.le_of_lt (fin_rung h))]; rfl
theorem Sf.zero (j : Nat) : Sf j 0 0 := ⟨by omega, by omega, by decide, by decide, rfl, by rw [show rung 0 = 0 from rfl, val_zero, Nat.zero_mul]⟩
/-- What is asked of each float of a list. -/
def Mid (q i x : Nat) : Prop := x < 18446744073709551616 ∧ finB x = true ∧ 2 ^ q ∣ val (rung x) ∧ val (rung x) ≤ 2 ^ i
theorem dot_sf {j q1 q2 q i1 i2 i n : Nat} {xs xs' ys : List Nat} (hx : ∀ k, k < n → Sf j (xs.getD k 0) (xs'.getD k 0) ∧ Mid q1 i1 (xs.getD k 0)) (hy : ∀ k, k < n → Mid q2 i2 (ys.getD k 0)) (hqq : q1 + q2 = q + twP) (hii : i1 + i2 = i + twP) (hq : 53 ≤ q) (hq2 : q ≤ 2000) (hij : i + n + j ≤ 2090) :
    ∀ k, k ≤ n → ∃ s s', dtO xs ys k = some s ∧ dtO xs' ys k = some s' ∧ Sf j s s' ∧ 2 ^ q ∣ val (rung s) ∧ val (rung s) ≤ 2 ^ (i + k) := by
  intro k
  induction k with
  | zero => exact fun _ => ⟨0, 0, rfl, rfl, Sf.zero j, by rw [show rung 0 = 0 from rfl, val_zero]; exact Nat.dvd_zero _, by rw [show rung 0 = 0 from rfl, val_zero]; exact Nat.zero_le _⟩
  | succ k ih =>
    intro hk
    obtain ⟨s, s', e1, e2, hS, hd, hl⟩ := ih (by omega)
    obtain ⟨hX, m1, m2, m3, m4⟩ := hx k (by omega)
    obtain ⟨p1, p2, p3, p4⟩ := hy k (by omega)
    obtain ⟨u, u', f1, f2, hU, gd, gl⟩ := mul_sf hX p1 p2 m3 p3 hqq m4 p4 hii hq hq2 (by omega)
    obtain ⟨r, r', g1, g2, hR, rd, rl⟩ := add_sf hS hU hq hq2 hd gd hl (Nat.le_trans gl (pw_le (by omega))) (by omega)
    refine ⟨r, r', ?_, ?_, hR, rd, rl⟩
    · rw [dtO, e1, toO_fin m2, toO_fin p2]
      show floatBits .mul .f64 _ _ >>= _ = _
      rw [f1]; exact g1
    · rw [dtO, e2, toO_fin hX.2.2.2.1, toO_fin p2]
      show floatBits .mul .f64 _ _ >>= _ = _
      rw [f2]; exact g2
/-- With its sign turned (of noughts: whichever). -/
def Ng (a b : Nat) : Prop := a < 18446744073709551616 ∧ b < 18446744073709551616 ∧ finB a = true ∧ finB b = true ∧ vI b = -vI a
theorem vI_of {r : Nat} {X : Int} (_h : X ≠ 0) (hs : sgn r = decide (X < 0)) (k : Nat) (hr : rung r = k) : vI r = if X < 0 then -(val k : Int) else (val k : Int) := by
  unfold vI
  rw [hs, hr]
  by_cases c : X < 0 <;> simp [c]
theorem add_ng {a a' b b' r : Nat} (h : Ng a a') (g : Ng b b') (hr : floatBits .add .f64 a b = some r) (fr : finB r = true) : ∃ r', floatBits .add .f64 a' b' = some r' ∧ Ng r r' := by
  obtain ⟨q, r1, r2, r3, r4⟩ := add_near h.1 g.1 h.2.2.1 g.2.2.1
  rw [hr] at r1
  cases r1
  obtain ⟨r', q1, q2, q3, q4⟩ := add_near h.2.1 g.2.1 h.2.2.2.1 g.2.2.2.1
  have eX : vI a' + vI b' = -(vI a + vI b) := by rw [h.2.2.2.2, g.2.2.2.2]; omega
  refine ⟨r', q1, r2, q2, fr, ?_⟩
  by_cases h0 : vI a + vI b = 0
  · obtain ⟨z1, _⟩ := r3 h0
    obtain ⟨z3, _⟩ := q3 (by rw [eX, h0]; rfl)
    exact ⟨fin_zero z3, by rw [vI_zero.2 z1, vI_zero.2 z3]; rfl⟩
  · obtain ⟨s1, n1⟩ := r4 h0
    obtain ⟨s2, n2⟩ := q4 (by rw [eX]; omega)
    rw [eX, Int.natAbs_neg] at n2
    have ek := nearK_uniq n2 n1
    refine ⟨by unfold finB at fr ⊢; rw [ek]; exact fr, ?_⟩
    rw [eX] at s2
    rw [vI_of (X := -(vI a + vI b)) (by omega) s2 _ ek, vI_of h0 s1 _ rfl]
    by_cases c : vI a + vI b < 0
    · rw [if_pos c, if_neg (by omega)]; omega
    · rw [if_neg c, if_pos (by omega)]
theorem mul_ng {a a' b r : Nat} (h : Ng a a') (hb : b < 18446744073709551616) (fb : finB b = true) (hr : floatBits .mul .f64 a b = some r) (fr : finB r = true) (hs : sgn a' = !sgn a) : ∃ r', floatBits .mul .f64 a' b = some r' ∧ Ng r r' := by
  obtain ⟨q, r1, r2, r3, r4, r5⟩ := mul_near h.1 hb h.2.2.1 fb
  rw [hr] at r1
  cases r1
  obtain ⟨r', q1, q2, q3, q4, q5⟩ := mul_near h.2.1 hb h.2.2.2.1 fb
  have eX : vI a' * vI b = -(vI a * vI b) := by rw [h.2.2.2.2, Int.neg_mul]
  refine ⟨r', q1, r2, q2, fr, ?_⟩
  by_cases h0 : vI a * vI b = 0
  · have z1 := r4 h0
    have z3 := q4 (by rw [eX, h0]; rfl)
    exact ⟨fin_zero z3, by rw [vI_zero.2 z1, vI_zero.2 z3]; rfl⟩
  · have n1 := r5 h0
    have n2 := q5 (by rw [eX]; omega)
    rw [eX, Int.natAbs_neg] at n2
    have ek := nearK_uniq n2 n1
    refine ⟨by unfold finB at fr ⊢; rw [ek]; exact fr, ?_⟩
    have es : sgn r' = !sgn r := by rw [q3, r3, hs]; cases sgn a <;> cases sgn b <;> rfl
    unfold vI
    rw [es, ek]
    cases sgn r <;> simp
/-- The product of a list whose signs are turned. -/
theorem dot_ng {q1 q2 q i1 i2 i n : Nat} {xs xs' ys : List Nat} (hx : ∀ k, k < n → xs'.getD k 0 = negW (xs.getD k 0) ∧ Mid q1 i1 (xs.getD k 0)) (hy : ∀ k, k < n → Mid q2 i2 (ys.getD k 0)) (hqq : q1 + q2 = q + twP) (hii : i1 + i2 = i + twP) (hq : 53 ≤ q) (hq2 : q ≤ 2000) (hij : i + n ≤ 2090) :
    ∀ k, k ≤ n → ∃ s s', dtO xs ys k = some s ∧ dtO xs' ys k = some s' ∧ Ng s s' := by
  have self : ∀ k, k < n → Sf 0 (xs.getD k 0) (xs.getD k 0) ∧ Mid q1 i1 (xs.getD k 0) := fun k hk => by
    obtain ⟨_, m1, m2, m3, m4⟩ := hx k hk
    exact ⟨⟨m1, m1, m2, m2, rfl, by rw [Nat.pow_zero, Nat.mul_one]⟩, m1, m2, m3, m4⟩
  have hD := dot_sf self hy hqq hii hq hq2 (by omega)
  intro k
  induction k with
  | zero => exact fun _ => ⟨0, 0, rfl, rfl, by omega, by omega, by decide, by decide, by decide⟩
  | succ k ih =>
    intro hk
    obtain ⟨s, s', e1, e2, hS⟩ := ih (by omega)
    obtain ⟨hX, m1, m2, m3, m4⟩ := hx k (by omega)
    obtain ⟨p1, p2, p3, p4⟩ := hy k (by omega)
    obtain ⟨u, _, f1, _, hU, _, _⟩ := mul_sf (self k (by omega)).1 p1 p2 m3 p3 hqq m4 p4 hii hq hq2 (by omega)
    obtain ⟨r, _, g1, _, hR, _, _⟩ := hD (k + 1) hk
    have hn : Ng (xs.getD k 0) (xs'.getD k 0) := by
      rw [hX]
      exact ⟨m1, negW_lt m1, m2, (neg_fin m1).trans m2, vI_ng m1⟩
    obtain ⟨u', f2, hU'⟩ := mul_ng hn p1 p2 f1 hU.2.2.1 (by rw [hX]; exact (neg_rung m1).2)
    have g1' : floatBits .add .f64 s u = some r := by
      rw [dtO, e1, toO_fin m2, toO_fin p2] at g1
      have g2 : (floatBits .mul .f64 (xs.getD k 0) (ys.getD k 0) >>= fun v => floatBits .add .f64 s v) = some r := g1
      rw [f1] at g2; exact g2
    obtain ⟨r', g3, hR'⟩ := add_ng hS hU' g1' hR.2.2.1
    refine ⟨r, r', g1, ?_, hR'⟩
    rw [dtO, e2, toO_fin hn.2.2.2.1, toO_fin p2]
    show floatBits .mul .f64 _ _ >>= _ = _
    rw [f2]; exact g3
end Go.Proofs.Ytbnjjoaippoinaa

namespace Go.Proofs.Ytbnjjoaippoinaa
open Go.RowKit

theorem vI_low {s : Nat} (h : s < 9223372036854775808) : vI s = (val s : Int) := by
  unfold vI
  rw [sgn_small h, rung_small h]; rfl
/-- A sum upwards of floats not below 0, between two floats. -/
theorem up_add {s x : Nat} (hs : s < 9218868437227405312) (hx : x < 9218868437227405312) (h0 : val s + val x ≠ 0) : 0 < addV s x 2 ∧ addV s x 2 ≤ 9218868437227405312 ∧ (addV s x 2 < 9218868437227405312 → val s + val x ≤ val (addV s x 2)) ∧ val (addV s x 2 - 1) < val s + val x := by
  have es := vI_low (s := s) (by omega)
  have ex := vI_low (s := x) (by omega)
  have fs : finB s = true := by unfold finB; rw [rung_small (by omega)]; simpa using hs
  have fx : finB x = true := by unfold finB; rw [rung_small (by omega)]; simpa using hx
  have hz : vI s + vI x ≠ 0 := by rw [es, ex]; omega
  have hp : 0 < (vI s + vI x) * 2 ^ twP := by
    have : 0 < vI s + vI x := by rw [es, ex] at hz ⊢; omega
    exact Int.mul_pos this (pw_pos twP)
  have hne : (vI s + vI x) * 2 ^ twP ≠ 0 := by omega
  have hv := add_fu 2 (show s < 18446744073709551616 by omega) (show x < 18446744073709551616 by omega) fs fx hz
  rw [fuV_pos 2 hp] at hv
  have hN := fuK_near hne
  have hA := fu_units hne
  obtain ⟨r1, r2, r3, r4⟩ := rg_up hN hA
  rw [← hv] at r1 r2 r3 r4
  have eA : ((vI s + vI x) * 2 ^ twP).natAbs * 2 ^ puH = (val s + val x) * 2 ^ kV := by
    rw [Int.natAbs_mul, pw_abs, es, ex, show ((val s : Int) + (val x : Int)).natAbs = val s + val x by omega, Nat.mul_assoc, ← Nat.pow_add, show twP + puH = kV from rfl]
  rw [eA] at r3 r4
  have hK := Nat.two_pow_pos kV
  generalize 2 ^ kV = K at *
  exact ⟨r1, r2, fun hr => Nat.le_of_mul_le_mul_right (r3 hr) hK, Nat.lt_of_mul_lt_mul_right r4⟩
theorem up_zero : addV 0 0 2 = 0 := by
  have h0 : vI 0 + vI 0 = 0 := by decide
  obtain ⟨e1, _⟩ := add_nought 2 (show 0 < 18446744073709551616 by omega) (show 0 < 18446744073709551616 by omega) (by decide) (by decide) h0
  rw [e1]; decide
theorem ups_step {s x s' x' j i : Nat} (hs : s < 9218868437227405312) (hx : x < 9218868437227405312) (hs' : s' < 9218868437227405312) (hx' : x' < 9218868437227405312) (es : val s' = val s * 2 ^ j) (ex : val x' = val x * 2 ^ j) (ls : s = 0 ∨ 2 ^ 60 ≤ val s) (lx : x = 0 ∨ 2 ^ 60 ≤ val x) (hi : val s + val x ≤ 2 ^ i) (hij : i + j ≤ 2090) :
    addV s x 2 < 9218868437227405312 ∧ addV s' x' 2 < 9218868437227405312 ∧ val (addV s' x' 2) = val (addV s x 2) * 2 ^ j ∧ (addV s x 2 = 0 ∨ 2 ^ 60 ≤ val (addV s x 2)) ∧ val (addV s x 2) ≤ 2 ^ i := by
  have hp := Nat.two_pow_pos j
  by_cases h0 : val s + val x = 0
  · have z : ∀ r, val r = 0 → r = 0 := fun r h => val_inj (by rw [h, val_zero])
    have s0 := z s (by omega)
    have x0 := z x (by omega)
    subst s0 x0
    rw [val_zero, Nat.zero_mul] at es ex
    rw [z _ es, z _ ex, up_zero, val_zero]
    exact ⟨by omega, by omega, by omega, Or.inl rfl, Nat.zero_le _⟩
  · have hX : 2 ^ 60 ≤ val s + val x := by
      rcases ls with rfl | ls
      · rcases lx with rfl | lx
        · rw [val_zero] at h0; omega
        · omega
      · omega
    have eX : val s' + val x' = (val s + val x) * 2 ^ j := by rw [es, ex, Nat.add_mul]
    have h0' : val s' + val x' ≠ 0 := by
      rw [eX]; exact Nat.mul_ne_zero h0 (by omega)
    obtain ⟨a1, a2, a3, a4⟩ := up_add hs hx h0
    obtain ⟨b1, b2, b3, b4⟩ := up_add hs' hx' h0'
    generalize addV s x 2 = r at *
    generalize addV s' x' 2 = r' at *
    rw [eX] at b3 b4
    generalize val s + val x = X at *
    have bd : ∀ {t Y l : Nat}, l ≤ 2090 → 0 < t → val (t - 1) < Y → Y ≤ 2 ^ l → val t ≤ 2 ^ l := fun {t Y l} hl h1 h2 h3 => by
      obtain ⟨k, hk, _⟩ := two_val hl
      rw [← hk] at h3 ⊢
      have := val_le_iff (Nat.lt_of_lt_of_le h2 h3)
      exact val_le_D (by omega)
    have l1 := bd (show i ≤ 2090 by omega) a1 a4 hi
    have l2 := bd hij b1 b4 (by rw [Nat.pow_add]; exact Nat.mul_le_mul_right _ hi)
    have f1 := le_fin (by omega) l1
    have f2 := le_fin hij l2
    have a3 := a3 f1
    have b3 := b3 f2
    have hB : 4503599627370496 < r := big_rung (q := 60) (by omega) (by omega)
    have e1 := val_shift j (Nat.le_of_lt hB)
    have e2 := val_shift (r := r - 1) j (by omega)
    have c1 : r' - 1 < r + j * 4503599627370496 := val_le_iff (by
      rw [e1]
      exact Nat.lt_of_lt_of_le b4 (Nat.mul_le_mul_right _ a3))
    have c2 : r - 1 + j * 4503599627370496 < r' := val_le_iff (by
      rw [e2]
      exact Nat.lt_of_lt_of_le (Nat.mul_lt_mul_of_pos_right a4 hp) b3)
    have er : r' = r + j * 4503599627370496 := by omega
    exact ⟨f1, f2, by rw [er, e1], Or.inr (by omega), l1⟩
theorem adU_fin {s x : Nat} (hs : s < 9218868437227405312) (hx : x < 9218868437227405312) : adU s x = some (addV s x 2) := by
  have fs : finB s = true := by unfold finB; rw [rung_small (by omega)]; simpa using hs
  have fx : finB x = true := by unfold finB; rw [rung_small (by omega)]; simpa using hx
  unfold adU
  rw [fs, fx]; rfl
theorem norm_sf {j i n : Nat} {xs xs' : List Nat} (hx : ∀ k, k < n → Sf j (xs.getD k 0) (xs'.getD k 0) ∧ (rung (xs.getD k 0) = 0 ∨ 2 ^ 60 ≤ val (rung (xs.getD k 0))) ∧ val (rung (xs.getD k 0)) ≤ 2 ^ i) (hij : i + n + j ≤ 2090) :
    ∀ k, k ≤ n → ∃ s s', nrO xs k = some s ∧ nrO xs' k = some s' ∧ s < 9218868437227405312 ∧ s' < 9218868437227405312 ∧ val s' = val s * 2 ^ j ∧ (s = 0 ∨ 2 ^ 60 ≤ val s) ∧ val s ≤ 2 ^ (i + k) := by
  intro k
  induction k with
  | zero => exact fun _ => ⟨0, 0, rfl, rfl, by omega, by omega, by rw [val_zero, Nat.zero_mul], Or.inl rfl, by rw [val_zero]; exact Nat.zero_le _⟩
  | succ k ih =>
    intro hk
    obtain ⟨s, s', e1, e2, h1, h2, h3, h4, h5⟩ := ih (by omega)
    obtain ⟨hS, m1, m2⟩ := hx k (by omega)
    have f1 := fin_rung hS.2.2.1
    have f2 := fin_rung hS.2.2.2.1
    have hl : val s + val (rung (xs.getD k 0)) ≤ 2 ^ (i + (k + 1)) := by
      have : 2 ^ i ≤ 2 ^ (i + k) := pw_le (by omega)
      rw [← Nat.add_assoc, Nat.pow_succ]; omega
    obtain ⟨a1, a2, a3, a4, a5⟩ := ups_step h1 f1 h2 f2 h3 hS.2.2.2.2.2 h4 m1 hl (by omega)
    refine ⟨_, _, ?_, ?_, a1, a2, a3, a4, a5⟩
    · show (nrO xs k).bind _ = _
      rw [e1]; exact adU_fin h1 f1
    · show (nrO xs' k).bind _ = _
      rw [e2]; exact adU_fin h2 f2
theorem word_ext {a b : Nat} (ha : a < 18446744073709551616) (hb : b < 18446744073709551616) (h1 : rung a = rung b) (h2 : sgn a = sgn b) : a = b := by
  rw [word_of ha, word_of hb, h1, h2]
/-- A product that is a float. -/
theorem mul_is {t p r : Nat} (ht : t < 18446744073709551616) (hp : p < 18446744073709551616) (hr : r < 18446744073709551616) (ft : finB t = true) (fp : finB p = true) (fr : finB r = true) (h : vI t * vI p = vI r * 2 ^ twP) (hs : sgn r = (sgn t ^^ sgn p)) : floatBits .mul .f64 t p = some r := by
  obtain ⟨q, q1, q2, q3, q4, q5⟩ := mul_near ht hp ft fp
  rw [q1, Option.some.injEq]
  refine word_ext q2 hr ?_ (by rw [q3, hs])
  by_cases h0 : vI t * vI p = 0
  · rw [q4 h0]
    rw [h] at h0
    exact (vI_zero.1 (neg_pw.2.1 h0)).symm
  · have n1 := q5 h0
    have eA : (vI t * vI p).natAbs * 2 ^ puH = val (rung r) * 2 ^ kV := by
      rw [h, Int.natAbs_mul, pw_abs, vI_abs, Nat.mul_assoc, ← Nat.pow_add, show twP + puH = kV from rfl]
    rw [eA] at n1
    exact nearK_uniq n1 (val_near _ (fin_rung fr))
/-- t is 2^j, or 2^-j. -/
def PwU (t j : Nat) : Prop := t < 18446744073709551616 ∧ finB t = true ∧ sgn t = false ∧ vI t = 2 ^ twP * 2 ^ j
def PwD (t j : Nat) : Prop := t < 18446744073709551616 ∧ finB t = true ∧ sgn t = false ∧ vI t * 2 ^ j = 2 ^ twP
theorem pw_parts {e : Nat} (h1 : 1 ≤ e) (h2 : e ≤ 2046) : e * 4503599627370496 < 18446744073709551616 ∧ finB (e * 4503599627370496) = true ∧ sgn (e * 4503599627370496) = false ∧ vI (e * 4503599627370496) = 2 ^ (e + 51) := by
  have hr : rung (e * 4503599627370496) = e * 4503599627370496 := rung_small (by omega)
  have hs : sgn (e * 4503599627370496) = false := sgn_small (by omega)
  refine ⟨by omega, fin_rg (by rw [hr]; omega), hs, ?_⟩
  unfold vI
  rw [hs, hr]
  simp only [Bool.false_eq_true, if_false]
  obtain ⟨d, rfl⟩ : ∃ d, e = d + 1 := ⟨e - 1, by omega⟩
  have := val_shift (r := 4503599627370496) d (Nat.le_refl _)
  rw [show (d + 1) * 4503599627370496 = 4503599627370496 + d * 4503599627370496 by omega, this, show val 4503599627370496 = 2 ^ 52 by decide, ← Nat.pow_add, show d + 1 + 51 = 52 + d by omega]
  push_cast; rfl
theorem pwU {j : Nat} (h : j ≤ 20) : PwU ((1023 + j) * 4503599627370496) j := by
  obtain ⟨a, b, c, d⟩ := pw_parts (e := 1023 + j) (by omega) (by omega)
  exact ⟨a, b, c, by rw [d, ← Int.pow_add]; congr 1; unfold twP; omega⟩
theorem pwD {j : Nat} (h : j ≤ 20) : PwD ((1023 - j) * 4503599627370496) j := by
  obtain ⟨a, b, c, d⟩ := pw_parts (e := 1023 - j) (by omega) (by omega)
  exact ⟨a, b, c, by rw [d, ← Int.pow_add]; congr 1; unfold twP; omega⟩
theorem mul_up {t j p r : Nat} (ht : PwU t j) (h : Sf j p r) : floatBits .mul .f64 t p = some r := by
  refine mul_is ht.1 h.1 h.2.1 ht.2.1 h.2.2.1 h.2.2.2.1 ?_ (by rw [h.2.2.2.2.1, ht.2.2.1, Bool.false_xor])
  rw [ht.2.2.2, h.val, Int.mul_assoc, Int.mul_comm (2 ^ j), Int.mul_comm]
theorem mul_dn {t j p r : Nat} (ht : PwD t j) (h : Sf j r p) : floatBits .mul .f64 t p = some r := by
  refine mul_is ht.1 h.2.1 h.1 ht.2.1 h.2.2.2.1 h.2.2.1 ?_ (by rw [← h.2.2.2.2.1, ht.2.2.1, Bool.false_xor])
  rw [h.val, ← ht.2.2.2, Int.mul_comm (vI r), ← Int.mul_assoc, Int.mul_comm]
/-- Of sizes from 2^-200 to 2^200, or 0. -/
def Tame (x : Nat) : Prop := x < 18446744073709551616 ∧ (rung x = 0 ∨ (3706462493325918208 ≤ rung x ∧ rung x ≤ 5507902344274116608))
theorem val_bd {r : Nat} (d u U : Nat) (hU : 52 + u = U) (h1 : 4503599627370496 * (d + 1) ≤ r) (h2 : r ≤ 4503599627370496 * (u + 1)) : 2 ^ d ∣ val r ∧ 2 ^ (52 + d) ≤ val r ∧ val r ≤ 2 ^ U := by
  subst hU
  have p1 : ∀ d, val (4503599627370496 * (d + 1)) = 2 ^ (52 + d) := fun d => by
    have := val_shift (r := 4503599627370496) d (Nat.le_refl _)
    rw [show 4503599627370496 * (d + 1) = 4503599627370496 + d * 4503599627370496 by omega, this, show val 4503599627370496 = 2 ^ 52 by decide, ← Nat.pow_add]
  refine ⟨?_, ?_, ?_⟩
  · rw [← mg_up]
    have hu : d ≤ up r := by unfold up; rw [if_neg (by omega)]; omega
    exact Nat.dvd_trans (Nat.pow_dvd_pow 2 hu) (Nat.dvd_mul_left _ _)
  · rw [← p1]; exact val_le_D h1
  · rw [← p1]; exact val_le_D h2
theorem tame_fin {x : Nat} (h : Tame x) : finB x = true := fin_rg (by rcases h.2 with e | ⟨_, e⟩ <;> omega)
theorem mid_zero {q i x : Nat} (h : x < 18446744073709551616) (f : finB x = true) (e : rung x = 0) : Mid q i x := ⟨h, f, by rw [e, val_zero]; exact Nat.dvd_zero _, by rw [e, val_zero]; exact Nat.zero_le _⟩
theorem tame_mid {x : Nat} (h : Tame x) : Mid 822 1274 x ∧ (rung x = 0 ∨ 2 ^ 60 ≤ val (rung x)) := by
  rcases h.2 with e | ⟨e1, e2⟩
  · exact ⟨mid_zero h.1 (tame_fin h) e, Or.inl e⟩
  · obtain ⟨a, b, c⟩ := val_bd (r := rung x) 822 1222 1274 rfl (by omega) (by omega)
    exact ⟨⟨h.1, tame_fin h, a, c⟩, Or.inr (Nat.le_trans (pw_le (by omega)) b)⟩
theorem tame_up {j x : Nat} (hj : j ≤ 20) (h : Tame x) : ∃ r, Sf j x r := by
  rcases h.2 with e | ⟨e1, e2⟩
  · exact ⟨x, h.1, h.1, tame_fin h, tame_fin h, rfl, by rw [e, val_zero, Nat.zero_mul]⟩
  · have hl : rung x + j * 4503599627370496 < 9218868437227405312 := by omega
    obtain ⟨w1, w2⟩ := word_rung (sgn x) (show rung x + j * 4503599627370496 < 9223372036854775808 by omega)
    exact ⟨Ieee.double.word (sgn x) (rung x + j * 4503599627370496), h.1, word_lt64 _ (by omega), tame_fin h, fin_rg (by rw [w1]; exact hl), w2, by rw [w1]; exact val_shift j (by omega)⟩
theorem tame_dn {j x : Nat} (hj : j ≤ 20) (h : Tame x) : ∃ r, Sf j r x ∧ Mid 802 1274 r ∧ (rung r = 0 ∨ 2 ^ 60 ≤ val (rung r)) := by
  rcases h.2 with e | ⟨e1, e2⟩
  · exact ⟨x, ⟨h.1, h.1, tame_fin h, tame_fin h, rfl, by rw [e, val_zero, Nat.zero_mul]⟩, mid_zero h.1 (tame_fin h) e, Or.inl e⟩
  · obtain ⟨y, hy⟩ : ∃ y, rung x = y + j * 4503599627370496 := ⟨rung x - j * 4503599627370496, by omega⟩
    obtain ⟨w1, w2⟩ := word_rung (sgn x) (show y < 9223372036854775808 by omega)
    obtain ⟨a, b, c⟩ := val_bd (r := y) 802 1222 1274 rfl (by omega) (by omega)
    refine ⟨Ieee.double.word (sgn x) y, ⟨word_lt64 _ (by omega), h.1, fin_rg (by rw [w1]; omega), tame_fin h, w2.symm, ?_⟩, ⟨word_lt64 _ (by omega), fin_rg (by rw [w1]; omega), by rw [w1]; exact a, by rw [w1]; exact c⟩, Or.inr (by rw [w1]; exact Nat.le_trans (pw_le (by omega)) b)⟩
    rw [w1, hy]
    exact val_shift j (by omega)
theorem sc_at {t n k r : Nat} {xs rs : List Nat} (h : LN (tab n (scO t xs)) rs) (hk : k < n) (ft : finB t = true) (fx : finB (xs.getD k 0) = true) (hm : floatBits .mul .f64 t (xs.getD k 0) = some r) : rs.getD k 0 = r := by
  have h2 := h.2 k (by rw [tab_len]; exact hk)
  rw [tab_at hk] at h2
  have e : scO t xs k = some r := by
    unfold scO
    rw [toO_fin ft, toO_fin fx]
    exact hm
  rw [e] at h2
  exact h2.2
theorem Sf.word {j s s' : Nat} (h1 : s < 9218868437227405312) (h2 : s' < 9218868437227405312) (h3 : Go.Proofs.Ytbnjjoaippoinaa.val s' = Go.Proofs.Ytbnjjoaippoinaa.val s * 2 ^ j) : Sf j s s' := by
  have r1 : rung s = s := rung_small (by omega)
  have r2 : rung s' = s' := rung_small (by omega)
  exact ⟨by omega, by omega, fin_rg (by omega), fin_rg (by omega), by rw [sgn_small (by omega), sgn_small (by omega)], by rw [r1, r2]; exact h3⟩
/-- t is a power of two, from 2^-20 to 2^20. -/
def PwT (t : Nat) : Prop := ∃ j, j ≤ 20 ∧ (PwU t j ∨ PwD t j)
/-- A list times a power of two: its product with another list, and its norm. -/
theorem even_two {t n : Nat} {xs ys rs : List Nat} (ht : PwT t) (hn : n ≤ 300) (hx : ∀ k, k < n → Tame (xs.getD k 0)) (hy : ∀ k, k < n → Tame (ys.getD k 0)) (h : LN (tab n (scO t xs)) rs) :
    (∃ p r, dtO xs ys n = some p ∧ dtO rs ys n = some r ∧ floatBits .mul .f64 t p = some r) ∧ (∃ p r, nrO xs n = some p ∧ nrO rs n = some r ∧ floatBits .mul .f64 t p = some r) := by
  have hM : ∀ k, k < n → Mid 822 1274 (ys.getD k 0) := fun k hk => (tame_mid (hy k hk)).1
  obtain ⟨j, hj, hU | hD⟩ := ht
  · have h1 : ∀ k, k < n → Sf j (xs.getD k 0) (rs.getD k 0) := fun k hk => by
      obtain ⟨r, hr⟩ := tame_up hj (hx k hk)
      rw [sc_at h hk hU.2.1 (tame_fin (hx k hk)) (mul_up hU hr)]
      exact hr
    obtain ⟨p, r, d1, d2, d3, _, _⟩ := dot_sf (q := 570) (i := 1474) (fun k hk => ⟨h1 k hk, (tame_mid (hx k hk)).1⟩) hM rfl rfl (by omega) (by omega) (by omega) n (Nat.le_refl _)
    obtain ⟨s, u, n1, n2, n3, n4, n5, _, _⟩ := norm_sf (i := 1274) (fun k hk => ⟨h1 k hk, (tame_mid (hx k hk)).2, (tame_mid (hx k hk)).1.2.2.2⟩) (by omega) n (Nat.le_refl _)
    exact ⟨⟨p, r, d1, d2, mul_up hU d3⟩, s, u, n1, n2, mul_up hU (Sf.word n3 n4 n5)⟩
  · have h1 : ∀ k, k < n → Sf j (rs.getD k 0) (xs.getD k 0) ∧ Mid 802 1274 (rs.getD k 0) ∧ (rung (rs.getD k 0) = 0 ∨ 2 ^ 60 ≤ val (rung (rs.getD k 0))) := fun k hk => by
      obtain ⟨r, hr, hr2⟩ := tame_dn hj (hx k hk)
      rw [sc_at h hk hD.2.1 (tame_fin (hx k hk)) (mul_dn hD hr)]
      exact ⟨hr, hr2⟩
    obtain ⟨p, r, d1, d2, d3, _, _⟩ := dot_sf (q := 550) (i := 1474) (fun k hk => ⟨(h1 k hk).1, (h1 k hk).2.1⟩) hM rfl rfl (by omega) (by omega) (by omega) n (Nat.le_refl _)
    obtain ⟨s, u, n1, n2, n3, n4, n5, _, _⟩ := norm_sf (i := 1274) (fun k hk => ⟨(h1 k hk).1, (h1 k hk).2.2, (h1 k hk).2.1.2.2.2⟩) (by omega) n (Nat.le_refl _)
    exact ⟨⟨r, p, d2, d1, mul_dn hD d3⟩, u, s, n2, n1, mul_dn hD (Sf.word n3 n4 n5)⟩
theorem neg_one {x : Nat} (hx : x < 18446744073709551616) (hn : nanB x = false) : floatBits .mul .f64 13830554455654793216 x = some (negW x) := by
  have h := mul_oneW true hx hn
  have hr : rung x ≤ 9218868437227405312 := by unfold nanB at hn; simpa using hn
  rw [show oneW true = 13830554455654793216 from by decide] at h
  rw [h, Bool.true_xor, word_opp _ hr, ← word_of hx]
theorem neg_at {n k : Nat} {xs rs : List Nat} (h : LN (tab n (scO 13830554455654793216 xs)) rs) (hk : k < n) (hx : xs.getD k 0 < 18446744073709551616) (fx : finB (xs.getD k 0) = true) : rs.getD k 0 = negW (xs.getD k 0) :=
  sc_at h hk (by decide) fx (neg_one hx (rung_nan (Nat.le_of_lt (fin_rung fx))))
theorem pl_core {va vb ra rb : Nat} (i1 : va = vb → ra = rb) (z1 : va = 0 → ra = 0) (z2 : vb = 0 → rb = 0) (s t : Bool) (h : (if s then -(va : Int) else (va : Int)) = if t then -(vb : Int) else (vb : Int)) : (if s then -(ra : Int) else (ra : Int)) = if t then -(rb : Int) else (rb : Int) := by
  cases s <;> cases t <;> simp only [if_true, Bool.false_eq_true, if_false] at h ⊢
  · rw [i1 (by omega)]
  · rw [z1 (by omega), z2 (by omega)]; rfl
  · rw [z1 (by omega), z2 (by omega)]; rfl
  · rw [i1 (by omega)]
theorem vI_place {a b : Nat} (h : vI a = vI b) : place a = place b :=
  pl_core (va := val (rung a)) (vb := val (rung b)) val_inj (fun h => val_inj (by rw [h, val_zero])) (fun h => val_inj (by rw [h, val_zero])) _ _ h
/-- A list with its signs turned. -/
theorem even_neg {n : Nat} {xs ys rs : List Nat} (hn : n ≤ 300) (hx : ∀ k, k < n → Tame (xs.getD k 0)) (hy : ∀ k, k < n → Tame (ys.getD k 0)) (h : LN (tab n (scO 13830554455654793216 xs)) rs) :
    ∃ p r, dtO xs ys n = some p ∧ dtO rs ys n = some r ∧ Ng p r := by
  refine dot_ng (q := 570) (i := 1474) (fun k hk => ⟨neg_at h hk (hx k hk).1 (tame_fin (hx k hk)), (tame_mid (hx k hk)).1⟩) (fun k hk => (tame_mid (hy k hk)).1) rfl rfl (by omega) (by omega) (by omega) n (Nat.le_refl _)
theorem none_norm {n : Nat} {xs rs zs : List Nat} (hx : ∀ k, k < n → Tame (xs.getD k 0)) (h : LN (tab n (scO 13830554455654793216 xs)) rs) (hz : LN (tab n (adO xs rs)) zs) : ∀ k, k ≤ n → nrO zs k = some 0 := by
  intro k
  induction k with
  | zero => exact fun _ => rfl
  | succ k ih =>
    intro hk
    have t := hx k (by omega)
    have ft := tame_fin t
    have e := neg_at h (show k < n by omega) t.1 ft
    have g := hz.2 k (by rw [tab_len]; omega)
    rw [tab_at (by omega)] at g
    obtain ⟨r, r1, r2, r3, _⟩ := add_near t.1 (negW_lt t.1) ft ((neg_fin t.1).trans ft)
    have ea : adO xs rs k = some r := by
      unfold adO
      rw [e, toO_fin ft, toO_fin ((neg_fin t.1).trans ft)]
      exact r1
    rw [ea] at g
    have ez : zs.getD k 0 = r := g.2
    have hr := (r3 (by rw [vI_ng t.1]; omega)).1
    show (nrO zs k).bind _ = _
    rw [ih (by omega), ez, hr]
    show adU 0 0 = some 0
    rw [adU_fin (by omega) (by omega), up_zero]
theorem opO_comm (o p : Option Nat) : opO .mul o p = opO .mul p o := by
  cases o with
  | none => cases p <;> rfl
  | some a =>
    cases p with
    | none => rfl
    | some b => exact (bits_comm a b).2
theorem dt_comm (xs ys : List Nat) (k : Nat) : dtO ys xs k = dtO xs ys k := by
  induction k with
  | zero => rfl
  | succ k ih => rw [dtO, dtO, ih, opO_comm]
theorem ax_neg {xs ys : List Nat} (hF : FW xs) {k : Nat} (hk : k < xs.length) : axO 13830554455654793216 xs ys k = sbO ys xs k := by
  have hx := hF.at hk
  unfold axO sbO
  rw [show toO 13830554455654793216 = some 13830554455654793216 from by decide]
  generalize xs.getD k 0 = x at *
  cases hn : nanB x
  · have e : toO x = some x := by unfold toO; rw [hn]; rfl
    have e2 : opO .mul (some 13830554455654793216) (some x) = some (negW x) := neg_one hx hn
    rw [e, e2]
    cases toO (ys.getD k 0) with
    | none => rfl
    | some u =>
      show floatBits .add .f64 (negW x) u = floatBits .sub .f64 u x
      rw [fsub_add hx, (bits_comm u (negW x)).1]
  · have e : toO x = none := by unfold toO; rw [hn]; rfl
    rw [e]
    cases toO (ys.getD k 0) <;> rfl
theorem ax_neg_tab {xs ys : List Nat} (hF : FW xs) : tab xs.length (axO 13830554455654793216 xs ys) = tab xs.length (sbO ys xs) := tab_congr fun _ hk => ax_neg hF hk
end Go.Proofs.Ytbnjjoaippoinaa

namespace Go.Proofs.Ytbnjjoaippoinaa
open Go.RowKit

theorem root_from (n : Nat) : ∀ (t r : Nat), r * r ≤ n → n < (r + 2 ^ t) * (r + 2 ^ t) → Ieee.Datum.rootFrom n t r * Ieee.Datum.rootFrom n t r ≤ n ∧ n < (Ieee.Datum.rootFrom n t r + 1) * (Ieee.Datum.rootFrom n t r + 1)
  | 0, r, h1, h2 => by
    unfold Ieee.Datum.rootFrom
    exact ⟨h1, by simpa using h2⟩
  | t + 1, r, h1, h2 => by
    unfold Ieee.Datum.rootFrom
    simp only [Nat.shiftLeft_eq, Nat.one_mul]
    by_cases h : (r + 2 ^ t) * (r + 2 ^ t) ≤ n
    · rw [if_pos h]
      refine root_from n t _ h ?_
      rw [Nat.add_assoc, show 2 ^ t + 2 ^ t = 2 ^ (t + 1) by rw [Nat.pow_succ]; omega]
      exact h2
    · rw [if_neg h]
      exact root_from n t r h1 (by omega)
theorem root_whole (n : Nat) : Ieee.Datum.rootFrom n (n.log2 / 2 + 1) 0 * Ieee.Datum.rootFrom n (n.log2 / 2 + 1) 0 ≤ n ∧ n < (Ieee.Datum.rootFrom n (n.log2 / 2 + 1) 0 + 1) * (Ieee.Datum.rootFrom n (n.log2 / 2 + 1) 0 + 1) := by
  refine root_from n _ 0 (by simp) ?_
  rw [Nat.zero_add, ← Nat.pow_add]
  exact Nat.lt_of_lt_of_le (Nat.lt_log2_self (n := n)) (Nat.pow_le_pow_right (by omega) (by omega))
def topG : Nat := 1600
theorem far_root : val 7210263003420164096 = 4503599627370496 * 2 ^ topG := by
  unfold val
  rw [if_neg (by omega), show 7210263003420164096 % 4503599627370496 = 0 by decide, show 7210263003420164096 / 4503599627370496 - 1 = topG by decide]
def lowG : Nat := 537
theorem low_root : val 2422936599525326848 = 4503599627370496 * 2 ^ lowG := by
  unfold val
  rw [if_neg (by omega), show 2422936599525326848 % 4503599627370496 = 0 by decide, show 2422936599525326848 / 4503599627370496 - 1 = lowG by decide]
theorem log_bd {m : Nat} (h : m ≠ 0) (h2 : m < 9007199254740992) : m.log2 ≤ 52 := by
  have h1 := Nat.log2_self_le h
  rcases Nat.lt_or_ge m.log2 53 with g | g
  · omega
  · have := Nat.pow_le_pow_right (n := 2) (by omega) g
    have e : (2 : Nat) ^ 53 = 9007199254740992 := by decide
    omega
/-- The root's digits and place. -/
theorem root_told {a q : Nat} (ha : a < 18446744073709551616) (sa : someB a = true) (hs : sgn a = false) (hq : FloatKind.f64.format.sqrt a = some q) :
    ∃ (M : Nat) (p : Int), q = Ieee.double.nearest false M p ∧ 2 ^ 55 ≤ M ∧ M < 2 ^ 57 ∧ -593 ≤ p ∧ p ≤ 485 ∧ (174 ≤ (mg (rung a)).log2 + up (rung a) → -506 ≤ p) := by
  obtain ⟨fa, a0⟩ := some_rung sa
  have a0' : rung a ≠ 0 := by simpa using a0
  have hr := fin_rung fa
  have m1 : mg (rung a) ≠ 0 := by unfold mg; split <;> omega
  have m2 : mg (rung a) < 9007199254740992 := by unfold mg; split <;> omega
  have hu : up (rung a) ≤ 2045 := by unfold up; split <;> omega
  have hl := log_bd m1 m2
  have hq2 : ((Ieee.double.read a).root 54).map Ieee.double.write = some q := hq
  rw [read_fin ha fa, hs] at hq2
  simp only [Ieee.Datum.root] at hq2
  rw [if_neg m1, if_neg (by simp)] at hq2
  simp only [Option.map_some, Ieee.Format.write, Option.some.injEq] at hq2
  obtain ⟨u, hu1⟩ : ∃ u, up (rung a) = u := ⟨_, rfl⟩
  obtain ⟨M, hM⟩ : ∃ M, mg (rung a) = M := ⟨_, rfl⟩
  rw [hu1, hM] at hq2
  rw [hu1] at hu
  rw [hM] at m1 m2 hl
  rw [hu1, hM]
  obtain ⟨more, hmore⟩ : ∃ d, 2 * 54 - M.log2 + ((-1074 + (u : Int) - ((2 * 54 - M.log2 : Nat) : Int)) % 2).toNat = d := ⟨_, rfl⟩
  rw [hmore] at hq2
  have g1 : 108 ≤ M.log2 + more ∧ M.log2 + more ≤ 109 := by omega
  obtain ⟨w, hw⟩ : ∃ w, Ieee.Datum.rootFrom (M <<< more) ((M <<< more).log2 / 2 + 1) 0 = w := ⟨_, rfl⟩
  have hR := root_whole (M <<< more)
  rw [hw] at hq2 hR
  have n1 : 2 ^ 108 ≤ M <<< more := by
    rw [Nat.shiftLeft_eq]
    have h1 := Nat.log2_self_le m1
    have h2 := Nat.mul_le_mul_right (2 ^ more) h1
    rw [← Nat.pow_add] at h2
    exact Nat.le_trans (Nat.pow_le_pow_right (by omega) g1.1) h2
  have n2 : M <<< more < 2 ^ 110 := by
    rw [Nat.shiftLeft_eq]
    have h1 := Nat.lt_log2_self (n := M)
    have h2 := Nat.mul_lt_mul_of_pos_right h1 (Nat.two_pow_pos more)
    rw [← Nat.pow_add] at h2
    exact Nat.lt_of_lt_of_le h2 (Nat.pow_le_pow_right (by omega) (by omega))
  have w1 : 2 ^ 54 ≤ w := by
    rcases Nat.lt_or_ge w (2 ^ 54) with h | h
    · exfalso
      have h2 : (w + 1) * (w + 1) ≤ 2 ^ 54 * 2 ^ 54 := Nat.mul_le_mul h h
      rw [← Nat.pow_add] at h2
      omega
    · exact h
  have w2 : w < 2 ^ 55 := by
    rcases Nat.lt_or_ge w (2 ^ 55) with h | h
    · exact h
    · exfalso
      have h2 : 2 ^ 55 * 2 ^ 55 ≤ w * w := Nat.mul_le_mul h h
      rw [← Nat.pow_add] at h2
      omega
  have hb : (w * w != M <<< more).toNat ≤ 1 := by cases (w * w != M <<< more) <;> simp
  refine ⟨_, _, hq2.symm, ?_, ?_, ?_, ?_, fun h => ?_⟩ <;> omega
theorem root_rung {a q : Nat} (ha : a < 18446744073709551616) (sa : someB a = true) (hs : sgn a = false) (hq : FloatKind.f64.format.sqrt a = some q) :
    finB q = true ∧ rung q ≠ 0 ∧ sgn q = false ∧ (553942754166571008 ≤ rung a → twP ≤ up (rung q) + up (rung q)) := by
  obtain ⟨M, p, e1, M1, M2, p1, p2, p3⟩ := root_told ha sa hs hq
  obtain ⟨k, e, hk, c⟩ := near_anyD false p 0 (m := M) (by omega) (by omega)
  rw [e] at e1
  have hr := word_rung false (show k < 9223372036854775808 by omega)
  rw [← e1] at hr
  obtain ⟨hrk, hsk⟩ := hr
  obtain ⟨P, hP⟩ : ∃ P : Nat, (p + 1074 + ((0 : Nat) : Int)).toNat = P := ⟨_, rfl⟩
  rw [hP] at c
  have k0 : 0 < k := (c 0 (by omega)).2 (by
    left
    rw [show val 0 + val (0 + 1) = 1 by decide]
    have : M * 1 ≤ M * 2 ^ P := Nat.mul_le_mul_left _ (Nat.two_pow_pos P)
    omega)
  have kf : k ≤ 7210263003420164096 := by
    rcases Nat.lt_or_ge 7210263003420164096 k with h | h
    · exfalso
      have h1 := (c 7210263003420164096 (by omega)).1 h
      have h2 : M * 2 ^ P ≤ 2 ^ 57 * 2 ^ P := Nat.mul_le_mul_right _ (by omega)
      have h3 : (2 : Nat) ^ 57 * 2 ^ P ≤ 2 ^ (52 + topG) := by
        rw [← Nat.pow_add]
        exact Nat.pow_le_pow_right (by omega) (by unfold topG; omega)
      rw [Nat.pow_add] at h3
      have hv : val 7210263003420164096 ≤ val (7210263003420164096 + 1) := Nat.le_of_lt (val_step _)
      unfold aboveD at h1
      rw [Nat.pow_zero, Nat.mul_one] at h1
      have ef := far_root
      generalize val 7210263003420164096 = V at *
      generalize val (7210263003420164096 + 1) = V' at *
      generalize (2 : Nat) ^ topG = T at *
      generalize M * 2 ^ P = X at *
      generalize (2 : Nat) ^ 57 * 2 ^ P = Y at *
      have e52 : (2 : Nat) ^ 52 = 4503599627370496 := by decide
      rw [e52] at h3
      rcases h1 with g | ⟨g, _⟩ <;> omega
    · exact h
  have fq : finB q = true := by unfold finB; rw [hrk]; exact decide_eq_true (by omega)
  refine ⟨fq, by omega, hsk, fun h => ?_⟩
  rw [hrk]
  have m1 : mg (rung a) ≠ 0 := by
    unfold mg; split <;> omega
  have hla : 174 ≤ (mg (rung a)).log2 + up (rung a) := by
    have hva : 2 ^ 174 ≤ val (rung a) := by
      rw [← show val 553942754166571008 = 2 ^ 174 by decide]
      rcases Nat.lt_or_ge 553942754166571008 (rung a) with h | h
      · exact Nat.le_of_lt (val_lt h)
      · rw [show rung a = 553942754166571008 by omega]; exact Nat.le_refl _
    rw [← mg_up] at hva
    have h1 := Nat.lt_log2_self (n := mg (rung a))
    have h2 := Nat.mul_lt_mul_of_pos_right h1 (Nat.two_pow_pos (up (rung a)))
    rw [← Nat.pow_add] at h2
    have h3 := Nat.lt_of_le_of_lt hva h2
    have h4 := (Nat.pow_lt_pow_iff_right (by omega : 1 < 2)).1 h3
    omega
  have p4 := p3 hla
  have k1 : 2422936599525326848 ≤ k := by
    rcases Nat.lt_or_ge 2422936599525326847 k with h | h
    · omega
    · exfalso
      refine absurd ((c 2422936599525326847 (by omega)).2 ?_) (by omega)
      left
      have h2 : 2 ^ 55 * 2 ^ P ≤ M * 2 ^ P := Nat.mul_le_mul_right _ (by omega)
      have h3 : (2 : Nat) ^ (53 + lowG) ≤ 2 ^ 55 * 2 ^ P := by
        rw [← Nat.pow_add]
        exact Nat.pow_le_pow_right (by omega) (by unfold lowG; omega)
      rw [Nat.pow_add] at h3
      have hv : val 2422936599525326847 < val (2422936599525326847 + 1) := val_step _
      have ef := low_root
      rw [Nat.pow_zero, Nat.mul_one, show (2422936599525326847 : Nat) + 1 = 2422936599525326848 from rfl]
      rw [show (2422936599525326847 : Nat) + 1 = 2422936599525326848 from rfl] at hv
      have hz : 0 < (2 : Nat) ^ lowG := Nat.two_pow_pos _
      generalize val 2422936599525326847 = V at *
      generalize val 2422936599525326848 = V' at *
      generalize (2 : Nat) ^ lowG = T at *
      generalize M * 2 ^ P = X at *
      generalize (2 : Nat) ^ 55 * 2 ^ P = Y at *
      have e53 : (2 : Nat) ^ 53 = 9007199254740992 := by decide
      rw [e53] at h3
      omega
  have : 537 ≤ up k := by unfold up; split <;> omega
  unfold twP
  omega
/-- The root's nearest float, and on which side of it the exact one lies. -/
def tQ (a : Nat) : Nat := (FloatKind.f64.format.sqrt a).getD 0
def tS (a : Nat) : Int := sgI (exX (negW (tQ a)) (tQ a) a)
theorem root_some {a : Nat} (ha : a < 18446744073709551616) (sa : someB a = true) (hs : sgn a = false) : FloatKind.f64.format.sqrt a = some (tQ a) := by
  obtain ⟨q, hq⟩ := (root_neg ha sa).2 hs
  unfold tQ; rw [hq]; rfl
end Go.Proofs.Ytbnjjoaippoinaa

namespace Go.Proofs.Ytbnjjoaippoinaa
open Go.RowKit

/-- The rung k, or the one next to it, by the way; r: on which side of k the exact size lies. -/
def rgS (k : Nat) (r m : Int) : Nat := if (m = 1 ∨ m = 3) ∧ r < 0 then k - 1 else if m = 2 ∧ 0 < r then k + 1 else k
/-- The size A lies at G k, or between that and the next one on r's side. -/
def Brk (A : Nat) (G : Nat → Nat) (k : Nat) (r : Int) : Prop :=
  k ≤ 9218868437227405312 ∧ (r = 0 → k < 9218868437227405312 ∧ G k = A) ∧ (0 < r → k < 9218868437227405312 ∧ G k < A ∧ (k + 1 < 9218868437227405312 → A < G (k + 1))) ∧ (r < 0 → 0 < k ∧ G (k - 1) < A ∧ (k < 9218868437227405312 → A < G k))
theorem step_word (s : Bool) {k : Nat} {r : Int} {A : Nat} {G : Nat → Nat} (h : Brk A G k r) (m : Int) : stepF (Ieee.double.word s k) (if s then -r else r) m = Ieee.double.word s (rgS k r (if s then tmd m else m)) := by
  obtain ⟨hk, h0, h1, h2⟩ := h
  have g1 : k = 0 → ¬ r < 0 := fun e c => by have := (h2 c).1; omega
  have g2 : k = 9218868437227405312 → ¬ 0 < r := fun e c => by have := (h1 c).1; omega
  cases s
  · simp only [Bool.false_eq_true, if_false]
    rw [word_k _ (by omega)]
    simp only [Bool.false_eq_true, if_false]
    rw [stepF_plus m hk g1 g2, word_k _ (by unfold rgS; split; omega; split <;> omega)]
    rfl
  · simp only [if_true]
    rw [word_k _ (by omega), word_k _ (by unfold rgS; split; omega; split <;> omega)]
    simp only [if_true]
    rw [stepF_less m hk (fun e => by have := g1 e; omega) (fun e => by have := g2 e; omega)]
    congr 1
    unfold rgS
    have e1 : (tmd m = 1 ∨ tmd m = 3) ↔ (m = 2 ∨ m = 3) := by unfold tmd; (repeat' split) <;> omega
    have e2 : tmd m = 2 ↔ m = 1 := by unfold tmd; (repeat' split) <;> omega
    have E1 : ((m = 2 ∨ m = 3) ∧ 0 < -r) ↔ ((tmd m = 1 ∨ tmd m = 3) ∧ r < 0) := by rw [e1]; omega
    have E2 : (m = 1 ∧ -r < 0) ↔ (tmd m = 2 ∧ 0 < r) := by rw [e2]; omega
    simp only [E1, E2]
/-- What is told of an exact number other than 0, by each way. -/
def Told (s : Bool) (A : Nat) (G : Nat → Nat) (f : Int → Nat) : Prop := ∃ k r, Brk A G k r ∧ ∀ m, f m = Ieee.double.word s (rgS k r (if s then tmd m else m))
theorem sgI_zero {x : Int} : sgI x = 0 ↔ x = 0 := by unfold sgI; (repeat' split) <;> omega
theorem sgI_lt {x : Int} : (sgI x < 0 ↔ x < 0) ∧ (0 < sgI x ↔ 0 < x) := by unfold sgI; (repeat' split) <;> omega
theorem near_brk {A k : Nat} (hN : NearK A k) (hA : 0 < A) : Brk A (fun q => val q * 2 ^ kV) k (sdN A k) := by
  have hK := Nat.two_pow_pos kV
  have hk := hN.1
  refine ⟨hk, fun h => ?_, fun h => ?_, fun h => ?_⟩
  · unfold sdN at h
    split at h
    · omega
    · rename_i hi
      refine ⟨by omega, ?_⟩
      have := sgI_zero.1 h
      show val k * 2 ^ kV = A
      omega
  · have hi : k < 9218868437227405312 := by
      rcases Nat.lt_or_ge k 9218868437227405312 with c | c
      · exact c
      · unfold sdN at h; rw [if_pos (by omega)] at h; omega
    have h1 := (sdN_lt hi).2.1 h
    refine ⟨hi, h1, fun _ => ?_⟩
    have h2 := near_up hN hi
    have h3 : val k * 2 ^ kV < val (k + 1) * 2 ^ kV := Nat.mul_lt_mul_of_pos_right (val_step k) hK
    rw [Nat.add_mul] at h2
    show A < val (k + 1) * 2 ^ kV
    omega
  · have k0 : 0 < k := by
      rcases Nat.eq_zero_or_pos k with c | c
      · subst c
        have := (sdN_lt (by omega)).1.1 h
        rw [val_zero, Nat.zero_mul] at this
        omega
      · exact c
    refine ⟨k0, ?_, fun hi => (sdN_lt hi).1.1 h⟩
    have h2 := near_low hN (show k - 1 < k by omega)
    have h3 : val (k - 1) * 2 ^ kV < val k * 2 ^ kV := Nat.mul_lt_mul_of_pos_right (val_lt (by omega)) hK
    rw [Nat.add_mul] at h2
    show val (k - 1) * 2 ^ kV < A
    omega
theorem Brk.scale {A : Nat} {G H : Nat → Nat} {k : Nat} {r : Int} {P B : Nat} (h : Brk A G k r) (hP : 0 < P) (eA : A = B * P) (eG : ∀ q, G q = H q * P) : Brk B H k r := by
  obtain ⟨h0, h1, h2, h3⟩ := h
  subst eA
  refine ⟨h0, fun c => ?_, fun c => ?_, fun c => ?_⟩
  · obtain ⟨a, b⟩ := h1 c
    rw [eG] at b
    exact ⟨a, Nat.eq_of_mul_eq_mul_right hP b⟩
  · obtain ⟨a, b, d⟩ := h2 c
    rw [eG] at b
    refine ⟨a, Nat.lt_of_mul_lt_mul_right b, fun e => ?_⟩
    have := d e
    rw [eG] at this
    exact Nat.lt_of_mul_lt_mul_right this
  · obtain ⟨a, b, d⟩ := h3 c
    rw [eG] at b
    refine ⟨a, Nat.lt_of_mul_lt_mul_right b, fun e => ?_⟩
    have := d e
    rw [eG] at this
    exact Nat.lt_of_mul_lt_mul_right this
theorem fu_told {X : Int} (h0 : X ≠ 0) : Told (decide (X < 0)) X.natAbs (fun q => val q * 2 ^ twP) (fuV X) := by
  have hN := fuK_near h0
  have hA := fu_units h0
  have hB := near_brk hN hA
  refine ⟨fuK X, sdN (X.natAbs * 2 ^ puH) (fuK X), hB.scale (Nat.two_pow_pos puH) rfl (fun q => ?_), fun m => ?_⟩
  · rw [Nat.mul_assoc, ← Nat.pow_add, show twP + puH = kV from rfl]
  · rw [← step_word _ hB m]
    unfold fuV
    congr 1
    unfold sdK sdN
    by_cases c : X < 0 <;> simp only [c, decide_true, decide_false, if_true, Bool.false_eq_true, if_false] <;> split <;> rfl
/-- A number with one digit more that says whether anything is left, against what lies on twice its units, or far below. -/
theorem sticky_low {T u Q s : Nat} (_hu : 0 < u) (hT : 2 * u ∣ T ∨ T < 9007199254740992 * u) (hQ : 9007199254740992 ≤ Q) (hs : s ≤ 1) (h : T < (2 * Q + s) * u) : T ≤ 2 * Q * u ∧ (s = 0 → T < 2 * Q * u) := by
  refine ⟨?_, fun e => by subst e; exact h⟩
  rcases hT with ⟨t, rfl⟩ | hT
  · have e : 2 * u * t = 2 * t * u := by ac_rfl
    rw [e] at h ⊢
    have := Nat.lt_of_mul_lt_mul_right h
    exact Nat.mul_le_mul_right _ (by omega)
  · refine Nat.le_trans (Nat.le_of_lt hT) (Nat.mul_le_mul_right _ (by omega))
theorem sticky_up {T u Q s : Nat} (_hu : 0 < u) (hT : 2 * u ∣ T ∨ T < 9007199254740992 * u) (hQ : 9007199254740992 ≤ Q) (hs : s ≤ 1) (h : (2 * Q + s) * u < T) : (2 * Q + 2 * s) * u ≤ T ∧ (s = 0 → 2 * Q * u < T) := by
  refine ⟨?_, fun e => by subst e; exact h⟩
  rcases hT with ⟨t, rfl⟩ | hT
  · have e : 2 * u * t = 2 * t * u := by ac_rfl
    rw [e] at h ⊢
    have := Nat.lt_of_mul_lt_mul_right h
    exact Nat.mul_le_mul_right _ (by omega)
  · exfalso
    have : 9007199254740992 * u ≤ (2 * Q + s) * u := Nat.mul_le_mul_right _ (by omega)
    omega
theorem val_units (q K C : Nat) : 2 * 2 ^ C ∣ val q * 2 ^ K ∨ val q * 2 ^ K < 9007199254740992 * 2 ^ C := by
  rw [← mg_up, Nat.mul_assoc, ← Nat.pow_add]
  rcases Nat.lt_or_ge C (up q + K) with c | c
  · left
    rw [Nat.mul_comm 2, ← Nat.pow_succ]
    exact Nat.dvd_trans (Nat.pow_dvd_pow 2 c) (Nat.dvd_mul_left _ _)
  · right
    have a1 : mg q * 2 ^ (up q + K) ≤ mg q * 2 ^ C := Nat.mul_le_mul_left _ (pw_le c)
    have a2 : mg q * 2 ^ C < 9007199254740992 * 2 ^ C := Nat.mul_lt_mul_of_pos_right (mg_lt q) (Nat.two_pow_pos C)
    omega
/-- What is nearest lies next to the number with its last digit. -/
theorem near_sides {K W k : Nat} (c : ∀ r, r < 9218868437227405312 → (r < k ↔ aboveD K W r)) (hk : k ≤ 9218868437227405312) : (0 < k → val (k - 1) * 2 ^ K < W) ∧ (k < 9218868437227405312 → W < val (k + 1) * 2 ^ K) := by
  have hK := Nat.two_pow_pos K
  refine ⟨fun h => ?_, fun h => ?_⟩
  · have h1 := (c (k - 1) (by omega)).1 (by omega)
    have h3 : val (k - 1) * 2 ^ K < val (k - 1 + 1) * 2 ^ K := Nat.mul_lt_mul_of_pos_right (val_step _) hK
    unfold aboveD at h1
    rw [Nat.add_mul] at h1
    omega
  · have h1 : ¬ aboveD K W k := fun a => Nat.lt_irrefl k ((c k h).2 a)
    have h3 : val k * 2 ^ K < val (k + 1) * 2 ^ K := Nat.mul_lt_mul_of_pos_right (val_step k) hK
    unfold aboveD at h1
    rw [Nat.add_mul] at h1
    omega
end Go.Proofs.Ytbnjjoaippoinaa

namespace Go.Proofs.Ytbnjjoaippoinaa
open Go.RowKit

theorem exX_sum (x y z : Nat) : exX x y z = vI x * vI y + vI z * 2 ^ twP := exX_un (L := twP) rfl
theorem vI_word (s : Bool) {k : Nat} (hk : k ≤ 9218868437227405312) : vI (Ieee.double.word s k) = if s then -(val k : Int) else (val k : Int) := by
  obtain ⟨h1, h2⟩ := word_rung s (show k < 9223372036854775808 by omega)
  unfold vI
  rw [h1, h2]
theorem fin_word (s : Bool) {k : Nat} (hk : k ≤ 9218868437227405312) : finB (Ieee.double.word s k) = decide (k < 9218868437227405312) := by
  unfold finB
  rw [(word_rung s (show k < 9223372036854775808 by omega)).1]
theorem quo_sides {N n Q R T u : Nat} (hn : 0 < n) (hu : 0 < u) (hN : N = n * Q + R) (hR : R < n) (hQ : 9007199254740992 ≤ Q) (hT : 2 * u ∣ T ∨ T < 9007199254740992 * u) :
    (T < (2 * Q + (R != 0).toNat) * u → T * n < 2 * N * u) ∧ ((2 * Q + (R != 0).toNat) * u < T → 2 * N * u < T * n) := by
  have hs : (R != 0).toNat ≤ 1 := by cases (R != 0) <;> simp
  have hnu : 0 < n * u := Nat.mul_pos hn hu
  refine ⟨fun h => ?_, fun h => ?_⟩
  · obtain ⟨h1, h2⟩ := sticky_low hu hT hQ hs h
    by_cases c : R = 0
    · subst c
      have h3 := Nat.mul_lt_mul_of_pos_right (h2 rfl) hn
      rw [hN, Nat.add_zero, show 2 * (n * Q) * u = 2 * Q * u * n by ac_rfl]
      exact h3
    · have h3 := Nat.mul_le_mul_right n h1
      refine Nat.lt_of_le_of_lt h3 ?_
      rw [hN, show 2 * Q * u * n = 2 * (n * Q) * u by ac_rfl]
      exact Nat.mul_lt_mul_of_pos_right (by omega) hu
  · obtain ⟨h1, h2⟩ := sticky_up hu hT hQ hs h
    by_cases c : R = 0
    · subst c
      have h3 := Nat.mul_lt_mul_of_pos_right (h2 rfl) hn
      rw [hN, Nat.add_zero, show 2 * (n * Q) * u = 2 * Q * u * n by ac_rfl]
      exact h3
    · have e : (R != 0).toNat = 1 := by simp [c]
      rw [e] at h1
      have h3 := Nat.mul_le_mul_right n h1
      refine Nat.lt_of_lt_of_le ?_ h3
      rw [show (2 * Q + 2 * 1) * u * n = (2 * (n * Q) + 2 * n) * u by rw [Nat.add_mul, Nat.add_mul, Nat.add_mul]; congr 1 <;> ac_rfl, hN]
      exact Nat.mul_lt_mul_of_pos_right (by omega) hu
theorem side_brk {A : Nat} {G : Nat → Nat} {k : Nat} (hk : k ≤ 9218868437227405312) (hA : 0 < A) (h0 : G 0 = 0) (h1 : 0 < k → G (k - 1) < A) (h2 : k < 9218868437227405312 → A < G (k + 1)) : Brk A G k (if k = 9218868437227405312 then -1 else sgI ((A : Int) - (G k : Int))) := by
  refine ⟨hk, fun h => ?_, fun h => ?_, fun h => ?_⟩
  · split at h
    · omega
    · rename_i hi
      have := sgI_zero.1 h
      exact ⟨by omega, by omega⟩
  · split at h
    · omega
    · rename_i hi
      have := sgI_lt.2.1 h
      exact ⟨by omega, by omega, fun _ => h2 (by omega)⟩
  · have k0 : 0 < k := by
      rcases Nat.eq_zero_or_pos k with c | c
      · subst c
        rw [if_neg (by omega)] at h
        have := sgI_lt.1.1 h
        rw [h0] at this
        omega
      · exact c
    refine ⟨k0, h1 k0, fun hi => ?_⟩
    rw [if_neg (by omega)] at h
    have := sgI_lt.1.1 h
    omega
theorem val_ne {a : Nat} (sa : someB a = true) : 0 < val (rung a) := by
  have a0 : rung a ≠ 0 := by simpa using (some_rung sa).2
  have := val_lt (Nat.pos_of_ne_zero a0)
  omega
theorem kS_core (v k b P : Int) (sa sb : Bool) : (if sb = true then -sgI (-(if (sa ^^ sb) = true then -k else k) * (if sb = true then -b else b) + (if sa = true then -v else v) * P) else sgI (-(if (sa ^^ sb) = true then -k else k) * (if sb = true then -b else b) + (if sa = true then -v else v) * P)) = if (sa ^^ sb) = true then -sgI (v * P - k * b) else sgI (v * P - k * b) := by
  cases sa <;> cases sb <;> simp only [Bool.xor_false, Bool.xor_true, Bool.not_false, Bool.not_true, Bool.false_eq_true, if_false, if_true, Int.neg_neg]
  · congr 1; rw [Int.neg_mul]; omega
  · congr 2; rw [Int.mul_neg]; omega
  · rw [sgI_opp]; congr 1; rw [Int.neg_mul]; omega
  · rw [sgI_opp]; congr 1; rw [Int.neg_mul, Int.neg_mul, Int.mul_neg]; omega
theorem div_told {a b : Nat} (ha : a < 18446744073709551616) (hb : b < 18446744073709551616) (sa : someB a = true) (sb : someB b = true) : Told (sgn a ^^ sgn b) (val (rung a) * 2 ^ twP) (fun q => val q * val (rung b)) (fun m => stepF (kQ a b) (kS a b) m) := by
  obtain ⟨fa, a0⟩ := some_rung sa
  obtain ⟨fb, b0⟩ := some_rung sb
  have a0' : rung a ≠ 0 := by simpa using a0
  have b0' : rung b ≠ 0 := by simpa using b0
  have m1 : mg (rung a) ≠ 0 := mg_ne a0'
  have m2 : mg (rung b) ≠ 0 := mg_ne b0'
  have hq : floatBits .quo .f64 a b = some (kQ a b) := by
    obtain ⟨q, hq⟩ : ∃ q, floatBits .quo .f64 a b = some q := by
      rw [(fbits_map a b).2.2.2, read_fin ha fa, read_fin hb fb]
      simp only [Ieee.Datum.quotient]
      rw [if_neg m2]
      exact ⟨_, rfl⟩
    unfold kQ; rw [hq]; rfl
  rw [(fbits_map a b).2.2.2, read_fin ha fa, read_fin hb fb] at hq
  simp only [Ieee.Datum.quotient] at hq
  rw [if_neg m2] at hq
  simp only [Option.map_some, Ieee.Format.write, Option.some.injEq] at hq
  obtain ⟨more, hmore⟩ : ∃ d, 54 + (mg (rung b)).log2 - (mg (rung a)).log2 = d := ⟨_, rfl⟩
  rw [hmore] at hq
  have l1 := log_bd m1 (mg_lt _)
  have hQ : 9007199254740992 ≤ mg (rung a) <<< more / mg (rung b) := by
    rw [Nat.le_div_iff_mul_le (Nat.pos_of_ne_zero m2), Nat.shiftLeft_eq]
    have e1 : 2 ^ (mg (rung a)).log2 * 2 ^ more ≤ mg (rung a) * 2 ^ more := Nat.mul_le_mul_right _ (Nat.log2_self_le m1)
    have e2 : 9007199254740992 * mg (rung b) ≤ 9007199254740992 * 2 ^ ((mg (rung b)).log2 + 1) := Nat.mul_le_mul_left _ (Nat.le_of_lt Nat.lt_log2_self)
    have e3 : 9007199254740992 * 2 ^ ((mg (rung b)).log2 + 1) = 2 ^ (mg (rung a)).log2 * 2 ^ more := by
      rw [show (9007199254740992 : Nat) = 2 ^ 53 by decide, ← Nat.pow_add, ← Nat.pow_add]
      congr 1
      omega
    omega
  obtain ⟨k, e, hk, c⟩ := near_anyD (sgn a ^^ sgn b) (-1074 + ((up (rung a) : Nat) : Int) - (-1074 + ((up (rung b) : Nat) : Int)) - (more : Int) - 1) (up (rung b) + more + 1) (m := 2 * (mg (rung a) <<< more / mg (rung b)) + (mg (rung a) <<< more % mg (rung b) != 0).toNat) (by omega) (by omega)
  have hexp : (-1074 + ((up (rung a) : Nat) : Int) - (-1074 + ((up (rung b) : Nat) : Int)) - (more : Int) - 1 + 1074 + ((up (rung b) + more + 1 : Nat) : Int)).toNat = up (rung a) + twP := by unfold twP; omega
  rw [hexp] at c
  rw [e] at hq
  have hn := Nat.pos_of_ne_zero m2
  have hu := Nat.two_pow_pos (up (rung a) + twP)
  obtain ⟨s1, s2⟩ := near_sides c hk
  have key := fun T hT => quo_sides (T := T) hn hu (Nat.div_add_mod (mg (rung a) <<< more) (mg (rung b))).symm (Nat.mod_lt _ hn) hQ hT
  have eT : ∀ q, val q * 2 ^ (up (rung b) + more + 1) * mg (rung b) = val q * val (rung b) * 2 ^ (more + 1) := fun q => by
    rw [← mg_up (rung b), show up (rung b) + more + 1 = up (rung b) + (more + 1) by omega, Nat.pow_add]
    generalize val q = V
    generalize 2 ^ up (rung b) = U
    generalize (2 : Nat) ^ (more + 1) = W
    generalize mg (rung b) = B
    ac_rfl
  have eN : 2 * (mg (rung a) <<< more) * 2 ^ (up (rung a) + twP) = val (rung a) * 2 ^ twP * 2 ^ (more + 1) := by
    rw [Nat.shiftLeft_eq, ← mg_up (rung a), Nat.pow_add 2 (up (rung a)), Nat.pow_succ]
    generalize mg (rung a) = A
    generalize 2 ^ up (rung a) = U
    generalize (2 : Nat) ^ twP = W
    generalize (2 : Nat) ^ more = Z
    ac_rfl
  have hB := side_brk (A := val (rung a) * 2 ^ twP) (G := fun q => val q * val (rung b)) hk (Nat.mul_pos (val_ne sa) (Nat.two_pow_pos _)) (by show val 0 * _ = 0; rw [val_zero, Nat.zero_mul])
    (fun h => by
      have h3 := (key _ (val_units (k - 1) _ _)).1 (s1 h)
      rw [eT, eN] at h3
      exact Nat.lt_of_mul_lt_mul_right h3)
    (fun h => by
      have h3 := (key _ (val_units (k + 1) _ _)).2 (s2 h)
      rw [eT, eN] at h3
      exact Nat.lt_of_mul_lt_mul_right h3)
  refine ⟨k, _, hB, fun m => ?_⟩
  rw [← step_word _ hB m, hq]
  show stepF (kQ a b) (kS a b) m = _
  suffices hsf : kS a b = if (sgn a ^^ sgn b) = true then -(if k = 9218868437227405312 then -1 else sgI (((val (rung a) * 2 ^ twP : Nat) : Int) - ((val k * val (rung b) : Nat) : Int))) else (if k = 9218868437227405312 then -1 else sgI (((val (rung a) * 2 ^ twP : Nat) : Int) - ((val k * val (rung b) : Nat) : Int))) by rw [hsf]
  clear hB
  unfold kS
  rw [← hq, fin_word _ hk]
  by_cases hi : k = 9218868437227405312
  · rw [decide_eq_false (by omega), if_pos hi, (word_rung _ (show k < 9223372036854775808 by omega)).2]
    simp only [Bool.false_eq_true, if_false]
    cases (sgn a ^^ sgn b) <;> rfl
  · rw [decide_eq_true (by omega), if_neg hi, exX_sum, vI_ng (word_lt64 _ (by omega)), vI_word _ hk]
    simp only [if_true]
    have pw : ((2 ^ twP : Nat) : Int) = (2 : Int) ^ twP := pw_cast twP
    have cA : ((val (rung a) * 2 ^ twP : Nat) : Int) = (val (rung a) : Int) * 2 ^ twP := by rw [← pw]; exact Int.natCast_mul _ _
    rw [cA, Int.natCast_mul]
    unfold vI
    exact kS_core _ _ _ _ _ _
end Go.Proofs.Ytbnjjoaippoinaa

namespace Go.Proofs.Ytbnjjoaippoinaa
open Go.RowKit

theorem zero_le {a : Nat} (ha : a < 18446744073709551616) (fa : finB a = true) : (FloatKind.f64.format.order a 0 == some .lt || FloatKind.f64.format.order a 0 == some .eq) = (sgn a || rung a == 0) := by
  have hr := fin_rung fa
  rw [zero_lt ha, zero_eq ha]
  unfold nanB place
  rw [decide_eq_false (by omega)]
  cases sgn a <;> simp <;> omega
end Go.Proofs.Ytbnjjoaippoinaa
