/- Exact numbers, 0 too, rounded: the place never falls; the ways in their order: no program in this text. -/
import Derived.Test.YtlhoidkfphellaaDoorY4
import Derived.Test.YtlhoidkfphellaaDoorZ10
namespace Go.Proofs.YtlhoidkfphellaaDoor
open Go.RowKit

def addO (a b : Nat) (m : Int) : Option Nat := if finB a && finB b then some (addV a b m) else floatBits .add .f64 a b
def mulO (a b : Nat) (m : Int) : Option Nat := if someB a && someB b then some (stepF (pQ a b) (pS a b) m) else floatBits .mul .f64 a b
def divO (a b : Nat) (m : Int) : Option Nat := if someB a && someB b then some (stepF (kQ a b) (kS a b) m) else floatBits .quo .f64 a b
theorem nearest_opp (s : Bool) (m : Nat) (p : Int) : Ieee.double.nearest (!s) m p = negW (Ieee.double.nearest s m p) := by
  by_cases hm : m = 0
  · have e : ∀ t, Ieee.double.nearest t m p = Ieee.double.word t 0 := fun t => by rw [hm]; rfl
    rw [e, e]
    exact word_opp s (by omega)
  · obtain ⟨K, hK⟩ : ∃ K : Nat, 0 ≤ p + 1074 + (K : Int) := ⟨(-(p + 1074)).toNat, by omega⟩
    obtain ⟨k, e1, hk, c1⟩ := near_anyD s p K hm hK
    obtain ⟨j, e2, hj, c2⟩ := near_anyD (!s) p K hm hK
    have ek : j = k := by
      rcases Nat.lt_trichotomy j k with c | c | c
      · exfalso
        have := (c2 j (by omega)).2 ((c1 j (by omega)).1 c)
        omega
      · exact c
      · exfalso
        have := (c1 k (by omega)).2 ((c2 k (by omega)).1 c)
        omega
    rw [e1, e2, ek]
    exact word_opp s hk
theorem write_opp {d : Ieee.Datum} (h : d.isNaN = false) : Ieee.double.write d.opposite = negW (Ieee.double.write d) := by
  cases d with
  | number s m p => exact nearest_opp s m p
  | infinity s => exact word_opp s (Nat.le_refl _)
  | nan s t => cases h
theorem map_opp {o : Option Ieee.Datum} (h : ∀ d, o = some d → d.isNaN = false) : (o.map Ieee.Datum.opposite).map Ieee.double.write = (o.map Ieee.double.write).map negW := by
  cases o with
  | none => rfl
  | some d => simp only [Option.map_some]; rw [write_opp (h d rfl)]
theorem prod_opp (x y : Ieee.Datum) : x.opposite.product y = (x.product y).map Ieee.Datum.opposite := by
  cases x with
  | nan s t => rfl
  | infinity s =>
    cases y with
    | nan u v => rfl
    | infinity u => cases s <;> cases u <;> rfl
    | number u n j =>
      show (if n = 0 then none else some (Ieee.Datum.infinity ((!s) ^^ u))) = (if n = 0 then none else some (Ieee.Datum.infinity (s ^^ u))).map Ieee.Datum.opposite
      by_cases h : n = 0
      · rw [if_pos h, if_pos h]; rfl
      · rw [if_neg h, if_neg h]; cases s <;> cases u <;> rfl
  | number s m i =>
    cases y with
    | nan u v => rfl
    | infinity u =>
      show (if m = 0 then none else some (Ieee.Datum.infinity (u ^^ (!s)))) = (if m = 0 then none else some (Ieee.Datum.infinity (u ^^ s))).map Ieee.Datum.opposite
      by_cases h : m = 0
      · rw [if_pos h, if_pos h]; rfl
      · rw [if_neg h, if_neg h]; cases s <;> cases u <;> rfl
    | number u n j => cases s <;> cases u <;> rfl
theorem prod_comm (x y : Ieee.Datum) : x.product y = y.product x := by
  cases x with
  | nan s t => cases y <;> rfl
  | infinity s =>
    cases y with
    | nan u v => rfl
    | infinity u => cases s <;> cases u <;> rfl
    | number u n j => rfl
  | number s m i =>
    cases y with
    | nan u v => rfl
    | infinity u => rfl
    | number u n j =>
      simp only [Ieee.Datum.product]
      rw [Nat.mul_comm, Int.add_comm i, Bool.xor_comm]
theorem quot_opp (n : Nat) (x y : Ieee.Datum) : x.quotient n y.opposite = (x.quotient n y).map Ieee.Datum.opposite := by
  cases x with
  | nan s t => cases y <;> rfl
  | infinity s =>
    cases y with
    | nan u v => rfl
    | infinity u => rfl
    | number u k j => cases s <;> cases u <;> rfl
  | number s m i =>
    cases y with
    | nan u v => rfl
    | infinity u => cases s <;> cases u <;> rfl
    | number u k j =>
      simp only [Ieee.Datum.quotient, Ieee.Datum.opposite]
      by_cases h : k = 0
      · rw [if_pos h, if_pos h]
        by_cases g : m = 0
        · rw [if_pos g, if_pos g]; rfl
        · rw [if_neg g, if_neg g]; cases s <;> cases u <;> rfl
      · rw [if_neg h, if_neg h]; cases s <;> cases u <;> rfl
theorem dsum_comm (x y : Ieee.Datum) : x.sum y = y.sum x := by
  cases x with
  | nan s t => cases y <;> rfl
  | infinity s =>
    cases y with
    | nan u v => rfl
    | infinity u => cases s <;> cases u <;> rfl
    | number u n j => rfl
  | number s m i =>
    cases y with
    | nan u v => rfl
    | infinity u => rfl
    | number u n j =>
      simp only [Ieee.Datum.sum]
      rw [Int.min_comm i j, Int.add_comm (Ieee.signed s m _), Bool.and_comm s u]
theorem bits_comm (a b : Nat) : floatBits .add .f64 a b = floatBits .add .f64 b a ∧ floatBits .mul .f64 a b = floatBits .mul .f64 b a := by
  rw [(fbits_map a b).1, (fbits_map b a).1, (fbits_map a b).2.2.1, (fbits_map b a).2.2.1, dsum_comm, prod_comm]
  exact ⟨rfl, rfl⟩
theorem mul_opp {a : Nat} (b : Nat) (ha : a < 18446744073709551616) : floatBits .mul .f64 (negW a) b = (floatBits .mul .f64 a b).map negW := by
  rw [(fbits_map (negW a) b).2.2.1, (fbits_map a b).2.2.1, neg_read ha, prod_opp]
  exact map_opp fun d h => prod_nan h
theorem quo_opp (a : Nat) {b : Nat} (hb : b < 18446744073709551616) : floatBits .quo .f64 a (negW b) = (floatBits .quo .f64 a b).map negW := by
  rw [(fbits_map a (negW b)).2.2.2, (fbits_map a b).2.2.2, neg_read hb, quot_opp]
  exact map_opp fun d h => quot_nan h
theorem not_fin {a : Nat} (ha : a < 18446744073709551616) (h : finB a = false) : (∃ s, Ieee.double.read a = .infinity s) ∨ (∃ s t, Ieee.double.read a = .nan s t) := by
  have hr : ¬ rung a < 9218868437227405312 := by unfold finB at h; simpa using h
  rw [read_eq a ha, if_neg hr]
  split
  · exact Or.inl ⟨_, rfl⟩
  · exact Or.inr ⟨_, _, rfl⟩
theorem dsum_opp {x y : Ieee.Datum} (h : (∃ s, x = .infinity s) ∨ (∃ s t, x = .nan s t)) : x.opposite.sum y.opposite = (x.sum y).map Ieee.Datum.opposite := by
  rcases h with ⟨s, rfl⟩ | ⟨s, t, rfl⟩
  · cases y with
    | nan u v => rfl
    | infinity u => cases s <;> cases u <;> rfl
    | number u n j => rfl
  · rfl
theorem add_opp {a b : Nat} (ha : a < 18446744073709551616) (hb : b < 18446744073709551616) (h : (finB a && finB b) = false) : floatBits .add .f64 (negW a) (negW b) = (floatBits .add .f64 a b).map negW := by
  rw [(fbits_map (negW a) (negW b)).1, (fbits_map a b).1, neg_read ha, neg_read hb]
  have e : (Ieee.double.read a).opposite.sum (Ieee.double.read b).opposite = ((Ieee.double.read a).sum (Ieee.double.read b)).map Ieee.Datum.opposite := by
    cases fa : finB a
    · exact dsum_opp (not_fin ha fa)
    · cases fb : finB b
      · rw [dsum_comm, dsum_comm (Ieee.double.read a)]; exact dsum_opp (not_fin hb fb)
      · rw [fa, fb] at h; cases h
  rw [e]
  exact map_opp fun d h => sum_nan h
theorem add_nought {a b : Nat} (m : Int) (ha : a < 18446744073709551616) (hb : b < 18446744073709551616) (fa : finB a = true) (fb : finB b = true) (h0 : vI a + vI b = 0) : addV a b m = noughtF a b m ∧ (sgn a = sgn b → rung a = 0 ∧ rung b = 0) := by
  obtain ⟨p1, _, _, _, _, _, p7⟩ := sum_parts ha hb fa fb
  obtain ⟨n, n1, n2⟩ := add_fl ha hb fa fb rfl (by rw [h0]; exact Nat.zero_le _)
  rw [p1] at n1
  rw [← Option.some.inj n1, h0] at n2
  have e0 := nst_self rep_zero n2.2.2.1
  have hz : rung (sumN a b) = 0 := by
    rcases Nat.eq_zero_or_pos (rung (sumN a b)) with g | g
    · exact g
    · exact absurd e0 (vI_sign (by omega)).1
  refine ⟨?_, p7 hz⟩
  unfold addV addM
  rw [hz]
  rfl
theorem addO_comm {a b : Nat} (m : Int) (ha : a < 18446744073709551616) (hb : b < 18446744073709551616) : addO b a m = addO a b m := by
  unfold addO
  rw [Bool.and_comm, (bits_comm b a).1]
  cases h : (finB a && finB b)
  · rfl
  · have fa : finB a = true := by revert h; cases finB a <;> simp
    have fb : finB b = true := by revert h; cases finB b <;> simp
    simp only [if_true]
    congr 1
    by_cases h0 : vI a + vI b = 0
    · obtain ⟨e1, e2⟩ := add_nought m ha hb fa fb h0
      obtain ⟨e3, _⟩ := add_nought m hb ha fb fa (by rw [Int.add_comm]; exact h0)
      rw [e1, e3]
      unfold noughtF
      by_cases hs : sgn a = sgn b
      · obtain ⟨z1, z2⟩ := e2 hs
        have w1 := rung_of a ha
        have w2 := rung_of b hb
        have : a = b := by rw [w1, w2, z1, z2, hs]
        rw [this]
      · have e4 : (sgn a == sgn b) = false := by simpa using hs
        have e5 : (sgn b == sgn a) = false := by simpa using fun h => hs h.symm
        rw [e4, e5]
        simp only [Bool.false_eq_true, if_false]
    · rw [add_fu m ha hb fa fb h0, add_fu m hb ha fb fa (by rw [Int.add_comm]; exact h0), Int.add_comm]
theorem mulO_comm {a b : Nat} (m : Int) (ha : a < 18446744073709551616) (hb : b < 18446744073709551616) : mulO b a m = mulO a b m := by
  unfold mulO
  rw [Bool.and_comm, (bits_comm b a).2]
  cases h : (someB a && someB b)
  · rfl
  · have sa : someB a = true := by revert h; cases someB a <;> simp
    have sb : someB b = true := by revert h; cases someB b <;> simp
    simp only [if_true]
    rw [mul_fu m ha hb sa sb, mul_fu m hb ha sb sa, Int.mul_comm]
theorem fuO_comm {a b : Nat} (c : Nat) (m : Int) : fuO b a c m = fuO a b c m := by
  have eX : exX b a c = exX a b c := by unfold exX; rw [Int.mul_comm]
  have e1 : (rung b == 0 || rung a == 0) = (rung a == 0 || rung b == 0) := Bool.or_comm _ _
  have e2 : (sgn b != sgn a) = (sgn a != sgn b) := by cases sgn a <;> cases sgn b <;> rfl
  unfold fuO fuI fuW
  rw [Bool.and_comm, (bits_comm b a).2, eX, e1, e2]
theorem some_neg {a : Nat} (ha : a < 18446744073709551616) : someB (negW a) = someB a := by
  unfold someB
  rw [neg_fin ha, (neg_rung ha).1]
theorem mulO_turn {a b : Nat} (m : Int) (ha : a < 18446744073709551616) (hb : b < 18446744073709551616) : mulO (negW a) b (tmd m) = (mulO a b m).map negW := by
  unfold mulO
  rw [some_neg ha, mul_opp b ha]
  cases h : (someB a && someB b)
  · rfl
  · have sa : someB a = true := by revert h; cases someB a <;> simp
    have sb : someB b = true := by revert h; cases someB b <;> simp
    have a0 : rung a ≠ 0 := by simpa using (some_rung sa).2
    have b0 : rung b ≠ 0 := by simpa using (some_rung sb).2
    simp only [if_true, Option.map_some]
    rw [mul_fu m ha hb sa sb, mul_fu (tmd m) (negW_lt ha) hb ((some_neg ha).trans sa) sb, vI_ng ha, Int.neg_mul, fuV_turn m (mul_sign (vI_sign a0).1 (vI_sign b0).1).1]
theorem divO_turn {a b : Nat} (m : Int) (ha : a < 18446744073709551616) (hb : b < 18446744073709551616) : divO a (negW b) (tmd m) = (divO a b m).map negW := by
  unfold divO
  rw [some_neg hb, quo_opp a hb]
  cases h : (someB a && someB b)
  · rfl
  · have sa : someB a = true := by revert h; cases someB a <;> simp
    have sb : someB b = true := by revert h; cases someB b <;> simp
    have b0 : rung b ≠ 0 := by simpa using (some_rung sb).2
    have m0 : mg (rung b) ≠ 0 := by unfold mg; split <;> omega
    obtain ⟨q, hq⟩ : ∃ q, floatBits .quo .f64 a b = some q := by
      rw [(fbits_map a b).2.2.2, read_fin ha (some_rung sa).1, read_fin hb (some_rung sb).1]
      simp only [Ieee.Datum.quotient]
      rw [if_neg m0]
      exact ⟨_, rfl⟩
    have eq : kQ a b = q := by unfold kQ; rw [hq]; rfl
    have eq2 : kQ a (negW b) = negW q := by unfold kQ; rw [quo_opp a hb, hq]; rfl
    obtain ⟨q1, q2⟩ := op_word (op := .quo) (Or.inr (Or.inr (Or.inr rfl))) hq
    have eS : kS a (negW b) = -kS a b := by
      unfold kS
      rw [eq, eq2, neg_fin q1, (neg_rung hb).2, (neg_rung q1).2]
      have eX : exX (negW (negW q)) (negW b) a = exX (negW q) b a := by
        unfold exX
        rw [vI_ng (negW_lt q1), vI_ng q1, vI_ng hb, Int.neg_neg, Int.neg_mul, Int.mul_neg]
      rw [eX]
      cases finB q <;> cases sgn b <;> cases sgn q <;> simp
    simp only [if_true, Option.map_some]
    rw [eS, eq2, eq, stepF_turn _ m q1 (rung_nan q2)]
/-- Noughts of both signs. -/
def NoughtB (o : Option Nat) : Prop := o = some 0 ∨ o = some 9223372036854775808
theorem nought_is {a : Nat} (ha : a < 18446744073709551616) (h : rung a = 0) : NoughtB (some a) := by
  have e := rung_of a ha
  rw [h] at e
  cases hs : sgn a <;> rw [hs] at e
  · left; rw [e]; rfl
  · right; rw [e]; rfl
theorem noughtF_is {a b : Nat} (m : Int) (ha : a < 18446744073709551616) (h : sgn a = sgn b → rung a = 0 ∧ rung b = 0) : NoughtB (some (noughtF a b m)) := by
  unfold noughtF
  by_cases hs : sgn a = sgn b
  · rw [if_pos (by simpa using hs)]; exact nought_is ha (h hs).1
  · rw [if_neg (by simpa using hs)]
    by_cases hm : (m == 1) = true
    · rw [if_pos hm]; exact Or.inr rfl
    · rw [if_neg hm]; exact Or.inl rfl
theorem tmd_one (m : Int) : (tmd m == 1) = (m == 2) ∧ ((m = 1 ∨ m = 2) → (m == 1) = !(m == 2)) := by
  unfold tmd
  refine ⟨?_, fun h => by rcases h with rfl | rfl <;> rfl⟩
  by_cases h1 : m = 1
  · subst h1; rfl
  · by_cases h2 : m = 2
    · subst h2; rfl
    · rw [if_neg h1, if_neg h2]
      have e1 : (m == 1) = false := by simpa using h1
      have e2 : (m == 2) = false := by simpa using h2
      rw [e1, e2]
theorem addO_turn {a b : Nat} (m : Int) (ha : a < 18446744073709551616) (hb : b < 18446744073709551616) : (addO (negW a) (negW b) (tmd m) = (addO a b m).map negW ∨ (NoughtB (addO a b m) ∧ NoughtB (addO (negW a) (negW b) (tmd m)))) ∧ ((m = 1 ∨ m = 2) → addO (negW a) (negW b) (tmd m) = (addO a b m).map negW) := by
  unfold addO
  rw [neg_fin ha, neg_fin hb]
  cases h : (finB a && finB b)
  · simp only [Bool.false_eq_true, if_false]
    exact ⟨Or.inl (add_opp ha hb h), fun _ => add_opp ha hb h⟩
  · have fa : finB a = true := by revert h; cases finB a <;> simp
    have fb : finB b = true := by revert h; cases finB b <;> simp
    have fa' := (neg_fin ha).trans fa
    have fb' := (neg_fin hb).trans fb
    simp only [if_true, Option.map_some]
    by_cases h0 : vI a + vI b = 0
    · obtain ⟨e1, e2⟩ := add_nought m ha hb fa fb h0
      obtain ⟨e3, e4⟩ := add_nought (tmd m) (negW_lt ha) (negW_lt hb) fa' fb' (by rw [vI_ng ha, vI_ng hb]; omega)
      rw [e1, e3]
      refine ⟨Or.inr ⟨noughtF_is m ha e2, noughtF_is (tmd m) (negW_lt ha) e4⟩, fun hm => ?_⟩
      congr 1
      unfold noughtF
      rw [(neg_rung ha).2, (neg_rung hb).2, (tmd_one m).1, (tmd_one m).2 hm]
      cases sgn a <;> cases sgn b <;> cases (m == 2) <;> simp <;> first | rfl | kernel_rfl
    · have h1 : vI (negW a) + vI (negW b) ≠ 0 := by rw [vI_ng ha, vI_ng hb]; omega
      have hX0 : (vI a + vI b) * 2 ^ twP ≠ 0 := fun h => h0 (neg_pw.2.1 h)
      have e : addV (negW a) (negW b) (tmd m) = negW (addV a b m) := by
        rw [add_fu m ha hb fa fb h0, add_fu (tmd m) (negW_lt ha) (negW_lt hb) fa' fb' h1, ← fuV_turn m hX0, vI_ng ha, vI_ng hb, ← Int.neg_add, Int.neg_mul]
      rw [e]
      exact ⟨Or.inl rfl, fun _ => rfl⟩
theorem fuO_turn {a b c : Nat} (m : Int) (ha : a < 18446744073709551616) (hb : b < 18446744073709551616) (hc : c < 18446744073709551616) : (fuO (negW a) b (negW c) (tmd m) = (fuO a b c m).map negW ∨ (NoughtB (fuO a b c m) ∧ NoughtB (fuO (negW a) b (negW c) (tmd m)))) ∧ ((m = 1 ∨ m = 2) → fuO (negW a) b (negW c) (tmd m) = (fuO a b c m).map negW) := by
  unfold fuO
  rw [neg_fin ha, neg_fin hc]
  cases h : (finB a && finB b)
  · simp only [Bool.false_eq_true, if_false]
    suffices e : fuI (negW a) b (negW c) = (fuI a b c).map negW from ⟨Or.inl e, fun _ => e⟩
    unfold fuI
    rw [mul_opp b ha]
    cases hm : floatBits .mul .f64 a b with
    | none => rfl
    | some p =>
      obtain ⟨q1, q2⟩ := op_word (op := .mul) (Or.inr (Or.inr (Or.inl rfl))) hm
      have fp : finB p = false := by
        rw [(fbits_map a b).2.2.1] at hm
        cases hx : (Ieee.double.read a).product (Ieee.double.read b) with
        | none => rw [hx] at hm; cases hm
        | some d =>
          rw [hx] at hm
          have hi : ∃ s, d = .infinity s := by
            cases fa : finB a
            · rcases not_fin ha fa with ⟨s, e⟩ | ⟨s, t, e⟩
              · rw [e] at hx
                cases hy : Ieee.double.read b with
                | nan u v => rw [hy] at hx; cases hx
                | infinity u => rw [hy] at hx; exact ⟨_, (Option.some.inj hx).symm⟩
                | number u n j =>
                  rw [hy] at hx
                  simp only [Ieee.Datum.product] at hx
                  split at hx
                  · cases hx
                  · exact ⟨_, (Option.some.inj hx).symm⟩
              · rw [e] at hx; cases hx
            · cases fb : finB b
              · rw [prod_comm] at hx
                rcases not_fin hb fb with ⟨s, e⟩ | ⟨s, t, e⟩
                · rw [e] at hx
                  cases hy : Ieee.double.read a with
                  | nan u v => rw [hy] at hx; cases hx
                  | infinity u => rw [hy] at hx; exact ⟨_, (Option.some.inj hx).symm⟩
                  | number u n j =>
                    rw [hy] at hx
                    simp only [Ieee.Datum.product] at hx
                    split at hx
                    · cases hx
                    · exact ⟨_, (Option.some.inj hx).symm⟩
                · rw [e] at hx; cases hx
              · rw [fa, fb] at h; cases h
          obtain ⟨s, rfl⟩ := hi
          have ew : p = Ieee.double.word s 9218868437227405312 := (Option.some.inj hm).symm
          unfold finB
          rw [ew, (word_rung s (by omega)).1]
          rfl
      show floatBits .add .f64 (negW p) (negW c) = (floatBits .add .f64 p c).map negW
      exact add_opp q1 hc (by rw [fp]; rfl)
  · simp only [if_true]
    cases fc : finB c
    · simp only [Bool.false_eq_true, if_false]
      have hn : nanB (negW c) = nanB c := (neg_place hc).2.1
      rw [hn]
      cases nanB c <;> exact ⟨Or.inl rfl, fun _ => rfl⟩
    · simp only [if_true, Option.map_some]
      have eX : exX (negW a) b (negW c) = -exX a b c := by
        rw [exX_un (L := twP) rfl, exX_un (L := twP) rfl, vI_ng ha, vI_ng hc, Int.neg_mul, Int.neg_mul, Int.neg_add]
      unfold fuW
      rw [eX]
      by_cases h0 : exX a b c = 0
      · rw [if_pos h0, if_pos (by omega), (neg_rung ha).1, (neg_rung ha).2]
        generalize (rung a == 0 || rung b == 0) = z
        have hs : ((!sgn a) != sgn b) = !(sgn a != sgn b) := by cases sgn a <;> cases sgn b <;> rfl
        rw [hs]
        generalize (sgn a != sgn b) = g
        unfold noughtR
        rw [(neg_rung hc).1, (neg_rung hc).2, (tmd_one m).1]
        by_cases hz : (z && (rung c == 0 && g == sgn c)) = true
        · have hz2 : (z && (rung c == 0 && (!g) == !sgn c)) = true := by
            have e : ((!g) == !sgn c) = (g == sgn c) := by cases g <;> cases sgn c <;> rfl
            rw [e]; exact hz
          rw [if_pos hz, if_pos hz2]
          exact ⟨Or.inl rfl, fun _ => rfl⟩
        · have hz2 : ¬ (z && (rung c == 0 && (!g) == !sgn c)) = true := by
            have e : ((!g) == !sgn c) = (g == sgn c) := by cases g <;> cases sgn c <;> rfl
            rw [e]; exact hz
          rw [if_neg hz, if_neg hz2]
          refine ⟨Or.inr ⟨?_, ?_⟩, fun hm => ?_⟩
          · cases (m == 1)
            · exact Or.inl rfl
            · exact Or.inr rfl
          · cases (m == 2)
            · exact Or.inl rfl
            · exact Or.inr rfl
          · rw [(tmd_one m).2 hm]
            cases (m == 2) <;> simp <;> first | rfl | kernel_rfl
      · rw [if_neg h0, if_neg (by omega), fuV_turn m h0]
        exact ⟨Or.inl rfl, fun _ => rfl⟩
end Go.Proofs.YtlhoidkfphellaaDoor

namespace Go.Proofs.YtlhoidkfphellaaDoor
open Go.RowKit

theorem fuV_side {X : Int} (m : Int) (h0 : X ≠ 0) : (0 < X → 0 ≤ place (fuV X m)) ∧ (X < 0 → place (fuV X m) ≤ 0) := by
  have nX := fuK_near h0
  have aX := fu_units h0
  refine ⟨fun h => ?_, fun h => ?_⟩
  · rw [fuV_pos m h, (place_rung (rg_le m aX nX)).1]; omega
  · rw [fuV_neg m h, (place_rung (rg_le (tmd m) aX nX)).2]; omega
/-- The place of an exact number rounded. -/
def plX (X m : Int) : Int := if X = 0 then 0 else place (fuV X m)
theorem plX_mono {X Y : Int} (m : Int) (h : X ≤ Y) : plX X m ≤ plX Y m := by
  unfold plX
  by_cases hX : X = 0
  · rw [if_pos hX]
    by_cases hY : Y = 0
    · rw [if_pos hY]; exact Int.le_refl _
    · rw [if_neg hY]; exact (fuV_side m hY).1 (by omega)
  · rw [if_neg hX]
    by_cases hY : Y = 0
    · rw [if_pos hY]; exact (fuV_side m hX).2 (by omega)
    · rw [if_neg hY]; exact fuV_mono m h hX hY
theorem rg_order {A k : Nat} : rgK A k 1 ≤ k ∧ k ≤ rgK A k 2 ∧ rgK A k 0 = k := by
  refine ⟨?_, ?_, rg_other (by decide) (by decide) (by decide)⟩
  · unfold rgK
    split
    · omega
    · rw [if_neg (fun c => absurd c.1 (by decide))]; exact Nat.le_refl _
  · unfold rgK
    rw [if_neg (fun c => absurd c.1 (by decide))]
    split
    · omega
    · exact Nat.le_refl _
theorem plX_order (X : Int) : plX X 1 ≤ plX X 0 ∧ plX X 0 ≤ plX X 2 := by
  unfold plX
  by_cases hX : X = 0
  · simp [hX]
  · simp only [if_neg hX]
    have nX := fuK_near hX
    have aX := fu_units hX
    obtain ⟨o1, o2, o3⟩ := rg_order (A := X.natAbs * 2 ^ puH) (k := fuK X)
    rcases Int.lt_or_le X 0 with c | c
    · rw [fuV_neg 1 c, fuV_neg 0 c, fuV_neg 2 c, show tmd 1 = 2 from rfl, show tmd 0 = 0 from rfl, show tmd 2 = 1 from rfl, (place_rung (rg_le 2 aX nX)).2, (place_rung (rg_le 0 aX nX)).2, (place_rung (rg_le 1 aX nX)).2]
      omega
    · rw [fuV_pos 1 (by omega), fuV_pos 0 (by omega), fuV_pos 2 (by omega), (place_rung (rg_le 2 aX nX)).1, (place_rung (rg_le 0 aX nX)).1, (place_rung (rg_le 1 aX nX)).1]
      omega
/-- Sums of finite floats: by places. -/
theorem add_place {a b : Nat} (m : Int) (ha : a < 18446744073709551616) (hb : b < 18446744073709551616) (fa : finB a = true) (fb : finB b = true) : place (addV a b m) = plX ((vI a + vI b) * 2 ^ twP) m := by
  unfold plX
  by_cases h0 : vI a + vI b = 0
  · rw [if_pos (by rw [h0, Int.zero_mul])]
    obtain ⟨e1, e2⟩ := add_nought m ha hb fa fb h0
    rw [e1]
    rcases noughtF_is m ha e2 with e | e
    · rw [Option.some.inj e]; decide
    · rw [Option.some.inj e]; decide
  · rw [if_neg (fun h => h0 (neg_pw.2.1 h)), add_fu m ha hb fa fb h0]
theorem add_grows {a b c : Nat} (m : Int) (ha : a < 18446744073709551616) (hb : b < 18446744073709551616) (hc : c < 18446744073709551616) (fa : finB a = true) (fb : finB b = true) (fc : finB c = true) (h : vI a ≤ vI b) : place (addV a c m) ≤ place (addV b c m) := by
  rw [add_place m ha hc fa fc, add_place m hb hc fb fc]
  exact plX_mono m (Int.mul_le_mul_of_nonneg_right (by omega) (Int.le_of_lt (pw_pos _)))
end Go.Proofs.YtlhoidkfphellaaDoor
