/- What is neutral; and what the program's Add, Sub, Mul and Div answer of any floats. -/
import Derived.Test.YtlkmmfmnggejlaaDoorY5
namespace Go.Proofs.YtlkmmfmnggejlaaDoor
open Go.RowKit

theorem one_vI : vI 4607182418800017408 = 2 ^ twP ∧ finB 4607182418800017408 = true ∧ rung 4607182418800017408 ≠ 0 ∧ sgn 4607182418800017408 = false ∧ mg (rung 4607182418800017408) = 4503599627370496 ∧ up (rung 4607182418800017408) = 1022 := by
  have hr : rung 4607182418800017408 = 4607182418800017408 := rung_small (by omega)
  have hs : sgn 4607182418800017408 = false := sgn_small (by omega)
  have hm : mg 4607182418800017408 = 4503599627370496 := by decide
  have hu : up 4607182418800017408 = 1022 := by decide
  refine ⟨?_, by decide, by rw [hr]; omega, hs, by rw [hr]; exact hm, by rw [hr]; exact hu⟩
  have e : vI 4607182418800017408 = ((mg 4607182418800017408 * 2 ^ up 4607182418800017408 : Nat) : Int) := by
    rw [mg_up]
    unfold vI
    rw [hs, hr]
    rfl
  obtain ⟨u, hu2⟩ : ∃ u, up 4607182418800017408 = u := ⟨_, rfl⟩
  rw [e, hm, hu2, show (4503599627370496 : Nat) = 2 ^ 52 by decide, ← Nat.pow_add, show 52 + u = twP by unfold twP; omega, pw_cast]
/-- A float, all NaN as one. -/
def itO (a : Nat) : Option Nat := if nanB a then none else some a
theorem it_NR {a : Nat} (ha : a < 18446744073709551616) : NR (itO a) a := by
  unfold itO
  cases h : nanB a
  · exact ⟨ha, rfl⟩
  · exact ⟨ha, h⟩
theorem it_inf {a : Nat} (ha : a < 18446744073709551616) (fa : finB a = false) : (nanB a = false ∧ Ieee.double.read a = .infinity (sgn a) ∧ a = Ieee.double.word (sgn a) 9218868437227405312) ∨ (nanB a = true ∧ ∃ s t, Ieee.double.read a = .nan s t) := by
  have hr : ¬ rung a < 9218868437227405312 := by unfold finB at fa; simpa using fa
  rw [read_eq a ha, if_neg hr]
  by_cases h : rung a = 9218868437227405312
  · left
    rw [if_pos h]
    refine ⟨rung_nan (by omega), rfl, ?_⟩
    rw [word_k _ (by omega), ← h]
    exact rung_of a ha
  · right
    rw [if_neg h]
    exact ⟨by unfold nanB; exact decide_eq_true (by omega), _, _, rfl⟩
theorem it_fin {a : Nat} (fa : finB a = true) : itO a = some a := by
  unfold itO
  rw [rung_nan (Nat.le_of_lt (fin_rung fa))]
  rfl
theorem word_self {a : Nat} (ha : a < 18446744073709551616) : Ieee.double.word (sgn a) (rung a) = a := by
  rw [word_k _ (by have := rung_lt a; omega), ← rung_of a ha]
theorem stepF_zero (x : Nat) (m : Int) : stepF x 0 m = x := by unfold stepF; simp
theorem addO_zero {a : Nat} (m : Int) (ha : a < 18446744073709551616) : addO a 0 m = itO a ∨ (NoughtB (addO a 0 m) ∧ NoughtB (itO a)) := by
  have f0 : finB 0 = true := by decide
  have v0 : vI 0 = 0 := by decide
  cases fa : finB a
  · left
    unfold addO itO
    rw [fa]
    simp only [Bool.false_and, Bool.false_eq_true, if_false]
    rcases it_inf ha fa with ⟨h1, h2, h3⟩ | ⟨h1, s, t, h2⟩
    · rw [h1]
      simp only [Bool.false_eq_true, if_false]
      exact add_inf_l ha (by rw [h3]; exact (word_rung _ (by omega)).1) (by omega) f0
    · rw [h1]
      exact op_nan (op := .add) (Or.inl rfl) ha (by omega) (Or.inl h1)
  · rw [it_fin fa]
    unfold addO
    rw [fa, f0]
    simp only [Bool.and_self, if_true]
    by_cases h0 : rung a = 0
    · right
      have va : vI a = 0 := by unfold vI; rw [h0, val_zero]; split <;> rfl
      obtain ⟨e1, e2⟩ := add_nought m ha (show 0 < 18446744073709551616 by omega) fa f0 (by rw [va, v0]; rfl)
      rw [e1]
      exact ⟨noughtF_is m ha e2, nought_is ha h0⟩
    · left
      have hv : vI a + vI 0 ≠ 0 := by rw [v0, Int.add_zero]; exact (vI_sign h0).1
      rw [add_fu m ha (by omega) fa f0 hv, v0, Int.add_zero, fu_self m ha fa h0]
theorem mulO_one {a : Nat} (m : Int) (ha : a < 18446744073709551616) : mulO a 4607182418800017408 m = itO a := by
  obtain ⟨o1, o2, o3, o4, o5, o6⟩ := one_vI
  have so : someB 4607182418800017408 = true := by unfold someB; rw [o2]; simpa using o3
  cases fa : finB a
  · have sa : someB a = false := by unfold someB; rw [fa]; rfl
    unfold mulO itO
    rw [sa]
    simp only [Bool.false_and, Bool.false_eq_true, if_false]
    rcases it_inf ha fa with ⟨h1, h2, h3⟩ | ⟨h1, s, t, h2⟩
    · rw [h1, (fbits_map _ _).2.2.1, h2, read_fin (by omega) o2, o5, o4]
      simp only [Bool.false_eq_true, if_false]
      show some (Ieee.double.word (sgn a ^^ false) 9218868437227405312) = some a
      rw [Bool.xor_false, ← h3]
    · rw [h1]
      exact op_nan (op := .mul) (Or.inr (Or.inr (Or.inl rfl))) ha (by omega) (Or.inl h1)
  · rw [it_fin fa]
    by_cases h0 : rung a = 0
    · have sa : someB a = false := by unfold someB; rw [fa, h0]; rfl
      unfold mulO
      rw [sa]
      simp only [Bool.false_and, Bool.false_eq_true, if_false]
      obtain ⟨p, hp⟩ : ∃ q, floatBits .mul .f64 a 4607182418800017408 = some q := by
        rw [(fbits_map a _).2.2.1, read_fin ha fa, read_fin (by omega) o2]
        exact ⟨_, rfl⟩
      obtain ⟨z1, z2⟩ := mul_nought ha (by omega) fa o2 (Or.inl h0) hp
      obtain ⟨q1, _⟩ := op_word (op := .mul) (Or.inr (Or.inr (Or.inl rfl))) hp
      rw [hp]
      have e1 := rung_of p q1
      have e2 := rung_of a ha
      rw [o4] at z2
      rw [z1, z2] at e1
      rw [h0] at e2
      rw [e1, e2]
      cases sgn a <;> rfl
    · have sa : someB a = true := by unfold someB; rw [fa]; simpa using h0
      unfold mulO
      rw [sa, so]
      simp only [Bool.and_self, if_true]
      rw [mul_fu m ha (by omega) sa so, o1, fu_self m ha fa h0]
theorem quo_one {a : Nat} (ha : a < 18446744073709551616) (fa : finB a = true) : floatBits .quo .f64 a 4607182418800017408 = some a := by
  obtain ⟨o1, o2, o3, o4, o5, o6⟩ := one_vI
  rw [(fbits_map _ _).2.2.2, read_fin ha fa, read_fin (by omega) o2, o5, o4, o6]
  simp only [Ieee.Datum.quotient]
  rw [if_neg (by omega), Bool.xor_false]
  simp only [Option.map_some, Ieee.Format.write, Option.some.injEq]
  have hl : Nat.log2 4503599627370496 = 52 := by decide
  rw [hl]
  by_cases h0 : rung a = 0
  · have m0 : mg (rung a) = 0 := by rw [h0]; decide
    rw [m0]
    simp only [Nat.zero_shiftLeft, Nat.zero_div, Nat.zero_mod, Nat.mul_zero]
    show Ieee.double.word (sgn a) 0 = a
    have := word_self ha
    rw [h0] at this
    exact this
  · obtain ⟨va, wa⟩ := vI_sign h0
    have hm : mg (rung a) ≠ 0 := by unfold mg; split <;> omega
    have hlt := mg_lt (rung a)
    have hlog : (mg (rung a)).log2 ≤ 52 := by
      have := (Nat.log2_lt hm (k := 53)).2 (by omega)
      omega
    obtain ⟨d, hd⟩ : ∃ d : Nat, 54 + 52 - (mg (rung a)).log2 = d + 52 ∧ 1 ≤ d := ⟨54 - (mg (rung a)).log2, by omega, by omega⟩
    rw [hd.1, Nat.shiftLeft_eq, Nat.pow_add, ← Nat.mul_assoc, show (2 : Nat) ^ 52 = 4503599627370496 by decide, Nat.mul_div_cancel _ (by omega), Nat.mul_mod_left]
    have hF : FlX (vI a) (Ieee.double.nearest (sgn a) (2 * (mg (rung a) * 2 ^ d) + ((0 : Nat) != 0).toNat) (-1074 + (up (rung a) : Int) - (-1074 + ((1022 : Nat) : Int)) - ((d + 52 : Nat) : Int) - 1)) := by
      refine near_fl _ _ _ (d + 1) (by omega) ?_ (fun _ => wa.symm) (fin_top rfl fa)
      have e : (vI a).natAbs = val (rung a) := by unfold vI; split <;> omega
      rw [e, ← mg_up, show (-1074 + (up (rung a) : Int) - (-1074 + ((1022 : Nat) : Int)) - ((d + 52 : Nat) : Int) - 1 + 1074 + ((d + 1 : Nat) : Int)).toNat = up (rung a) by omega, Nat.pow_succ]
      simp only [bne_self_eq_false, Bool.toNat_false, Nat.add_zero]
      generalize 2 ^ d = D
      generalize 2 ^ up (rung a) = U
      ac_rfl
    exact vI_inj hF.1 ha (nst_self (vI_rep a) hF.2.2.1) (by rw [nst_self (vI_rep a) hF.2.2.1]; exact va)
theorem divO_one {a : Nat} (m : Int) (ha : a < 18446744073709551616) : divO a 4607182418800017408 m = itO a := by
  obtain ⟨o1, o2, o3, o4, o5, o6⟩ := one_vI
  have so : someB 4607182418800017408 = true := by unfold someB; rw [o2]; simpa using o3
  cases fa : finB a
  · have sa : someB a = false := by unfold someB; rw [fa]; rfl
    unfold divO itO
    rw [sa]
    simp only [Bool.false_and, Bool.false_eq_true, if_false]
    rcases it_inf ha fa with ⟨h1, h2, h3⟩ | ⟨h1, s, t, h2⟩
    · rw [h1, (fbits_map _ _).2.2.2, h2, read_fin (by omega) o2, o4]
      simp only [Bool.false_eq_true, if_false]
      show some (Ieee.double.word (sgn a ^^ false) 9218868437227405312) = some a
      rw [Bool.xor_false, ← h3]
    · rw [h1]
      exact op_nan (op := .quo) (Or.inr (Or.inr (Or.inr rfl))) ha (by omega) (Or.inl h1)
  · rw [it_fin fa]
    have hq := quo_one ha fa
    cases sa : someB a
    · unfold divO
      rw [sa]
      simp only [Bool.false_and, Bool.false_eq_true, if_false]
      exact hq
    · unfold divO
      rw [sa, so]
      simp only [Bool.and_self, if_true]
      have eq : kQ a 4607182418800017408 = a := by unfold kQ; rw [hq]; rfl
      have eS : kS a 4607182418800017408 = 0 := by
        unfold kS
        rw [eq, fa, o4]
        simp only [if_true, Bool.false_eq_true, if_false]
        rw [exX_un (L := twP) rfl, vI_ng ha, o1, Int.neg_mul, Int.add_left_neg]
        rfl
      rw [eq, eS, stepF_zero]
theorem fuO_one {a : Nat} (m : Int) (ha : a < 18446744073709551616) : fuO a 4607182418800017408 0 m = itO a ∨ (NoughtB (fuO a 4607182418800017408 0 m) ∧ NoughtB (itO a)) := by
  obtain ⟨o1, o2, o3, o4, o5, o6⟩ := one_vI
  have f0 : finB 0 = true := by decide
  cases fa : finB a
  · left
    have sa : someB a = false := by unfold someB; rw [fa]; rfl
    have hm := mulO_one 0 ha
    unfold mulO at hm
    rw [sa] at hm
    simp only [Bool.false_and, Bool.false_eq_true, if_false] at hm
    unfold fuO fuI
    rw [fa, hm]
    simp only [Bool.false_and, Bool.false_eq_true, if_false]
    unfold itO
    rcases it_inf ha fa with ⟨h1, h2, h3⟩ | ⟨h1, s, t, h2⟩
    · rw [h1]
      simp only [Bool.false_eq_true, if_false]
      exact add_inf_l ha (by rw [h3]; exact (word_rung _ (by omega)).1) (by omega) f0
    · rw [h1]
      rfl
  · rw [it_fin fa]
    unfold fuO fuW
    rw [fa, o2, f0]
    simp only [Bool.and_self, if_true]
    have eX : exX a 4607182418800017408 0 = vI a * 2 ^ twP := by
      rw [exX_un (L := twP) rfl, o1, show vI 0 = 0 by decide, Int.zero_mul, Int.add_zero]
    rw [eX]
    by_cases h0 : rung a = 0
    · right
      have va : vI a = 0 := by unfold vI; rw [h0, val_zero]; split <;> rfl
      rw [if_pos (by rw [va, Int.zero_mul])]
      refine ⟨?_, nought_is ha h0⟩
      unfold noughtR
      split
      · exact Or.inl rfl
      · split
        · exact Or.inr rfl
        · exact Or.inl rfl
    · left
      rw [if_neg (fun h => (vI_sign h0).1 (neg_pw.2.1 h)), fu_self m ha fa h0]
theorem radd_any (a b : Nat) (m : Int) (ha : a < 18446744073709551616) (hb : b < 18446744073709551616) (w : World) :
    Calls Tryd.prog 53 #[.float .f64 a, .float .f64 b, .int .i8 m] w fun e w' => ∃ r, e = .returned (.float .f64 r) ∧ NR (addO a b m) r ∧ Below w.heap.size w w' := by
  unfold addO
  cases h : (finB a && finB b)
  · simp only [Bool.false_eq_true, if_false]
    refine (radd_inf a b m ha hb (by cases fa : finB a; exact Or.inl rfl; rw [fa] at h; exact Or.inr (by simpa using h)) w).mono ?_
    rintro e w' ⟨⟨r, rfl, h1⟩, h2⟩
    exact ⟨r, rfl, h1, h2⟩
  · have fa : finB a = true := by revert h; cases finB a <;> simp
    have fb : finB b = true := by revert h; cases finB b <;> simp
    simp only [if_true]
    refine (radd_gen a b m ha hb fa fb w).mono ?_
    rintro e w' ⟨rfl, rfl⟩
    exact ⟨_, rfl, ⟨addV_lt m ha hb fa fb, rfl⟩, Below.refl _ _⟩
theorem rmul_all (a b : Nat) (m : Int) (ha : a < 18446744073709551616) (hb : b < 18446744073709551616) (w : World) (hT : TabW w) :
    Calls Tryd.prog 54 #[.float .f64 a, .float .f64 b, .int .i8 m] w fun e w' => ∃ r, e = .returned (.float .f64 r) ∧ NR (mulO a b m) r ∧ Below w.heap.size w w' := by
  unfold mulO
  cases h : (someB a && someB b)
  · simp only [Bool.false_eq_true, if_false]
    exact rmul_sp a b m ha hb h w
  · have sa : someB a = true := by revert h; cases someB a <;> simp
    have sb : someB b = true := by revert h; cases someB b <;> simp
    simp only [if_true]
    obtain ⟨hq, hc⟩ := rmul_any a b m ha hb sa sb w hT
    refine hc.mono ?_
    rintro e w' ⟨rfl, h2⟩
    exact ⟨_, rfl, ⟨stepF_lt _ _ (op_word (op := .mul) (Or.inr (Or.inr (Or.inl rfl))) hq).1, rfl⟩, h2⟩
end Go.Proofs.YtlkmmfmnggejlaaDoor
