/- Quotients and roots lie between what is told of them downwards and upwards: plain, no program in this text. -/
import Derived.Test.YtfhejejfeffdcaaDoorJs
namespace Go.Proofs.YtfhejejfeffdcaaDoor
open Go.RowKit

theorem exX_sum (x y z : Nat) : exX x y z = vI x * vI y + vI z * 2 ^ twP := exX_un (L := twP) rfl
theorem vI_word (s : Bool) {k : Nat} (hk : k ≤ 9218868437227405312) : vI (Ieee.double.word s k) = if s then -(val k : Int) else (val k : Int) := by
  obtain ⟨h1, h2⟩ := word_rung s (show k < 9223372036854775808 by omega)
  unfold vI
  rw [h1, h2]
theorem fin_word (s : Bool) {k : Nat} (hk : k ≤ 9218868437227405312) : finB (Ieee.double.word s k) = decide (k < 9218868437227405312) := by
  unfold finB
  rw [(word_rung s (show k < 9223372036854775808 by omega)).1]
theorem quo_sides {N n Q R T u : Nat} (hn : 0 < n) (hu : 0 < u) (hN : N = n * Q + R) (hR : R < n) (hQ : 9007199254740992 ≤ Q) (hT : 2 * u ∣ T ∨ T < 9007199254740992 * u) :
    (T < (2 * Q + (R != 0).toNat) * u → T * n < 2 * N * u) ∧ ((2 * Q + (R != 0).toNat) * u < T → 2 * N * u < T * n) := by
  have hs : (R != 0).toNat ≤ 1 := by cases (R != 0) <;> simp
  have hnu : 0 < n * u := Nat.mul_pos hn hu
  refine ⟨fun h => ?_, fun h => ?_⟩
  · obtain ⟨h1, h2⟩ := sticky_low hu hT hQ hs h
    by_cases c : R = 0
    · subst c
      have h3 := Nat.mul_lt_mul_of_pos_right (h2 rfl) hn
      rw [hN, Nat.add_zero, show 2 * (n * Q) * u = 2 * Q * u * n by ac_rfl]
      exact h3
    · have h3 := Nat.mul_le_mul_right n h1
      refine Nat.lt_of_le_of_lt h3 ?_
      rw [hN, show 2 * Q * u * n = 2 * (n * Q) * u by ac_rfl]
      exact Nat.mul_lt_mul_of_pos_right (by omega) hu
  · obtain ⟨h1, h2⟩ := sticky_up hu hT hQ hs h
    by_cases c : R = 0
    · subst c
      have h3 := Nat.mul_lt_mul_of_pos_right (h2 rfl) hn
      rw [hN, Nat.add_zero, show 2 * (n * Q) * u = 2 * Q * u * n by ac_rfl]
      exact h3
    · have e : (R != 0).toNat = 1 := by simp [c]
      rw [e] at h1
      have h3 := Nat.mul_le_mul_right n h1
      refine Nat.lt_of_lt_of_le ?_ h3
      rw [show (2 * Q + 2 * 1) * u * n = (2 * (n * Q) + 2 * n) * u by rw [Nat.add_mul, Nat.add_mul, Nat.add_mul]; congr 1 <;> ac_rfl, hN]
      exact Nat.mul_lt_mul_of_pos_right (by omega) hu
theorem side_brk {A : Nat} {G : Nat → Nat} {k : Nat} (hk : k ≤ 9218868437227405312) (hA : 0 < A) (h0 : G 0 = 0) (h1 : 0 < k → G (k - 1) < A) (h2 : k < 9218868437227405312 → A < G (k + 1)) : Brk A G k (if k = 9218868437227405312 then -1 else sgI ((A : Int) - (G k : Int))) := by
  refine ⟨hk, fun h => ?_, fun h => ?_, fun h => ?_⟩
  · split at h
    · omega
    · rename_i hi
      have := sgI_zero.1 h
      exact ⟨by omega, by omega⟩
  · split at h
    · omega
    · rename_i hi
      have := sgI_lt.2.1 h
      exact ⟨by omega, by omega, fun _ => h2 (by omega)⟩
  · have k0 : 0 < k := by
      rcases Nat.eq_zero_or_pos k with c | c
      · subst c
        rw [if_neg (by omega)] at h
        have := sgI_lt.1.1 h
        rw [h0] at this
        omega
      · exact c
    refine ⟨k0, h1 k0, fun hi => ?_⟩
    rw [if_neg (by omega)] at h
    have := sgI_lt.1.1 h
    omega
theorem val_ne {a : Nat} (sa : someB a = true) : 0 < val (rung a) := by
  have a0 : rung a ≠ 0 := by simpa using (some_rung sa).2
  have := val_lt (Nat.pos_of_ne_zero a0)
  omega
theorem kS_core (v k b P : Int) (sa sb : Bool) : (if sb = true then -sgI (-(if (sa ^^ sb) = true then -k else k) * (if sb = true then -b else b) + (if sa = true then -v else v) * P) else sgI (-(if (sa ^^ sb) = true then -k else k) * (if sb = true then -b else b) + (if sa = true then -v else v) * P)) = if (sa ^^ sb) = true then -sgI (v * P - k * b) else sgI (v * P - k * b) := by
  cases sa <;> cases sb <;> simp only [Bool.xor_false, Bool.xor_true, Bool.not_false, Bool.not_true, Bool.false_eq_true, if_false, if_true, Int.neg_neg]
  · congr 1; rw [Int.neg_mul]; omega
  · congr 2; rw [Int.mul_neg]; omega
  · rw [sgI_opp]; congr 1; rw [Int.neg_mul]; omega
  · rw [sgI_opp]; congr 1; rw [Int.neg_mul, Int.neg_mul, Int.mul_neg]; omega
theorem div_told {a b : Nat} (ha : a < 18446744073709551616) (hb : b < 18446744073709551616) (sa : someB a = true) (sb : someB b = true) : Told (sgn a ^^ sgn b) (val (rung a) * 2 ^ twP) (fun q => val q * val (rung b)) (fun m => stepF (kQ a b) (kS a b) m) := by
  obtain ⟨fa, a0⟩ := some_rung sa
  obtain ⟨fb, b0⟩ := some_rung sb
  have a0' : rung a ≠ 0 := by simpa using a0
  have b0' : rung b ≠ 0 := by simpa using b0
  have m1 : mg (rung a) ≠ 0 := mg_ne a0'
  have m2 : mg (rung b) ≠ 0 := mg_ne b0'
  have hq : floatBits .quo .f64 a b = some (kQ a b) := by
    obtain ⟨q, hq⟩ : ∃ q, floatBits .quo .f64 a b = some q := by
      rw [(fbits_map a b).2.2.2, read_fin ha fa, read_fin hb fb]
      simp only [Ieee.Datum.quotient]
      rw [if_neg m2]
      exact ⟨_, rfl⟩
    unfold kQ; rw [hq]; rfl
  rw [(fbits_map a b).2.2.2, read_fin ha fa, read_fin hb fb] at hq
  simp only [Ieee.Datum.quotient] at hq
  rw [if_neg m2] at hq
  simp only [Option.map_some, Ieee.Format.write, Option.some.injEq] at hq
  obtain ⟨more, hmore⟩ : ∃ d, 54 + (mg (rung b)).log2 - (mg (rung a)).log2 = d := ⟨_, rfl⟩
  rw [hmore] at hq
  have l1 := log_bd m1 (mg_lt _)
  have hQ : 9007199254740992 ≤ mg (rung a) <<< more / mg (rung b) := by
    rw [Nat.le_div_iff_mul_le (Nat.pos_of_ne_zero m2), Nat.shiftLeft_eq]
    have e1 : 2 ^ (mg (rung a)).log2 * 2 ^ more ≤ mg (rung a) * 2 ^ more := Nat.mul_le_mul_right _ (Nat.log2_self_le m1)
    have e2 : 9007199254740992 * mg (rung b) ≤ 9007199254740992 * 2 ^ ((mg (rung b)).log2 + 1) := Nat.mul_le_mul_left _ (Nat.le_of_lt Nat.lt_log2_self)
    have e3 : 9007199254740992 * 2 ^ ((mg (rung b)).log2 + 1) = 2 ^ (mg (rung a)).log2 * 2 ^ more := by
      rw [show (9007199254740992 : Nat) = 2 ^ 53 by decide, ← Nat.pow_add, ← Nat.pow_add]
      congr 1
      omega
    omega
  obtain ⟨k, e, hk, c⟩ := near_anyD (sgn a ^^ sgn b) (-1074 + ((up (rung a) : Nat) : Int) - (-1074 + ((up (rung b) : Nat) : Int)) - (more : Int) - 1) (up (rung b) + more + 1) (m := 2 * (mg (rung a) <<< more / mg (rung b)) + (mg (rung a) <<< more % mg (rung b) != 0).toNat) (by omega) (by omega)
  have hexp : (-1074 + ((up (rung a) : Nat) : Int) - (-1074 + ((up (rung b) : Nat) : Int)) - (more : Int) - 1 + 1074 + ((up (rung b) + more + 1 : Nat) : Int)).toNat = up (rung a) + twP := by unfold twP; omega
  rw [hexp] at c
  rw [e] at hq
  have hn := Nat.pos_of_ne_zero m2
  have hu := Nat.two_pow_pos (up (rung a) + twP)
  obtain ⟨s1, s2⟩ := near_sides c hk
  have key := fun T hT => quo_sides (T := T) hn hu (Nat.div_add_mod (mg (rung a) <<< more) (mg (rung b))).symm (Nat.mod_lt _ hn) hQ hT
  have eT : ∀ q, val q * 2 ^ (up (rung b) + more + 1) * mg (rung b) = val q * val (rung b) * 2 ^ (more + 1) := fun q => by
    rw [← mg_up (rung b), show up (rung b) + more + 1 = up (rung b) + (more + 1) by omega, Nat.pow_add]
    generalize val q = V
    generalize 2 ^ up (rung b) = U
    generalize (2 : Nat) ^ (more + 1) = W
    generalize mg (rung b) = B
    ac_rfl
  have eN : 2 * (mg (rung a) <<< more) * 2 ^ (up (rung a) + twP) = val (rung a) * 2 ^ twP * 2 ^ (more + 1) := by
    rw [Nat.shiftLeft_eq, ← mg_up (rung a), Nat.pow_add 2 (up (rung a)), Nat.pow_succ]
    generalize mg (rung a) = A
    generalize 2 ^ up (rung a) = U
    generalize (2 : Nat) ^ twP = W
    generalize (2 : Nat) ^ more = Z
    ac_rfl
  have hB := side_brk (A := val (rung a) * 2 ^ twP) (G := fun q => val q * val (rung b)) hk (Nat.mul_pos (val_ne sa) (Nat.two_pow_pos _)) (by show val 0 * _ = 0; rw [val_zero, Nat.zero_mul])
    (fun h => by
      have h3 := (key _ (val_units (k - 1) _ _)).1 (s1 h)
      rw [eT, eN] at h3
      exact Nat.lt_of_mul_lt_mul_right h3)
    (fun h => by
      have h3 := (key _ (val_units (k + 1) _ _)).2 (s2 h)
      rw [eT, eN] at h3
      exact Nat.lt_of_mul_lt_mul_right h3)
  refine ⟨k, _, hB, fun m => ?_⟩
  rw [← step_word _ hB m, hq]
  show stepF (kQ a b) (kS a b) m = _
  suffices hsf : kS a b = if (sgn a ^^ sgn b) = true then -(if k = 9218868437227405312 then -1 else sgI (((val (rung a) * 2 ^ twP : Nat) : Int) - ((val k * val (rung b) : Nat) : Int))) else (if k = 9218868437227405312 then -1 else sgI (((val (rung a) * 2 ^ twP : Nat) : Int) - ((val k * val (rung b) : Nat) : Int))) by rw [hsf]
  clear hB
  unfold kS
  rw [← hq, fin_word _ hk]
  by_cases hi : k = 9218868437227405312
  · rw [decide_eq_false (by omega), if_pos hi, (word_rung _ (show k < 9223372036854775808 by omega)).2]
    simp only [Bool.false_eq_true, if_false]
    cases (sgn a ^^ sgn b) <;> rfl
  · rw [decide_eq_true (by omega), if_neg hi, exX_sum, vI_ng (word_lt64 _ (by omega)), vI_word _ hk]
    simp only [if_true]
    have pw : ((2 ^ twP : Nat) : Int) = (2 : Int) ^ twP := pw_cast twP
    have cA : ((val (rung a) * 2 ^ twP : Nat) : Int) = (val (rung a) : Int) * 2 ^ twP := by rw [← pw]; exact Int.natCast_mul _ _
    rw [cA, Int.natCast_mul]
    unfold vI
    exact kS_core _ _ _ _ _ _
end Go.Proofs.YtfhejejfeffdcaaDoor
