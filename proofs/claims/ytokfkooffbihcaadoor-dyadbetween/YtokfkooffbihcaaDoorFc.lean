/- Join's size and Split's parts undo each other: the plain part of it. -/
import Derived.Test.YtokfkooffbihcaaDoorFz
namespace Go.Proofs.YtokfkooffbihcaaDoor

theorem odd_unique {m k q z : Nat} (hm : m % 2 = 1) (h : m * 2 ^ k = 2 ^ z * (2 * q + 1)) : k = z ∧ m = 2 * q + 1 := by
  have key : ∀ {x y i j : Nat}, x % 2 = 1 → x * 2 ^ i = y * 2 ^ j → j ≤ i → y % 2 = 1 → i = j ∧ x = y := by
    intro x y i j hx he hji hy
    obtain ⟨d, rfl⟩ : ∃ d, i = j + d := ⟨i - j, by omega⟩
    rw [Nat.pow_add, Nat.mul_comm (2 ^ j), ← Nat.mul_assoc] at he
    have he' := Nat.eq_of_mul_eq_mul_right (Nat.two_pow_pos j) he
    cases d with
    | zero => simp at he'; exact ⟨rfl, he'⟩
    | succ d => rw [Nat.pow_succ, ← Nat.mul_assoc] at he'; omega
  rw [Nat.mul_comm (2 ^ z)] at h
  by_cases hkz : z ≤ k
  · exact key hm h hkz (by omega)
  · have := key (by omega) h.symm (by omega) hm
    exact ⟨this.1.symm, this.2.symm⟩

theorem split_end {a m k : Nat} (h0 : rung a ≠ 0) (hm : m % 2 = 1) (h : m * 2 ^ k = mg (rung a)) : spZ a = k ∧ spF a = m := by
  have hlt := mg_lt (rung a)
  have hne := mg_ne h0
  obtain ⟨q, hq, hz⟩ := Lib.ctzFrom_spec 64 (mg (rung a)) (by omega) (by omega)
  have e : spZ a = Lib.ctzFrom 64 (mg (rung a)) := by unfold spZ Lib.ctz; rw [if_neg hne]
  rw [← e] at hq
  obtain ⟨h1, h2⟩ := odd_unique hm (h.trans hq)
  refine ⟨h1.symm, ?_⟩
  unfold spF
  rw [if_neg h0, ← h1, ← h, Nat.mul_div_cancel _ (Nat.two_pow_pos _)]

theorem val_jR {f : Nat} {e : Int} (h0 : f ≠ 0) (h : f < 9007199254740992) (h1 : -1074 ≤ e) : val (jR f e) = f * 2 ^ (e + 1074).toNat ∧ mg (jR f e) = jM f e ∧ up (jR f e) = jU f e ∧ jR f e ≠ 0 := by
  obtain ⟨j1, j2, j3⟩ := jM_ok h0 h h1
  obtain ⟨m1, m2⟩ := mg_of j1 j3
  have e1 : mg (jR f e) = jM f e := m1
  have e2 : up (jR f e) = jU f e := m2
  have hl := log2_lt53 h0 h
  refine ⟨?_, e1, e2, by unfold jR; omega⟩
  rw [← mg_up, e1, e2]
  unfold jM jU
  by_cases hc : -1022 ≤ e + f.log2
  · rw [if_pos hc, if_pos hc, Nat.mul_assoc, ← Nat.pow_add, show 52 - f.log2 + (e + f.log2 + 1022).toNat = (e + 1074).toNat by omega]
  · rw [if_neg hc, if_neg hc, Nat.pow_zero, Nat.mul_one]
theorem split_join {n : Bool} {f : Nat} {e : Int} (hk : okP f e = true) : finB (joinF n f e) = true ∧ sgn (joinF n f e) = n ∧ spF (joinF n f e) = f ∧ spE (joinF n f e) = e := by
  have hv := valR_lt f e
  have hj : joinF n f e = Ieee.double.word n (valR f e) := by
    unfold joinF; rw [hk]; cases n
    · rfl
    · rw [word_neg]; rfl
  obtain ⟨r1, r2⟩ := word_rung n (r := valR f e) (by omega)
  rw [hj]
  refine ⟨by unfold finB; rw [r1]; simpa using hv, r2, ?_⟩
  by_cases h0 : f = 0
  · have he : e = 0 := by unfold okP at hk; rw [if_pos h0] at hk; simpa using hk
    have hz : valR f e = 0 := by unfold valR; rw [if_pos h0]
    rw [hz] at r1 ⊢
    unfold spF spE
    rw [r1, if_pos rfl, if_pos rfl]
    exact ⟨h0.symm, he.symm⟩
  · have hp : f % 2 = 1 ∧ f < 9007199254740992 ∧ -1074 ≤ e ∧ e ≤ 1023 ∧ jR f e < 9218868437227405312 := by unfold okP at hk; rw [if_neg h0] at hk; simpa using hk
    have hvj : valR f e = jR f e := by unfold valR; rw [if_neg h0, hk]; rfl
    obtain ⟨v1, v2, v3, v4⟩ := val_jR (e := e) h0 hp.2.1 hp.2.2.1
    have hl := log2_lt53 h0 hp.2.1
    rw [hvj] at r1 ⊢
    have hne : rung (Ieee.double.word n (jR f e)) ≠ 0 := by rw [r1]; exact v4
    obtain ⟨k, hk1, hk2⟩ : ∃ k : Nat, f * 2 ^ k = jM f e ∧ (jU f e : Int) - 1074 + k = e := by
      unfold jM jU
      by_cases hc : -1022 ≤ e + f.log2
      · exact ⟨52 - f.log2, by rw [if_pos hc], by rw [if_pos hc]; omega⟩
      · exact ⟨(e + 1074).toNat, by rw [if_neg hc], by rw [if_neg hc]; omega⟩
    obtain ⟨z1, z2⟩ := split_end (a := Ieee.double.word n (jR f e)) (m := f) (k := k) hne hp.1 (by rw [r1, v2]; exact hk1)
    refine ⟨z2, ?_⟩
    unfold spE
    rw [if_neg hne, z1, r1, v3]
    exact hk2
end Go.Proofs.YtokfkooffbihcaaDoor
