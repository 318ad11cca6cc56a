/- Roots lie between what is told of them downwards and upwards: plain, no program in this text. -/
import Derived.Test.YtfhejejfeffdcaaDoorJt
namespace Go.Proofs.YtfhejejfeffdcaaDoor
open Go.RowKit

theorem root_sides {N w T u : Nat} (h1 : w * w ≤ N) (h2 : N < (w + 1) * (w + 1)) (hu : 0 < u) (hQ : 9007199254740992 ≤ w) (hT : 2 * u ∣ T ∨ T < 9007199254740992 * u) :
    (T < (2 * w + (w * w != N).toNat) * u → T * T < 4 * N * (u * u)) ∧ ((2 * w + (w * w != N).toNat) * u < T → 4 * N * (u * u) < T * T) := by
  have hs : (w * w != N).toNat ≤ 1 := by cases (w * w != N) <;> simp
  have huu : 0 < u * u := Nat.mul_pos hu hu
  have sq : ∀ x : Nat, 2 * x * u * (2 * x * u) = 4 * (x * x) * (u * u) := fun x => by
    rw [show 2 * x * u * (2 * x * u) = (2 * 2) * (x * x) * (u * u) by ac_rfl]
  refine ⟨fun h => ?_, fun h => ?_⟩
  · obtain ⟨a1, a2⟩ := sticky_low hu hT hQ hs h
    by_cases c : w * w = N
    · have e : (w * w != N).toNat = 0 := by simp [c]
      have h3 := Nat.mul_self_lt_mul_self (a2 e)
      rw [sq, c] at h3
      exact h3
    · have h3 := Nat.mul_self_le_mul_self a1
      rw [sq] at h3
      exact Nat.lt_of_le_of_lt h3 (Nat.mul_lt_mul_of_pos_right (by omega) huu)
  · obtain ⟨a1, a2⟩ := sticky_up hu hT hQ hs h
    by_cases c : w * w = N
    · have e : (w * w != N).toNat = 0 := by simp [c]
      have h3 := Nat.mul_self_lt_mul_self (a2 e)
      rw [sq, c] at h3
      exact h3
    · have e : (w * w != N).toNat = 1 := by simp [c]
      rw [e, show 2 * w + 2 * 1 = 2 * (w + 1) by omega] at a1
      have h3 := Nat.mul_self_le_mul_self a1
      rw [sq] at h3
      exact Nat.lt_of_lt_of_le (Nat.mul_lt_mul_of_pos_right (by omega) huu) h3
theorem sqrt_told {a : Nat} (ha : a < 18446744073709551616) (sa : someB a = true) (hs : sgn a = false) : Told false (val (rung a) * 2 ^ twP) (fun q => val q * val q) (fun m => stepF (tQ a) (tS a) m) := by
  obtain ⟨fa, a0⟩ := some_rung sa
  have a0' : rung a ≠ 0 := by simpa using a0
  have m1 : mg (rung a) ≠ 0 := mg_ne a0'
  have m2 : mg (rung a) < 9007199254740992 := mg_lt _
  have hl := log_bd m1 m2
  have hq := root_some ha sa hs
  obtain ⟨fq, _, _, _⟩ := root_rung ha sa hs hq
  have hq2 : ((Ieee.double.read a).root 54).map Ieee.double.write = some (tQ a) := hq
  rw [read_fin ha fa, hs] at hq2
  simp only [Ieee.Datum.root] at hq2
  rw [if_neg m1, if_neg (by simp)] at hq2
  simp only [Option.map_some, Ieee.Format.write, Option.some.injEq] at hq2
  obtain ⟨u, hu1⟩ : ∃ u, up (rung a) = u := ⟨_, rfl⟩
  obtain ⟨M, hM⟩ : ∃ M, mg (rung a) = M := ⟨_, rfl⟩
  have eV : val (rung a) = M * 2 ^ u := by rw [← mg_up, hM, hu1]
  rw [hu1, hM] at hq2
  rw [hM] at m1 m2 hl
  obtain ⟨more, hmore⟩ : ∃ d, 2 * 54 - M.log2 + ((-1074 + (u : Int) - ((2 * 54 - M.log2 : Nat) : Int)) % 2).toNat = d := ⟨_, rfl⟩
  rw [hmore] at hq2
  have g1 : 108 ≤ M.log2 + more ∧ M.log2 + more ≤ 109 := by omega
  obtain ⟨w, hw⟩ : ∃ w, Ieee.Datum.rootFrom (M <<< more) ((M <<< more).log2 / 2 + 1) 0 = w := ⟨_, rfl⟩
  obtain ⟨R1, R2⟩ := root_whole (M <<< more)
  rw [hw] at hq2 R1 R2
  have n1 : 2 ^ 108 ≤ M <<< more := by
    rw [Nat.shiftLeft_eq]
    have h1 := Nat.log2_self_le m1
    have h2 := Nat.mul_le_mul_right (2 ^ more) h1
    rw [← Nat.pow_add] at h2
    exact Nat.le_trans (Nat.pow_le_pow_right (by omega) g1.1) h2
  have w1 : 9007199254740992 ≤ w := by
    rcases Nat.lt_or_ge w 9007199254740992 with h | h
    · exfalso
      have h2 : (w + 1) * (w + 1) ≤ 9007199254740992 * 9007199254740992 := Nat.mul_le_mul h h
      omega
    · exact h
  obtain ⟨p, hp⟩ : ∃ p, (-1074 + (u : Int) - (more : Int)) / 2 - 1 = p := ⟨_, rfl⟩
  rw [hp] at hq2
  have p1 : -593 ≤ p := by omega
  have p2 : 2 * (p + 1) = -1074 + (u : Int) - (more : Int) := by omega
  obtain ⟨k, e, hk, c⟩ := near_anyD false p 0 (m := 2 * w + (w * w != M <<< more).toNat) (by omega) (by omega)
  obtain ⟨C, hC⟩ : ∃ C : Nat, (p + 1074 + ((0 : Nat) : Int)).toNat = C := ⟨_, rfl⟩
  rw [hC] at c
  have hC2 : 2 + more + 2 * C = u + twP := by unfold twP; omega
  rw [e] at hq2
  have hu := Nat.two_pow_pos C
  obtain ⟨s1, s2⟩ := near_sides c hk
  rw [Nat.pow_zero] at s1 s2
  simp only [Nat.mul_one] at s1 s2
  have key := fun T hT => root_sides (T := T) R1 R2 hu w1 hT
  have eN : 4 * (M <<< more) * (2 ^ C * 2 ^ C) = val (rung a) * 2 ^ twP := by
    have e5 : (2 : Nat) ^ u * 2 ^ twP = 2 ^ 2 * 2 ^ more * (2 ^ C * 2 ^ C) := by
      rw [← Nat.pow_add, ← Nat.pow_add, ← Nat.pow_add, ← Nat.pow_add, ← hC2, show 2 * C = C + C by omega]
    rw [Nat.shiftLeft_eq, eV, Nat.mul_assoc M, e5, show (4 : Nat) = 2 ^ 2 by decide]
    generalize (2 : Nat) ^ C = Y
    generalize (2 : Nat) ^ more = Z
    generalize (2 : Nat) ^ 2 = F
    ac_rfl
  have vu : ∀ q, 2 * 2 ^ C ∣ val q ∨ val q < 9007199254740992 * 2 ^ C := fun q => by
    have := val_units q 0 C
    rw [Nat.pow_zero, Nat.mul_one] at this
    exact this
  have hB := side_brk (A := val (rung a) * 2 ^ twP) (G := fun q => val q * val q) hk (Nat.mul_pos (val_ne sa) (Nat.two_pow_pos _)) (by show val 0 * _ = 0; rw [val_zero, Nat.zero_mul])
    (fun h => by
      have h3 := (key _ (vu (k - 1))).1 (s1 h)
      rw [eN] at h3
      exact h3)
    (fun h => by
      have h3 := (key _ (vu (k + 1))).2 (s2 h)
      rw [eN] at h3
      exact h3)
  have hi : k < 9218868437227405312 := by
    rw [← hq2, fin_word _ hk] at fq
    simpa using fq
  refine ⟨k, _, hB, fun m => ?_⟩
  rw [← step_word _ hB m, hq2]
  show stepF (tQ a) (tS a) m = _
  suffices hsf : tS a = (if k = 9218868437227405312 then -1 else sgI (((val (rung a) * 2 ^ twP : Nat) : Int) - ((val k * val k : Nat) : Int))) by
    rw [hsf]; rfl
  clear hB
  unfold tS
  rw [← hq2, if_neg (by omega), exX_sum, vI_ng (word_lt64 _ (by omega)), vI_word _ hk]
  have pw : ((2 ^ twP : Nat) : Int) = (2 : Int) ^ twP := pw_cast twP
  have cA : ((val (rung a) * 2 ^ twP : Nat) : Int) = (val (rung a) : Int) * 2 ^ twP := by rw [← pw]; exact Int.natCast_mul _ _
  have eA : vI a = (val (rung a) : Int) := by unfold vI; rw [hs]; rfl
  rw [cA, Int.natCast_mul, eA]
  simp only [Bool.false_eq_true, if_false]
  rw [Int.neg_mul, Int.add_comm, ← Int.sub_eq_add_neg]
end Go.Proofs.YtfhejejfeffdcaaDoor
