/- What the document's Sqrt answers of any float: what round's tells. -/
import Derived.Test.YtbfefoidpgbjaaaGreatDoorZm
import Derived.Test.YtbfefoidpgbjaaaGreatDoorZn
import Derived.Test.YtbfefoidpgbjaaaGreatDoorZo
import Derived.Test.YtbfefoidpgbjaaaGreatDoorK1
import Derived.Test.YtbfefoidpgbjaaaGreatDoorU2
import Derived.Test.YtbfefoidpgbjaaaGreatDoorZi
import Derived.Test.YtbfefoidpgbjaaaGreatDoorZ10
namespace Go.Proofs.YtbfefoidpgbjaaaGreatDoor
open Go.RowKit
theorem root_from (n : Nat) : ∀ (t r : Nat), r * r ≤ n → n < (r + 2 ^ t) * (r + 2 ^ t) → Ieee.Datum.rootFrom n t r * Ieee.Datum.rootFrom n t r ≤ n ∧ n < (Ieee.Datum.rootFrom n t r + 1) * (Ieee.Datum.rootFrom n t r + 1)
 | 0, r, h1, h2 => by
  unfold Ieee.Datum.rootFrom
  exact ⟨h1, by simpa using h2⟩
 | t + 1, r, h1, h2 => by
  unfold Ieee.Datum.rootFrom
  simp only [Nat.shiftLeft_eq, Nat.one_mul]
  by_cases h : (r + 2 ^ t) * (r + 2 ^ t) ≤ n
  ·rw [if_pos h]
   refine root_from n t _ h ?_
   rw [Nat.add_assoc, show 2 ^ t + 2 ^ t = 2 ^ (t + 1) by rw [Nat.pow_succ]; omega]
   exact h2
  ·rw [if_neg h]
   exact root_from n t r h1 (by omega)
theorem root_whole (n : Nat) : Ieee.Datum.rootFrom n (n.log2 / 2 + 1) 0 * Ieee.Datum.rootFrom n (n.log2 / 2 + 1) 0 ≤ n ∧ n < (Ieee.Datum.rootFrom n (n.log2 / 2 + 1) 0 + 1) * (Ieee.Datum.rootFrom n (n.log2 / 2 + 1) 0 + 1) := by
 refine root_from n _ 0 (by simp) ?_
 rw [Nat.zero_add, ← Nat.pow_add]
 exact Nat.lt_of_lt_of_le (Nat.lt_log2_self (n := n)) (Nat.pow_le_pow_right (by omega) (by omega))
def topG : Nat := 1600
theorem far_root : val 7210263003420164096 = 4503599627370496 * 2 ^ topG := by
 unfold val
 rw [if_neg (by omega), show 7210263003420164096 % 4503599627370496 = 0 by decide, show 7210263003420164096 / 4503599627370496 - 1 = topG by decide]
def lowG : Nat := 537
theorem low_root : val 2422936599525326848 = 4503599627370496 * 2 ^ lowG := by
 unfold val
 rw [if_neg (by omega), show 2422936599525326848 % 4503599627370496 = 0 by decide, show 2422936599525326848 / 4503599627370496 - 1 = lowG by decide]
theorem log_bd {m : Nat} (h : m ≠ 0) (h2 : m < 9007199254740992) : m.log2 ≤ 52 := by
 have h1 := Nat.log2_self_le h
 rcases Nat.lt_or_ge m.log2 53 with g | g
 ·omega
 ·have := Nat.pow_le_pow_right (n := 2) (by omega) g
  have e : (2 : Nat) ^ 53 = 9007199254740992 := by decide
  omega
theorem root_told {a q : Nat} (ha : a < 18446744073709551616) (sa : someB a = true) (hs : sgn a = false) (hq : FloatKind.f64.format.sqrt a = some q) :
  ∃ (M : Nat) (p : Int), q = Ieee.double.nearest false M p ∧ 2 ^ 55 ≤ M ∧ M < 2 ^ 57 ∧ -593 ≤ p ∧ p ≤ 485 ∧ (174 ≤ (mg (rung a)).log2 + up (rung a) → -506 ≤ p) := by
 obtain ⟨fa, a0⟩ := some_rung sa
 have a0' : rung a ≠ 0 := by simpa using a0
 have hr := fin_rung fa
 have m1 : mg (rung a) ≠ 0 := by unfold mg; split <;> omega
 have m2 : mg (rung a) < 9007199254740992 := by unfold mg; split <;> omega
 have hu : up (rung a) ≤ 2045 := by unfold up; split <;> omega
 have hl := log_bd m1 m2
 have hq2 : ((Ieee.double.read a).root 54).map Ieee.double.write = some q := hq
 rw [read_fin ha fa, hs] at hq2
 simp only [Ieee.Datum.root] at hq2
 rw [if_neg m1, if_neg (by simp)] at hq2
 simp only [Option.map_some, Ieee.Format.write, Option.some.injEq] at hq2
 obtain ⟨u, hu1⟩ : ∃ u, up (rung a) = u := ⟨_, rfl⟩
 obtain ⟨M, hM⟩ : ∃ M, mg (rung a) = M := ⟨_, rfl⟩
 rw [hu1, hM] at hq2
 rw [hu1] at hu
 rw [hM] at m1 m2 hl
 rw [hu1, hM]
 obtain ⟨more, hmore⟩ : ∃ d, 2 * 54 - M.log2 + ((-1074 + (u : Int) - ((2 * 54 - M.log2 : Nat) : Int)) % 2).toNat = d := ⟨_, rfl⟩
 rw [hmore] at hq2
 have g1 : 108 ≤ M.log2 + more ∧ M.log2 + more ≤ 109 := by omega
 obtain ⟨w, hw⟩ : ∃ w, Ieee.Datum.rootFrom (M <<< more) ((M <<< more).log2 / 2 + 1) 0 = w := ⟨_, rfl⟩
 have hR := root_whole (M <<< more)
 rw [hw] at hq2 hR
 have n1 : 2 ^ 108 ≤ M <<< more := by
  rw [Nat.shiftLeft_eq]
  have h1 := Nat.log2_self_le m1
  have h2 := Nat.mul_le_mul_right (2 ^ more) h1
  rw [← Nat.pow_add] at h2
  exact Nat.le_trans (Nat.pow_le_pow_right (by omega) g1.1) h2
 have n2 : M <<< more < 2 ^ 110 := by
  rw [Nat.shiftLeft_eq]
  have h1 := Nat.lt_log2_self (n := M)
  have h2 := Nat.mul_lt_mul_of_pos_right h1 (Nat.two_pow_pos more)
  rw [← Nat.pow_add] at h2
  exact Nat.lt_of_lt_of_le h2 (Nat.pow_le_pow_right (by omega) (by omega))
 have w1 : 2 ^ 54 ≤ w := by
  rcases Nat.lt_or_ge w (2 ^ 54) with h | h
  ·exfalso
   have h2 : (w + 1) * (w + 1) ≤ 2 ^ 54 * 2 ^ 54 := Nat.mul_le_mul h h
   rw [← Nat.pow_add] at h2
   omega
  ·exact h
 have w2 : w < 2 ^ 55 := by
  rcases Nat.lt_or_ge w (2 ^ 55) with h | h
  ·exact h
  ·exfalso
   have h2 : 2 ^ 55 * 2 ^ 55 ≤ w * w := Nat.mul_le_mul h h
   rw [← Nat.pow_add] at h2
   omega
 have hb : (w * w != M <<< more).toNat ≤ 1 := by cases (w * w != M <<< more) <;> simp
 refine ⟨_, _, hq2.symm, ?_, ?_, ?_, ?_, fun h => ?_⟩ <;> omega
theorem root_rung {a q : Nat} (ha : a < 18446744073709551616) (sa : someB a = true) (hs : sgn a = false) (hq : FloatKind.f64.format.sqrt a = some q) :
  finB q = true ∧ rung q ≠ 0 ∧ sgn q = false ∧ (553942754166571008 ≤ rung a → twP ≤ up (rung q) + up (rung q)) := by
 obtain ⟨M, p, e1, M1, M2, p1, p2, p3⟩ := root_told ha sa hs hq
 obtain ⟨k, e, hk, c⟩ := near_anyD false p 0 (m := M) (by omega) (by omega)
 rw [e] at e1
 have hr := word_rung false (show k < 9223372036854775808 by omega)
 rw [← e1] at hr
 obtain ⟨hrk, hsk⟩ := hr
 obtain ⟨P, hP⟩ : ∃ P : Nat, (p + 1074 + ((0 : Nat) : Int)).toNat = P := ⟨_, rfl⟩
 rw [hP] at c
 have k0 : 0 < k := (c 0 (by omega)).2 (by
  left
  rw [show val 0 + val (0 + 1) = 1 by decide]
  have : M * 1 ≤ M * 2 ^ P := Nat.mul_le_mul_left _ (Nat.two_pow_pos P)
  omega)
 have kf : k ≤ 7210263003420164096 := by
  rcases Nat.lt_or_ge 7210263003420164096 k with h | h
  ·exfalso
   have h1 := (c 7210263003420164096 (by omega)).1 h
   have h2 : M * 2 ^ P ≤ 2 ^ 57 * 2 ^ P := Nat.mul_le_mul_right _ (by omega)
   have h3 : (2 : Nat) ^ 57 * 2 ^ P ≤ 2 ^ (52 + topG) := by
    rw [← Nat.pow_add]
    exact Nat.pow_le_pow_right (by omega) (by unfold topG; omega)
   rw [Nat.pow_add] at h3
   have hv : val 7210263003420164096 ≤ val (7210263003420164096 + 1) := Nat.le_of_lt (val_step _)
   unfold aboveD at h1
   rw [Nat.pow_zero, Nat.mul_one] at h1
   have ef := far_root
   generalize val 7210263003420164096 = V at *
   generalize val (7210263003420164096 + 1) = V' at *
   generalize (2 : Nat) ^ topG = T at *
   generalize M * 2 ^ P = X at *
   generalize (2 : Nat) ^ 57 * 2 ^ P = Y at *
   have e52 : (2 : Nat) ^ 52 = 4503599627370496 := by decide
   rw [e52] at h3
   rcases h1 with g | ⟨g, _⟩ <;> omega
  ·exact h
 have fq : finB q = true := by unfold finB; rw [hrk]; exact decide_eq_true (by omega)
 refine ⟨fq, by omega, hsk, fun h => ?_⟩
 rw [hrk]
 have m1 : mg (rung a) ≠ 0 := by
  unfold mg; split <;> omega
 have hla : 174 ≤ (mg (rung a)).log2 + up (rung a) := by
  have hva : 2 ^ 174 ≤ val (rung a) := by
   rw [← show val 553942754166571008 = 2 ^ 174 by decide]
   rcases Nat.lt_or_ge 553942754166571008 (rung a) with h | h
   ·exact Nat.le_of_lt (val_lt h)
   ·rw [show rung a = 553942754166571008 by omega]; exact Nat.le_refl _
  rw [← mg_up] at hva
  have h1 := Nat.lt_log2_self (n := mg (rung a))
  have h2 := Nat.mul_lt_mul_of_pos_right h1 (Nat.two_pow_pos (up (rung a)))
  rw [← Nat.pow_add] at h2
  have h3 := Nat.lt_of_le_of_lt hva h2
  have h4 := (Nat.pow_lt_pow_iff_right (by omega : 1 < 2)).1 h3
  omega
 have p4 := p3 hla
 have k1 : 2422936599525326848 ≤ k := by
  rcases Nat.lt_or_ge 2422936599525326847 k with h | h
  ·omega
  ·exfalso
   refine absurd ((c 2422936599525326847 (by omega)).2 ?_) (by omega)
   left
   have h2 : 2 ^ 55 * 2 ^ P ≤ M * 2 ^ P := Nat.mul_le_mul_right _ (by omega)
   have h3 : (2 : Nat) ^ (53 + lowG) ≤ 2 ^ 55 * 2 ^ P := by
    rw [← Nat.pow_add]
    exact Nat.pow_le_pow_right (by omega) (by unfold lowG; omega)
   rw [Nat.pow_add] at h3
   have hv : val 2422936599525326847 < val (2422936599525326847 + 1) := val_step _
   have ef := low_root
   rw [Nat.pow_zero, Nat.mul_one, show (2422936599525326847 : Nat) + 1 = 2422936599525326848 from rfl]
   rw [show (2422936599525326847 : Nat) + 1 = 2422936599525326848 from rfl] at hv
   have hz : 0 < (2 : Nat) ^ lowG := Nat.two_pow_pos _
   generalize val 2422936599525326847 = V at *
   generalize val 2422936599525326848 = V' at *
   generalize (2 : Nat) ^ lowG = T at *
   generalize M * 2 ^ P = X at *
   generalize (2 : Nat) ^ 55 * 2 ^ P = Y at *
   have e53 : (2 : Nat) ^ 53 = 9007199254740992 := by decide
   rw [e53] at h3
   omega
 have : 537 ≤ up k := by unfold up; split <;> omega
 unfold twP
 omega
def tQ (a : Nat) : Nat := (FloatKind.f64.format.sqrt a).getD 0
def tS (a : Nat) : Int := sgI (exX (negW (tQ a)) (tQ a) a)
theorem root_some {a : Nat} (ha : a < 18446744073709551616) (sa : someB a = true) (hs : sgn a = false) : FloatKind.f64.format.sqrt a = some (tQ a) := by
 obtain ⟨q, hq⟩ := (root_neg ha sa).2 hs
 unfold tQ; rw [hq]; rfl
set_option maxHeartbeats 1000000 in
theorem rsqrt_any (a : Nat) (m : Int) (ha : a < 18446744073709551616) (sa : someB a = true) (hs : sgn a = false) (w : World) (hT : TabW w) :
  Calls Tryz.prog 49 #[.float .f64 a, .int .i8 m] w fun e w' => e = .returned (.float .f64 (stepF (tQ a) (tS a) m)) ∧ Below w.heap.size w w' := by
 have fa := (some_rung sa).1
 have hq := root_some ha sa hs
 unfold tS
 obtain ⟨q, eq⟩ : ∃ q, tQ a = q := ⟨_, rfl⟩
 rw [eq] at hq ⊢
 obtain ⟨q1, q2⟩ := sqrt_word hq
 obtain ⟨fq, q0, sq, hpl⟩ := root_rung ha sa hs hq
 obtain ⟨r1, r2⟩ := neg_rung q1
 have hN := negW_lt q1
 have fn : finB (negW q) = true := (neg_fin q1).trans fq
 have hl := (root_neg ha sa).1
 rw [hs] at hl
 have hra := fin_rung fa
 by_cases hc : 553942754166571008 ≤ rung a
 ·obtain ⟨f, hf⟩ := fma_told2 hN q1 ha fn fq (by omega)
  have hsx := fma_sign hN q1 ha fn fq fa hf (exX_big (by rw [r1]; exact hpl hc))
  have hd := rsqrt_great a q f m ha sa hq q1 (calm_test hc (by omega)) hf (fma_word hf).1 hl w
  rw [hsx] at hd
  refine hd.mono ?_
  rintro e w' ⟨rfl, rfl⟩
  exact ⟨rfl, Below.refl _ _⟩
 ·have ht : (FloatKind.f64.format.order (rung a) 553942754166571008 == some .lt) = true := by
   rw [lt_num (by omega) (by omega) (nan_small (by omega)) (by decide), place_small (by omega), place_small (by omega)]
   exact decide_eq_true (by omega)
  have cs := fun w h => signOf_small (negW q) q a hN q1 ha fn fq fa ht w h
  have hu := run_negf
  have ca := some_any a ha
  have cq := msqrt_any a q hq
  rw [sa] at ca
  clear hq ht hc eq r1 r2 q2 fq fn hpl q0 sq
  generalize sgI (exX (negW q) q a) = s at *
  go_enter Tryz.func49, Tryz.ntmps49
  go_wp2_with (first
   | (go_at_call 60; refine (cq _).mono ?_; rintro e w' ⟨rfl, rfl⟩)
   | (go_at_call 53; refine (ca _).mono ?_; rintro e w' ⟨rfl, rfl⟩)
   | (go_at_call 55; refine (cs _ hT).mono ?_; rintro e w1 ⟨rfl, b1⟩)
   | (go_at_call 54; refine (step_any _ _ _ q1 _).mono ?_; rintro e w' ⟨rfl, rfl⟩))
  go_ret
  exact ⟨rfl, b1⟩
set_option maxHeartbeats 1000000 in
theorem rsqrt_sp (a : Nat) (m : Int) (ha : a < 18446744073709551616) (hs : (someB a && !sgn a) = false) (w : World) :
  Calls Tryz.prog 49 #[.float .f64 a, .int .i8 m] w fun e w' => ∃ r, e = .returned (.float .f64 r) ∧ NR (FloatKind.f64.format.sqrt a) r ∧ Below w.heap.size w w' := by
 have ca := some_any a ha
 cases sa : someB a <;> rw [sa] at ca
 ·clear hs
  go_enter Tryz.func49, Tryz.ntmps49
  go_wp2_with (first
   | (go_at_call 60; refine (msqrt_all a _).mono ?_; rintro e w1 ⟨r, rfl, hN, hB⟩)
   | (go_at_call 53; refine (ca _).mono ?_; rintro e w' ⟨rfl, rfl⟩))
  go_ret
  exact ⟨_, rfl, hN, hB⟩
 ·have hl := (root_neg ha sa).1
  rw [sa] at hs
  have sg : sgn a = true := by revert hs; cases sgn a <;> simp
  rw [sg] at hl
  clear hs sg
  go_enter Tryz.func49, Tryz.ntmps49
  go_wp2_with (first
   | (go_at_call 60; refine (msqrt_all a _).mono ?_; rintro e w1 ⟨r, rfl, hN, hB⟩)
   | (go_at_call 53; refine (ca _).mono ?_; rintro e w' ⟨rfl, rfl⟩))
  go_ret
  exact ⟨_, rfl, hN, hB⟩
end Go.Proofs.YtbfefoidpgbjaaaGreatDoor
