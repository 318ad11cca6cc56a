/- What the document's Sqrt answers of any float: what round's tells. -/
import Derived.Test.YtkjgilffljlanaaGreatDoorZm
import Derived.Test.YtkjgilffljlanaaGreatDoorZs
import Derived.Test.YtkjgilffljlanaaGreatDoorZ10
namespace Go.Proofs.YtkjgilffljlanaaGreatDoor
open Go.RowKit
theorem root_from (n : Nat) : ∀ (t r : Nat), r * r ≤ n → n < (r + 2 ^ t) * (r + 2 ^ t) → Ieee.Datum.rootFrom n t r * Ieee.Datum.rootFrom n t r ≤ n ∧ n < (Ieee.Datum.rootFrom n t r + 1) * (Ieee.Datum.rootFrom n t r + 1)
 | 0, r, h1, h2 => by
  unfold Ieee.Datum.rootFrom
  exact ⟨h1, by simpa using h2⟩
 | t + 1, r, h1, h2 => by
  unfold Ieee.Datum.rootFrom
  simp only [Nat.shiftLeft_eq, Nat.one_mul]
  by_cases h : (r + 2 ^ t) * (r + 2 ^ t) ≤ n
  ·rw [if_pos h]
   refine root_from n t _ h ?_
   rw [Nat.add_assoc, show 2 ^ t + 2 ^ t = 2 ^ (t + 1) by rw [Nat.pow_succ]; omega]
   exact h2
  ·rw [if_neg h]
   exact root_from n t r h1 (by omega)
theorem root_whole (n : Nat) : Ieee.Datum.rootFrom n (n.log2 / 2 + 1) 0 * Ieee.Datum.rootFrom n (n.log2 / 2 + 1) 0 ≤ n ∧ n < (Ieee.Datum.rootFrom n (n.log2 / 2 + 1) 0 + 1) * (Ieee.Datum.rootFrom n (n.log2 / 2 + 1) 0 + 1) := by
 refine root_from n _ 0 (by simp) ?_
 rw [Nat.zero_add, ← Nat.pow_add]
 exact Nat.lt_of_lt_of_le (Nat.lt_log2_self (n := n)) (Nat.pow_le_pow_right (by omega) (by omega))
def topG : Nat := 1600
theorem far_root : val 7210263003420164096 = 4503599627370496 * 2 ^ topG := by
 unfold val
 rw [if_neg (by omega), show 7210263003420164096 % 4503599627370496 = 0 by decide, show 7210263003420164096 / 4503599627370496 - 1 = topG by decide]
def lowG : Nat := 537
theorem low_root : val 2422936599525326848 = 4503599627370496 * 2 ^ lowG := by
 unfold val
 rw [if_neg (by omega), show 2422936599525326848 % 4503599627370496 = 0 by decide, show 2422936599525326848 / 4503599627370496 - 1 = lowG by decide]
theorem log_bd {m : Nat} (h : m ≠ 0) (h2 : m < 9007199254740992) : m.log2 ≤ 52 := by
 have h1 := Nat.log2_self_le h
 rcases Nat.lt_or_ge m.log2 53 with g | g
 ·omega
 ·have := Nat.pow_le_pow_right (n := 2) (by omega) g
  have e : (2 : Nat) ^ 53 = 9007199254740992 := by decide
  omega
theorem root_told {a q : Nat} (ha : a < 18446744073709551616) (sa : someB a = true) (hs : sgn a = false) (hq : FloatKind.f64.format.sqrt a = some q) :
  ∃ (M : Nat) (p : Int), q = Ieee.double.nearest false M p ∧ 2 ^ 55 ≤ M ∧ M < 2 ^ 57 ∧ -593 ≤ p ∧ p ≤ 485 ∧ (174 ≤ (mg (rung a)).log2 + up (rung a) → -506 ≤ p) := by
 obtain ⟨fa, a0⟩ := some_rung sa
 have a0' : rung a ≠ 0 := by simpa using a0
 have hr := fin_rung fa
 have m1 : mg (rung a) ≠ 0 := by unfold mg; split <;> omega
 have m2 : mg (rung a) < 9007199254740992 := by unfold mg; split <;> omega
 have hu : up (rung a) ≤ 2045 := by unfold up; split <;> omega
 have hl := log_bd m1 m2
 have hq2 : ((Ieee.double.read a).root 54).map Ieee.double.write = some q := hq
 rw [read_fin ha fa, hs] at hq2
 simp only [Ieee.Datum.root] at hq2
 rw [if_neg m1, if_neg (by simp)] at hq2
 simp only [Option.map_some, Ieee.Format.write, Option.some.injEq] at hq2
 obtain ⟨u, hu1⟩ : ∃ u, up (rung a) = u := ⟨_, rfl⟩
 obtain ⟨M, hM⟩ : ∃ M, mg (rung a) = M := ⟨_, rfl⟩
 rw [hu1, hM] at hq2
 rw [hu1] at hu
 rw [hM] at m1 m2 hl
 rw [hu1, hM]
 obtain ⟨more, hmore⟩ : ∃ d, 2 * 54 - M.log2 + ((-1074 + (u : Int) - ((2 * 54 - M.log2 : Nat) : Int)) % 2).toNat = d := ⟨_, rfl⟩
 rw [hmore] at hq2
 have g1 : 108 ≤ M.log2 + more ∧ M.log2 + more ≤ 109 := by omega
 obtain ⟨w, hw⟩ : ∃ w, Ieee.Datum.rootFrom (M <<< more) ((M <<< more).log2 / 2 + 1) 0 = w := ⟨_, rfl⟩
 have hR := root_whole (M <<< more)
 rw [hw] at hq2 hR
 have n1 : 2 ^ 108 ≤ M <<< more := by
  rw [Nat.shiftLeft_eq]
  have h1 := Nat.log2_self_le m1
  have h2 := Nat.mul_le_mul_right (2 ^ more) h1
  rw [← Nat.pow_add] at h2
  exact Nat.le_trans (Nat.pow_le_pow_right (by omega) g1.1) h2
 have n2 : M <<< more < 2 ^ 110 := by
  rw [Nat.shiftLeft_eq]
  have h1 := Nat.lt_log2_self (n := M)
  have h2 := Nat.mul_lt_mul_of_pos_right h1 (Nat.two_pow_pos more)
  rw [← Nat.pow_add] at h2
  exact Nat.lt_of_lt_of_le h2 (Nat.pow_le_pow_right (by omega) (by omega))
 have w1 : 2 ^ 54 ≤ w := by
  rcases Nat.lt_or_ge w (2 ^ 54) with h | h
  ·exfalso
   have h2 : (w + 1) * (w + 1) ≤ 2 ^ 54 * 2 ^ 54 := Nat.mul_le_mul h h
   rw [← Nat.pow_add] at h2
   omega
  ·exact h
 have w2 : w < 2 ^ 55 := by
  rcases Nat.lt_or_ge w (2 ^ 55) with h | h
  ·exact h
  ·exfalso
   have h2 : 2 ^ 55 * 2 ^ 55 ≤ w * w := Nat.mul_le_mul h h
   rw [← Nat.pow_add] at h2
   omega
 have hb : (w * w != M <<< more).toNat ≤ 1 := by cases (w * w != M <<< more) <;> simp
 refine ⟨_, _, hq2.symm, ?_, ?_, ?_, ?_, fun h => ?_⟩ <;> omega
theorem root_rung {a q : Nat} (ha : a < 18446744073709551616) (sa : someB a = true) (hs : sgn a = false) (hq : FloatKind.f64.format.sqrt a = some q) :
  finB q = true ∧ rung q ≠ 0 ∧ sgn q = false ∧ (553942754166571008 ≤ rung a → twP ≤ up (rung q) + up (rung q)) := by
 obtain ⟨M, p, e1, M1, M2, p1, p2, p3⟩ := root_told ha sa hs hq
 obtain ⟨k, e, hk, c⟩ := near_anyD false p 0 (m := M) (by omega) (by omega)
 rw [e] at e1
 have hr := word_rung false (show k < 9223372036854775808 by omega)
 rw [← e1] at hr
 obtain ⟨hrk, hsk⟩ := hr
 obtain ⟨P, hP⟩ : ∃ P : Nat, (p + 1074 + ((0 : Nat) : Int)).toNat = P := ⟨_, rfl⟩
 rw [hP] at c
 have k0 : 0 < k := (c 0 (by omega)).2 (by
  left
  rw [show val 0 + val (0 + 1) = 1 by decide]
  have : M * 1 ≤ M * 2 ^ P := Nat.mul_le_mul_left _ (Nat.two_pow_pos P)
  omega)
 have kf : k ≤ 7210263003420164096 := by
  rcases Nat.lt_or_ge 7210263003420164096 k with h | h
  ·exfalso
   have h1 := (c 7210263003420164096 (by omega)).1 h
   have h2 : M * 2 ^ P ≤ 2 ^ 57 * 2 ^ P := Nat.mul_le_mul_right _ (by omega)
   have h3 : (2 : Nat) ^ 57 * 2 ^ P ≤ 2 ^ (52 + topG) := by
    rw [← Nat.pow_add]
    exact Nat.pow_le_pow_right (by omega) (by unfold topG; omega)
   rw [Nat.pow_add] at h3
   have hv : val 7210263003420164096 ≤ val (7210263003420164096 + 1) := Nat.le_of_lt (val_step _)
   unfold aboveD at h1
   rw [Nat.pow_zero, Nat.mul_one] at h1
   have ef := far_root
   generalize val 7210263003420164096 = V at *
   generalize val (7210263003420164096 + 1) = V' at *
   generalize (2 : Nat) ^ topG = T at *
   generalize M * 2 ^ P = X at *
   generalize (2 : Nat) ^ 57 * 2 ^ P = Y at *
   have e52 : (2 : Nat) ^ 52 = 4503599627370496 := by decide
   rw [e52] at h3
   rcases h1 with g | ⟨g, _⟩ <;> omega
  ·exact h
 have fq : finB q = true := by unfold finB; rw [hrk]; exact decide_eq_true (by omega)
 refine ⟨fq, by omega, hsk, fun h => ?_⟩
 rw [hrk]
 have m1 : mg (rung a) ≠ 0 := by
  unfold mg; split <;> omega
 have hla : 174 ≤ (mg (rung a)).log2 + up (rung a) := by
  have hva : 2 ^ 174 ≤ val (rung a) := by
   rw [← show val 553942754166571008 = 2 ^ 174 by decide]
   rcases Nat.lt_or_ge 553942754166571008 (rung a) with h | h
   ·exact Nat.le_of_lt (val_lt h)
   ·rw [show rung a = 553942754166571008 by omega]; exact Nat.le_refl _
  rw [← mg_up] at hva
  have h1 := Nat.lt_log2_self (n := mg (rung a))
  have h2 := Nat.mul_lt_mul_of_pos_right h1 (Nat.two_pow_pos (up (rung a)))
  rw [← Nat.pow_add] at h2
  have h3 := Nat.lt_of_le_of_lt hva h2
  have h4 := (Nat.pow_lt_pow_iff_right (by omega : 1 < 2)).1 h3
  omega
 have p4 := p3 hla
 have k1 : 2422936599525326848 ≤ k := by
  rcases Nat.lt_or_ge 2422936599525326847 k with h | h
  ·omega
  ·exfalso
   refine absurd ((c 2422936599525326847 (by omega)).2 ?_) (by omega)
   left
   have h2 : 2 ^ 55 * 2 ^ P ≤ M * 2 ^ P := Nat.mul_le_mul_right _ (by omega)
   have h3 : (2 : Nat) ^ (53 + lowG) ≤ 2 ^ 55 * 2 ^ P := by
    rw [← Nat.pow_add]
    exact Nat.pow_le_pow_right (by omega) (by unfold lowG; omega)
   rw [Nat.pow_add] at h3
   have hv : val 2422936599525326847 < val (2422936599525326847 + 1) := val_step _
   have ef := low_root
   rw [Nat.pow_zero, Nat.mul_one, show (2422936599525326847 : Nat) + 1 = 2422936599525326848 from rfl]
   rw [show (2422936599525326847 : Nat) + 1 = 2422936599525326848 from rfl] at hv
   have hz : 0 < (2 : Nat) ^ lowG := Nat.two_pow_pos _
   generalize val 2422936599525326847 = V at *
   generalize val 2422936599525326848 = V' at *
   generalize (2 : Nat) ^ lowG = T at *
   generalize M * 2 ^ P = X at *
   generalize (2 : Nat) ^ 55 * 2 ^ P = Y at *
   have e53 : (2 : Nat) ^ 53 = 9007199254740992 := by decide
   rw [e53] at h3
   omega
 have : 537 ≤ up k := by unfold up; split <;> omega
 unfold twP
 omega
def tQ (a : Nat) : Nat := (FloatKind.f64.format.sqrt a).getD 0
def tS (a : Nat) : Int := sgI (exX (negW (tQ a)) (tQ a) a)
theorem root_some {a : Nat} (ha : a < 18446744073709551616) (sa : someB a = true) (hs : sgn a = false) : FloatKind.f64.format.sqrt a = some (tQ a) := by
 obtain ⟨q, hq⟩ := (root_neg ha sa).2 hs
 unfold tQ; rw [hq]; rfl
set_option maxHeartbeats 1000000 in
theorem rsqrt_any (a : Nat) (m : Int) (ha : a < 18446744073709551616) (sa : someB a = true) (hs : sgn a = false) (w : World) (hT : TabW w) :
  Calls Tryz.prog 72 #[.float .f64 a, .int .i8 m] w fun e w' => e = .returned (.float .f64 (stepF (tQ a) (tS a) m)) ∧ Below w.heap.size w w' := by
 have fa := (some_rung sa).1
 have hq := root_some ha sa hs
 unfold tS
 obtain ⟨q, eq⟩ : ∃ q, tQ a = q := ⟨_, rfl⟩
 rw [eq] at hq ⊢
 obtain ⟨q1, q2⟩ := sqrt_word hq
 obtain ⟨fq, q0, sq, hpl⟩ := root_rung ha sa hs hq
 obtain ⟨r1, r2⟩ := neg_rung q1
 have hN := negW_lt q1
 have fn : finB (negW q) = true := (neg_fin q1).trans fq
 have hl := (root_neg ha sa).1
 rw [hs] at hl
 have hra := fin_rung fa
 by_cases hc : 553942754166571008 ≤ rung a
 ·obtain ⟨f, hf⟩ := fma_told2 hN q1 ha fn fq (by omega)
  have hsx := fma_sign hN q1 ha fn fq fa hf (exX_big (by rw [r1]; exact hpl hc))
  have hd := rsqrt_great a q f m ha sa hq q1 (calm_test hc (by omega)) hf (fma_word hf).1 hl w
  rw [hsx] at hd
  refine hd.mono ?_
  rintro e w' ⟨rfl, rfl⟩
  exact ⟨rfl, Below.refl _ _⟩
 ·have ht : (FloatKind.f64.format.order (rung a) 553942754166571008 == some .lt) = true := by
   rw [lt_num (by omega) (by omega) (nan_small (by omega)) (by decide), place_small (by omega), place_small (by omega)]
   exact decide_eq_true (by omega)
  have cs := fun w h => signOf_small (negW q) q a hN q1 ha fn fq fa ht w h
  have hu := run_negf
  have ca := some_any a ha
  have cq := msqrt_any a q hq
  rw [sa] at ca
  clear hq ht hc eq r1 r2 q2 fq fn hpl q0 sq
  generalize sgI (exX (negW q) q a) = s at *
  go_enter Tryz.func72, Tryz.ntmps72
  go_wp2_with (first
   | (go_at_call 84; refine (cq _).mono ?_; rintro e w' ⟨rfl, rfl⟩)
   | (go_at_call 76; refine (ca _).mono ?_; rintro e w' ⟨rfl, rfl⟩)
   | (go_at_call 78; refine (cs _ hT).mono ?_; rintro e w1 ⟨rfl, b1⟩)
   | (go_at_call 77; refine (step_any _ _ _ q1 _).mono ?_; rintro e w' ⟨rfl, rfl⟩))
  go_ret
  exact ⟨rfl, b1⟩
set_option maxHeartbeats 1000000 in
theorem rsqrt_sp (a : Nat) (m : Int) (ha : a < 18446744073709551616) (hs : (someB a && !sgn a) = false) (w : World) :
  Calls Tryz.prog 72 #[.float .f64 a, .int .i8 m] w fun e w' => ∃ r, e = .returned (.float .f64 r) ∧ NR (FloatKind.f64.format.sqrt a) r ∧ Below w.heap.size w w' := by
 have ca := some_any a ha
 cases sa : someB a <;> rw [sa] at ca
 ·clear hs
  go_enter Tryz.func72, Tryz.ntmps72
  go_wp2_with (first
   | (go_at_call 84; refine (msqrt_all a _).mono ?_; rintro e w1 ⟨r, rfl, hN, hB⟩)
   | (go_at_call 76; refine (ca _).mono ?_; rintro e w' ⟨rfl, rfl⟩))
  go_ret
  exact ⟨_, rfl, hN, hB⟩
 ·have hl := (root_neg ha sa).1
  rw [sa] at hs
  have sg : sgn a = true := by revert hs; cases sgn a <;> simp
  rw [sg] at hl
  clear hs sg
  go_enter Tryz.func72, Tryz.ntmps72
  go_wp2_with (first
   | (go_at_call 84; refine (msqrt_all a _).mono ?_; rintro e w1 ⟨r, rfl, hN, hB⟩)
   | (go_at_call 76; refine (ca _).mono ?_; rintro e w' ⟨rfl, rfl⟩))
  go_ret
  exact ⟨_, rfl, hN, hB⟩
theorem zero_le {a : Nat} (ha : a < 18446744073709551616) (fa : finB a = true) : (FloatKind.f64.format.order a 0 == some .lt || FloatKind.f64.format.order a 0 == some .eq) = (sgn a || rung a == 0) := by
 have hr := fin_rung fa
 rw [zero_lt ha, zero_eq ha]
 unfold nanB place
 rw [decide_eq_false (by omega)]
 cases sgn a <;> simp <;> omega
set_option maxRecDepth 100000 in
set_option maxHeartbeats 2000000 in
theorem dsqrt_any (a : Nat) (m : Int) (ha : a < 18446744073709551616) (sa : someB a = true) (hs : sgn a = false) (w : World) :
  Calls Tryz.prog 66 #[.float .f64 a, .int .i8 m] w fun e w' => e = .returned (.float .f64 (stepF (tQ a) (tS a) m)) ∧ Below w.heap.size w w' := by
 have fa := (some_rung sa).1
 have a0 : rung a ≠ 0 := by simpa using (some_rung sa).2
 have hq := root_some ha sa hs
 unfold tS
 obtain ⟨q, eq⟩ : ∃ q, tQ a = q := ⟨_, rfl⟩
 rw [eq] at hq ⊢
 obtain ⟨q1, q2⟩ := sqrt_word hq
 obtain ⟨fq, q0, sq, hpl⟩ := root_rung ha sa hs hq
 obtain ⟨r1, r2⟩ := neg_rung q1
 have hN := negW_lt q1
 have fn : finB (negW q) = true := (neg_fin q1).trans fq
 have na : nanB a = false := rung_nan (by have := fin_rung fa; omega)
 have hl := zero_le ha fa
 rw [hs, show (rung a == 0) = false by simpa using a0] at hl
 simp only [Bool.or_self] at hl
 have ca := dfin_all a ha
 rw [fa] at ca
 have cq := msqrt_any a q hq
 have ma := middle_any a ha na
 have cside := side_all q (sgI (exX (negW q) q a)) m q1 fq (fun h => absurd h q0)
 have ua := up_le46 fa
 have uq := up_le46 fq
 cases qa : midB a <;> rw [qa] at ma
 ·have eA := fun w => exact00_any a ha w
  have eQ := fun w => exact00_any q q1 w
  have hT := fun ao bo cap bcap w (p1 : NS w ao cap (flD q).mag) (p2 : NS w bo bcap (flD q).mag) => times_any (flD q) (flD q) ao bo cap bcap w p1 p2 (lo_lm _) (lo_lm _) (by have := fl_len q; unfold flD; simp only; omega) (by have := fl_len q; unfold flD; simp only; omega) (by unfold flD; simp only; omega) (by unfold flD; simp only; omega)
  have hC := fun ao bo cap bcap w (p1 : NS w ao cap (flD a).mag) (p2 : NS w bo bcap (tmD q q).mag) => compare_any (flD a) (tmD q q) ao bo cap bcap w p1 p2 (lo_lm _) (lo_lm _) (by have := fl_len a; unfold flD; simp only; omega) (by have := tm_len q q; unfold tmD; simp only; omega) (by unfold flD; simp only; omega) (by unfold flD; simp only; omega) (by unfold tmD; simp only; omega) (by unfold tmD; simp only; omega)
  rw [cmp_quot q1] at hC
  have etm : (⟨(flD q).neg != (flD q).neg, lo (vl (flD q).mag * vl (flD q).mag), (flD q).exp + (flD q).exp⟩ : Dy) = tmD q q := rfl
  rw [etm] at hT
  clear hq eq fq q2 r1 r2 ua uq etm hpl q0 sq fn
  generalize flD a = A at *
  generalize flD q = Q at *
  generalize tmD q q = T at *
  generalize sgI (exX (negW q) q a) = s at *
  go_enter Tryz.func66, Tryz.ntmps66
  go_wp2_with (first
   | (go_at_call 84; refine (cq _).mono ?_; rintro e w' ⟨rfl, rfl⟩)
   | (go_at_call 85; refine (ca _).mono ?_; rintro e w1 ⟨rfl, bz⟩)
   | (go_at_call 86; refine (ma _).mono ?_; rintro e w' ⟨rfl, rfl⟩)
   | (go_at_call_of 91 (Value.float FloatKind.f64 a); refine (eA _).mono ?_; rintro e w4 ⟨oa, na2, rfl, n4, _, b4⟩; have bz := bz.trans (b4.mono bz.size))
   | (go_at_call_of 91 (Value.float FloatKind.f64 q); refine (eQ _).mono ?_; rintro e w6 ⟨oq2, nq3, rfl, n6, _, b6⟩; have n56 := n5.below b6; have n46 := (n4.below b5).below b6; have bz := bz.trans (b6.mono bz.size))
   | (go_at_call_of 91 (Value.float FloatKind.f64 q); refine (eQ _).mono ?_; rintro e w5 ⟨oq, nq2, rfl, n5, _, b5⟩; have bz := bz.trans (b5.mono bz.size))
   | (go_at_call 92; refine (hT _ _ _ _ _ n56 n6).mono ?_; rintro e w7 ⟨ot, nt, rfl, n7, _, b7⟩; have bz := bz.trans (b7.mono bz.size))
   | (go_at_call 90; refine (hC _ _ _ _ _ (n46.below b7) n7).mono ?_; rintro e w8 ⟨rfl, b8⟩; have bz := bz.trans (b8.mono bz.size))
   | (go_at_call 87; refine (cside _).mono ?_; rintro e w' ⟨rfl, rfl⟩))
  go_ret
  exact ⟨rfl, bz⟩
 ·obtain ⟨g1, _⟩ : 553942754166571008 ≤ rung a ∧ rung a ≤ 8660422083433463808 := by unfold midB at qa; simpa using qa
  obtain ⟨f, hf⟩ := fma_told2 hN q1 ha fn fq (by have := fin_rung fa; omega)
  have hsx := fma_sign hN q1 ha fn fq fa hf (exX_big (by rw [r1]; exact hpl g1))
  have hfm := run_fma (negW q) q a f hf
  have csg := dsign_any f (fma_word hf).1
  rw [hsx] at csg
  have hu := run_negf
  clear hq eq fq q2 r1 r2 ua uq hpl q0 sq fn hf hsx g1 qa
  generalize sgI (exX (negW q) q a) = s at *
  go_enter Tryz.func66, Tryz.ntmps66
  go_wp2_with (first
   | (go_at_call 84; refine (cq _).mono ?_; rintro e w' ⟨rfl, rfl⟩)
   | (go_at_call 85; refine (ca _).mono ?_; rintro e w1 ⟨rfl, bz⟩)
   | (go_at_call 86; refine (ma _).mono ?_; rintro e w' ⟨rfl, rfl⟩)
   | (go_at_call 88; refine (csg _).mono ?_; rintro e w' ⟨rfl, rfl⟩)
   | (go_at_call 87; refine (cside _).mono ?_; rintro e w' ⟨rfl, rfl⟩))
  go_ret
  exact ⟨rfl, bz⟩
end Go.Proofs.YtkjgilffljlanaaGreatDoor
