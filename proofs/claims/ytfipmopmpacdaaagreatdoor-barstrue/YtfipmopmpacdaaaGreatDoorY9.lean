/- What the document's Sqrt answers of any float: what round's tells. -/
import Derived.Test.YtfipmopmpacdaaaGreatDoorZm
import Derived.Test.YtfipmopmpacdaaaGreatDoorY5
import Derived.Test.YtfipmopmpacdaaaGreatDoorZt
import Derived.Test.YtfipmopmpacdaaaGreatDoorU2
import Derived.Test.YtfipmopmpacdaaaGreatDoorZi
import Derived.Test.YtfipmopmpacdaaaGreatDoorZ10
namespace Go.Proofs.YtfipmopmpacdaaaGreatDoor
open Go.RowKit
theorem root_from (n : Nat) : ∀ (t r : Nat), r * r ≤ n → n < (r + 2 ^ t) * (r + 2 ^ t) → Ieee.Datum.rootFrom n t r * Ieee.Datum.rootFrom n t r ≤ n ∧ n < (Ieee.Datum.rootFrom n t r + 1) * (Ieee.Datum.rootFrom n t r + 1)
 | 0, r, h1, h2 => by
  unfold Ieee.Datum.rootFrom
  exact ⟨h1, by simpa using h2⟩
 | t + 1, r, h1, h2 => by
  unfold Ieee.Datum.rootFrom
  simp only [Nat.shiftLeft_eq, Nat.one_mul]
  by_cases h : (r + 2 ^ t) * (r + 2 ^ t) ≤ n
  ·rw [if_pos h]
   refine root_from n t _ h ?_
   rw [Nat.add_assoc, show 2 ^ t + 2 ^ t = 2 ^ (t + 1) by rw [Nat.pow_succ]; omega]
   exact h2
  ·rw [if_neg h]
   exact root_from n t r h1 (by omega)
theorem root_whole (n : Nat) : Ieee.Datum.rootFrom n (n.log2 / 2 + 1) 0 * Ieee.Datum.rootFrom n (n.log2 / 2 + 1) 0 ≤ n ∧ n < (Ieee.Datum.rootFrom n (n.log2 / 2 + 1) 0 + 1) * (Ieee.Datum.rootFrom n (n.log2 / 2 + 1) 0 + 1) := by
 refine root_from n _ 0 (by simp) ?_
 rw [Nat.zero_add, ← Nat.pow_add]
 exact Nat.lt_of_lt_of_le (Nat.lt_log2_self (n := n)) (Nat.pow_le_pow_right (by omega) (by omega))
def topG : Nat := 1600
theorem far_root : val 7210263003420164096 = 4503599627370496 * 2 ^ topG := by
 unfold val
 rw [if_neg (by omega), show 7210263003420164096 % 4503599627370496 = 0 by decide, show 7210263003420164096 / 4503599627370496 - 1 = topG by decide]
def lowG : Nat := 537
theorem low_root : val 2422936599525326848 = 4503599627370496 * 2 ^ lowG := by
 unfold val
 rw [if_neg (by omega), show 2422936599525326848 % 4503599627370496 = 0 by decide, show 2422936599525326848 / 4503599627370496 - 1 = lowG by decide]
theorem log_bd {m : Nat} (h : m ≠ 0) (h2 : m < 9007199254740992) : m.log2 ≤ 52 := by
 have h1 := Nat.log2_self_le h
 rcases Nat.lt_or_ge m.log2 53 with g | g
 ·omega
 ·have := Nat.pow_le_pow_right (n := 2) (by omega) g
  have e : (2 : Nat) ^ 53 = 9007199254740992 := by decide
  omega
theorem root_told {a q : Nat} (ha : a < 18446744073709551616) (sa : someB a = true) (hs : sgn a = false) (hq : FloatKind.f64.format.sqrt a = some q) :
  ∃ (M : Nat) (p : Int), q = Ieee.double.nearest false M p ∧ 2 ^ 55 ≤ M ∧ M < 2 ^ 57 ∧ -593 ≤ p ∧ p ≤ 485 ∧ (174 ≤ (mg (rung a)).log2 + up (rung a) → -506 ≤ p) := by
 obtain ⟨fa, a0⟩ := some_rung sa
 have a0' : rung a ≠ 0 := by simpa using a0
 have hr := fin_rung fa
 have m1 : mg (rung a) ≠ 0 := by unfold mg; split <;> omega
 have m2 : mg (rung a) < 9007199254740992 := by unfold mg; split <;> omega
 have hu : up (rung a) ≤ 2045 := by unfold up; split <;> omega
 have hl := log_bd m1 m2
 have hq2 : ((Ieee.double.read a).root 54).map Ieee.double.write = some q := hq
 rw [read_fin ha fa, hs] at hq2
 simp only [Ieee.Datum.root] at hq2
 rw [if_neg m1, if_neg (by simp)] at hq2
 simp only [Option.map_some, Ieee.Format.write, Option.some.injEq] at hq2
 obtain ⟨u, hu1⟩ : ∃ u, up (rung a) = u := ⟨_, rfl⟩
 obtain ⟨M, hM⟩ : ∃ M, mg (rung a) = M := ⟨_, rfl⟩
 rw [hu1, hM] at hq2
 rw [hu1] at hu
 rw [hM] at m1 m2 hl
 rw [hu1, hM]
 obtain ⟨more, hmore⟩ : ∃ d, 2 * 54 - M.log2 + ((-1074 + (u : Int) - ((2 * 54 - M.log2 : Nat) : Int)) % 2).toNat = d := ⟨_, rfl⟩
 rw [hmore] at hq2
 have g1 : 108 ≤ M.log2 + more ∧ M.log2 + more ≤ 109 := by omega
 obtain ⟨w, hw⟩ : ∃ w, Ieee.Datum.rootFrom (M <<< more) ((M <<< more).log2 / 2 + 1) 0 = w := ⟨_, rfl⟩
 have hR := root_whole (M <<< more)
 rw [hw] at hq2 hR
 have n1 : 2 ^ 108 ≤ M <<< more := by
  rw [Nat.shiftLeft_eq]
  have h1 := Nat.log2_self_le m1
  have h2 := Nat.mul_le_mul_right (2 ^ more) h1
  rw [← Nat.pow_add] at h2
  exact Nat.le_trans (Nat.pow_le_pow_right (by omega) g1.1) h2
 have n2 : M <<< more < 2 ^ 110 := by
  rw [Nat.shiftLeft_eq]
  have h1 := Nat.lt_log2_self (n := M)
  have h2 := Nat.mul_lt_mul_of_pos_right h1 (Nat.two_pow_pos more)
  rw [← Nat.pow_add] at h2
  exact Nat.lt_of_lt_of_le h2 (Nat.pow_le_pow_right (by omega) (by omega))
 have w1 : 2 ^ 54 ≤ w := by
  rcases Nat.lt_or_ge w (2 ^ 54) with h | h
  ·exfalso
   have h2 : (w + 1) * (w + 1) ≤ 2 ^ 54 * 2 ^ 54 := Nat.mul_le_mul h h
   rw [← Nat.pow_add] at h2
   omega
  ·exact h
 have w2 : w < 2 ^ 55 := by
  rcases Nat.lt_or_ge w (2 ^ 55) with h | h
  ·exact h
  ·exfalso
   have h2 : 2 ^ 55 * 2 ^ 55 ≤ w * w := Nat.mul_le_mul h h
   rw [← Nat.pow_add] at h2
   omega
 have hb : (w * w != M <<< more).toNat ≤ 1 := by cases (w * w != M <<< more) <;> simp
 refine ⟨_, _, hq2.symm, ?_, ?_, ?_, ?_, fun h => ?_⟩ <;> omega
theorem root_rung {a q : Nat} (ha : a < 18446744073709551616) (sa : someB a = true) (hs : sgn a = false) (hq : FloatKind.f64.format.sqrt a = some q) :
  finB q = true ∧ rung q ≠ 0 ∧ sgn q = false ∧ (553942754166571008 ≤ rung a → twP ≤ up (rung q) + up (rung q)) := by
 obtain ⟨M, p, e1, M1, M2, p1, p2, p3⟩ := root_told ha sa hs hq
 obtain ⟨k, e, hk, c⟩ := near_anyD false p 0 (m := M) (by omega) (by omega)
 rw [e] at e1
 have hr := word_rung false (show k < 9223372036854775808 by omega)
 rw [← e1] at hr
 obtain ⟨hrk, hsk⟩ := hr
 obtain ⟨P, hP⟩ : ∃ P : Nat, (p + 1074 + ((0 : Nat) : Int)).toNat = P := ⟨_, rfl⟩
 rw [hP] at c
 have k0 : 0 < k := (c 0 (by omega)).2 (by
  left
  rw [show val 0 + val (0 + 1) = 1 by decide]
  have : M * 1 ≤ M * 2 ^ P := Nat.mul_le_mul_left _ (Nat.two_pow_pos P)
  omega)
 have kf : k ≤ 7210263003420164096 := by
  rcases Nat.lt_or_ge 7210263003420164096 k with h | h
  ·exfalso
   have h1 := (c 7210263003420164096 (by omega)).1 h
   have h2 : M * 2 ^ P ≤ 2 ^ 57 * 2 ^ P := Nat.mul_le_mul_right _ (by omega)
   have h3 : (2 : Nat) ^ 57 * 2 ^ P ≤ 2 ^ (52 + topG) := by
    rw [← Nat.pow_add]
    exact Nat.pow_le_pow_right (by omega) (by unfold topG; omega)
   rw [Nat.pow_add] at h3
   have hv : val 7210263003420164096 ≤ val (7210263003420164096 + 1) := Nat.le_of_lt (val_step _)
   unfold aboveD at h1
   rw [Nat.pow_zero, Nat.mul_one] at h1
   have ef := far_root
   generalize val 7210263003420164096 = V at *
   generalize val (7210263003420164096 + 1) = V' at *
   generalize (2 : Nat) ^ topG = T at *
   generalize M * 2 ^ P = X at *
   generalize (2 : Nat) ^ 57 * 2 ^ P = Y at *
   have e52 : (2 : Nat) ^ 52 = 4503599627370496 := by decide
   rw [e52] at h3
   rcases h1 with g | ⟨g, _⟩ <;> omega
  ·exact h
 have fq : finB q = true := by unfold finB; rw [hrk]; exact decide_eq_true (by omega)
 refine ⟨fq, by omega, hsk, fun h => ?_⟩
 rw [hrk]
 have m1 : mg (rung a) ≠ 0 := by
  unfold mg; split <;> omega
 have hla : 174 ≤ (mg (rung a)).log2 + up (rung a) := by
  have hva : 2 ^ 174 ≤ val (rung a) := by
   rw [← show val 553942754166571008 = 2 ^ 174 by decide]
   rcases Nat.lt_or_ge 553942754166571008 (rung a) with h | h
   ·exact Nat.le_of_lt (val_lt h)
   ·rw [show rung a = 553942754166571008 by omega]; exact Nat.le_refl _
  rw [← mg_up] at hva
  have h1 := Nat.lt_log2_self (n := mg (rung a))
  have h2 := Nat.mul_lt_mul_of_pos_right h1 (Nat.two_pow_pos (up (rung a)))
  rw [← Nat.pow_add] at h2
  have h3 := Nat.lt_of_le_of_lt hva h2
  have h4 := (Nat.pow_lt_pow_iff_right (by omega : 1 < 2)).1 h3
  omega
 have p4 := p3 hla
 have k1 : 2422936599525326848 ≤ k := by
  rcases Nat.lt_or_ge 2422936599525326847 k with h | h
  ·omega
  ·exfalso
   refine absurd ((c 2422936599525326847 (by omega)).2 ?_) (by omega)
   left
   have h2 : 2 ^ 55 * 2 ^ P ≤ M * 2 ^ P := Nat.mul_le_mul_right _ (by omega)
   have h3 : (2 : Nat) ^ (53 + lowG) ≤ 2 ^ 55 * 2 ^ P := by
    rw [← Nat.pow_add]
    exact Nat.pow_le_pow_right (by omega) (by unfold lowG; omega)
   rw [Nat.pow_add] at h3
   have hv : val 2422936599525326847 < val (2422936599525326847 + 1) := val_step _
   have ef := low_root
   rw [Nat.pow_zero, Nat.mul_one, show (2422936599525326847 : Nat) + 1 = 2422936599525326848 from rfl]
   rw [show (2422936599525326847 : Nat) + 1 = 2422936599525326848 from rfl] at hv
   have hz : 0 < (2 : Nat) ^ lowG := Nat.two_pow_pos _
   generalize val 2422936599525326847 = V at *
   generalize val 2422936599525326848 = V' at *
   generalize (2 : Nat) ^ lowG = T at *
   generalize M * 2 ^ P = X at *
   generalize (2 : Nat) ^ 55 * 2 ^ P = Y at *
   have e53 : (2 : Nat) ^ 53 = 9007199254740992 := by decide
   rw [e53] at h3
   omega
 have : 537 ≤ up k := by unfold up; split <;> omega
 unfold twP
 omega
def tQ (a : Nat) : Nat := (FloatKind.f64.format.sqrt a).getD 0
def tS (a : Nat) : Int := sgI (exX (negW (tQ a)) (tQ a) a)
theorem root_some {a : Nat} (ha : a < 18446744073709551616) (sa : someB a = true) (hs : sgn a = false) : FloatKind.f64.format.sqrt a = some (tQ a) := by
 obtain ⟨q, hq⟩ := (root_neg ha sa).2 hs
 unfold tQ; rw [hq]; rfl
set_option maxHeartbeats 1000000 in
theorem rsqrt_any (a : Nat) (m : Int) (ha : a < 18446744073709551616) (sa : someB a = true) (hs : sgn a = false) (w : World) (hT : TabW w) :
  Calls Tryz.prog 69 #[.float .f64 a, .int .i8 m] w fun e w' => e = .returned (.float .f64 (stepF (tQ a) (tS a) m)) ∧ Below w.heap.size w w' := by
 have fa := (some_rung sa).1
 have hq := root_some ha sa hs
 unfold tS
 obtain ⟨q, eq⟩ : ∃ q, tQ a = q := ⟨_, rfl⟩
 rw [eq] at hq ⊢
 obtain ⟨q1, q2⟩ := sqrt_word hq
 obtain ⟨fq, q0, sq, hpl⟩ := root_rung ha sa hs hq
 obtain ⟨r1, r2⟩ := neg_rung q1
 have hN := negW_lt q1
 have fn : finB (negW q) = true := (neg_fin q1).trans fq
 have hl := (root_neg ha sa).1
 rw [hs] at hl
 have hra := fin_rung fa
 by_cases hc : 553942754166571008 ≤ rung a
 ·obtain ⟨f, hf⟩ := fma_told2 hN q1 ha fn fq (by omega)
  have hsx := fma_sign hN q1 ha fn fq fa hf (exX_big (by rw [r1]; exact hpl hc))
  have hd := rsqrt_great a q f m ha sa hq q1 (calm_test hc (by omega)) hf (fma_word hf).1 hl w
  rw [hsx] at hd
  refine hd.mono ?_
  rintro e w' ⟨rfl, rfl⟩
  exact ⟨rfl, Below.refl _ _⟩
 ·have ht : (FloatKind.f64.format.order (rung a) 553942754166571008 == some .lt) = true := by
   rw [lt_num (by omega) (by omega) (nan_small (by omega)) (by decide), place_small (by omega), place_small (by omega)]
   exact decide_eq_true (by omega)
  have cs := fun w h => signOf_small (negW q) q a hN q1 ha fn fq fa ht w h
  have hu := run_negf
  have ca := some_any a ha
  have cq := msqrt_any a q hq
  rw [sa] at ca
  clear hq ht hc eq r1 r2 q2 fq fn hpl q0 sq
  generalize sgI (exX (negW q) q a) = s at *
  go_enter Tryz.func69, Tryz.ntmps69
  go_wp2_with (first
   | (go_at_call 82; refine (cq _).mono ?_; rintro e w' ⟨rfl, rfl⟩)
   | (go_at_call 73; refine (ca _).mono ?_; rintro e w' ⟨rfl, rfl⟩)
   | (go_at_call 75; refine (cs _ hT).mono ?_; rintro e w1 ⟨rfl, b1⟩)
   | (go_at_call 74; refine (step_any _ _ _ q1 _).mono ?_; rintro e w' ⟨rfl, rfl⟩))
  go_ret
  exact ⟨rfl, b1⟩
set_option maxHeartbeats 1000000 in
theorem rsqrt_sp (a : Nat) (m : Int) (ha : a < 18446744073709551616) (hs : (someB a && !sgn a) = false) (w : World) :
  Calls Tryz.prog 69 #[.float .f64 a, .int .i8 m] w fun e w' => ∃ r, e = .returned (.float .f64 r) ∧ NR (FloatKind.f64.format.sqrt a) r ∧ Below w.heap.size w w' := by
 have ca := some_any a ha
 cases sa : someB a <;> rw [sa] at ca
 ·clear hs
  go_enter Tryz.func69, Tryz.ntmps69
  go_wp2_with (first
   | (go_at_call 82; refine (msqrt_all a _).mono ?_; rintro e w1 ⟨r, rfl, hN, hB⟩)
   | (go_at_call 73; refine (ca _).mono ?_; rintro e w' ⟨rfl, rfl⟩))
  go_ret
  exact ⟨_, rfl, hN, hB⟩
 ·have hl := (root_neg ha sa).1
  rw [sa] at hs
  have sg : sgn a = true := by revert hs; cases sgn a <;> simp
  rw [sg] at hl
  clear hs sg
  go_enter Tryz.func69, Tryz.ntmps69
  go_wp2_with (first
   | (go_at_call 82; refine (msqrt_all a _).mono ?_; rintro e w1 ⟨r, rfl, hN, hB⟩)
   | (go_at_call 73; refine (ca _).mono ?_; rintro e w' ⟨rfl, rfl⟩))
  go_ret
  exact ⟨_, rfl, hN, hB⟩
def rgS (k : Nat) (r m : Int) : Nat := if (m = 1 ∨ m = 3) ∧ r < 0 then k - 1 else if m = 2 ∧ 0 < r then k + 1 else k
def Brk (A : Nat) (G : Nat → Nat) (k : Nat) (r : Int) : Prop :=
 k ≤ 9218868437227405312 ∧ (r = 0 → k < 9218868437227405312 ∧ G k = A) ∧ (0 < r → k < 9218868437227405312 ∧ G k < A ∧ (k + 1 < 9218868437227405312 → A < G (k + 1))) ∧ (r < 0 → 0 < k ∧ G (k - 1) < A ∧ (k < 9218868437227405312 → A < G k))
theorem step_word (s : Bool) {k : Nat} {r : Int} {A : Nat} {G : Nat → Nat} (h : Brk A G k r) (m : Int) : stepF (Ieee.double.word s k) (if s then -r else r) m = Ieee.double.word s (rgS k r (if s then tmd m else m)) := by
 obtain ⟨hk, h0, h1, h2⟩ := h
 have g1 : k = 0 → ¬ r < 0 := fun e c => by have := (h2 c).1; omega
 have g2 : k = 9218868437227405312 → ¬ 0 < r := fun e c => by have := (h1 c).1; omega
 cases s
 ·simp only [Bool.false_eq_true, if_false]
  rw [word_k _ (by omega)]
  simp only [Bool.false_eq_true, if_false]
  rw [stepF_plus m hk g1 g2, word_k _ (by unfold rgS; split; omega; split <;> omega)]
  rfl
 ·simp only [if_true]
  rw [word_k _ (by omega), word_k _ (by unfold rgS; split; omega; split <;> omega)]
  simp only [if_true]
  rw [stepF_less m hk (fun e => by have := g1 e; omega) (fun e => by have := g2 e; omega)]
  congr 1
  unfold rgS
  have e1 : (tmd m = 1 ∨ tmd m = 3) ↔ (m = 2 ∨ m = 3) := by unfold tmd; (repeat' split) <;> omega
  have e2 : tmd m = 2 ↔ m = 1 := by unfold tmd; (repeat' split) <;> omega
  have E1 : ((m = 2 ∨ m = 3) ∧ 0 < -r) ↔ ((tmd m = 1 ∨ tmd m = 3) ∧ r < 0) := by rw [e1]; omega
  have E2 : (m = 1 ∧ -r < 0) ↔ (tmd m = 2 ∧ 0 < r) := by rw [e2]; omega
  simp only [E1, E2]
def Told (s : Bool) (A : Nat) (G : Nat → Nat) (f : Int → Nat) : Prop := ∃ k r, Brk A G k r ∧ ∀ m, f m = Ieee.double.word s (rgS k r (if s then tmd m else m))
theorem sgI_zero {x : Int} : sgI x = 0 ↔ x = 0 := by unfold sgI; (repeat' split) <;> omega
theorem sgI_lt {x : Int} : (sgI x < 0 ↔ x < 0) ∧ (0 < sgI x ↔ 0 < x) := by unfold sgI; (repeat' split) <;> omega
theorem near_brk {A k : Nat} (hN : NearK A k) (hA : 0 < A) : Brk A (fun q => val q * 2 ^ kV) k (sdN A k) := by
 have hK := Nat.two_pow_pos kV
 have hk := hN.1
 refine ⟨hk, fun h => ?_, fun h => ?_, fun h => ?_⟩
 ·unfold sdN at h
  split at h
  ·omega
  ·rename_i hi
   refine ⟨by omega, ?_⟩
   have := sgI_zero.1 h
   show val k * 2 ^ kV = A
   omega
 ·have hi : k < 9218868437227405312 := by
   rcases Nat.lt_or_ge k 9218868437227405312 with c | c
   ·exact c
   ·unfold sdN at h; rw [if_pos (by omega)] at h; omega
  have h1 := (sdN_lt hi).2.1 h
  refine ⟨hi, h1, fun _ => ?_⟩
  have h2 := near_up hN hi
  have h3 : val k * 2 ^ kV < val (k + 1) * 2 ^ kV := Nat.mul_lt_mul_of_pos_right (val_step k) hK
  rw [Nat.add_mul] at h2
  show A < val (k + 1) * 2 ^ kV
  omega
 ·have k0 : 0 < k := by
   rcases Nat.eq_zero_or_pos k with c | c
   ·subst c
    have := (sdN_lt (by omega)).1.1 h
    rw [val_zero, Nat.zero_mul] at this
    omega
   ·exact c
  refine ⟨k0, ?_, fun hi => (sdN_lt hi).1.1 h⟩
  have h2 := near_low hN (show k - 1 < k by omega)
  have h3 : val (k - 1) * 2 ^ kV < val k * 2 ^ kV := Nat.mul_lt_mul_of_pos_right (val_lt (by omega)) hK
  rw [Nat.add_mul] at h2
  show val (k - 1) * 2 ^ kV < A
  omega
theorem Brk.scale {A : Nat} {G H : Nat → Nat} {k : Nat} {r : Int} {P B : Nat} (h : Brk A G k r) (hP : 0 < P) (eA : A = B * P) (eG : ∀ q, G q = H q * P) : Brk B H k r := by
 obtain ⟨h0, h1, h2, h3⟩ := h
 subst eA
 refine ⟨h0, fun c => ?_, fun c => ?_, fun c => ?_⟩
 ·obtain ⟨a, b⟩ := h1 c
  rw [eG] at b
  exact ⟨a, Nat.eq_of_mul_eq_mul_right hP b⟩
 ·obtain ⟨a, b, d⟩ := h2 c
  rw [eG] at b
  refine ⟨a, Nat.lt_of_mul_lt_mul_right b, fun e => ?_⟩
  have := d e
  rw [eG] at this
  exact Nat.lt_of_mul_lt_mul_right this
 ·obtain ⟨a, b, d⟩ := h3 c
  rw [eG] at b
  refine ⟨a, Nat.lt_of_mul_lt_mul_right b, fun e => ?_⟩
  have := d e
  rw [eG] at this
  exact Nat.lt_of_mul_lt_mul_right this
theorem fu_told {X : Int} (h0 : X ≠ 0) : Told (decide (X < 0)) X.natAbs (fun q => val q * 2 ^ twP) (fuV X) := by
 have hN := fuK_near h0
 have hA := fu_units h0
 have hB := near_brk hN hA
 refine ⟨fuK X, sdN (X.natAbs * 2 ^ puH) (fuK X), hB.scale (Nat.two_pow_pos puH) rfl (fun q => ?_), fun m => ?_⟩
 ·rw [Nat.mul_assoc, ← Nat.pow_add, show twP + puH = kV from rfl]
 ·rw [← step_word _ hB m]
  unfold fuV
  congr 1
  unfold sdK sdN
  by_cases c : X < 0 <;> simp only [c, decide_true, decide_false, if_true, Bool.false_eq_true, if_false] <;> split <;> rfl
theorem sticky_low {T u Q s : Nat} (_hu : 0 < u) (hT : 2 * u ∣ T ∨ T < 9007199254740992 * u) (hQ : 9007199254740992 ≤ Q) (hs : s ≤ 1) (h : T < (2 * Q + s) * u) : T ≤ 2 * Q * u ∧ (s = 0 → T < 2 * Q * u) := by
 refine ⟨?_, fun e => by subst e; exact h⟩
 rcases hT with ⟨t, rfl⟩ | hT
 ·have e : 2 * u * t = 2 * t * u := by ac_rfl
  rw [e] at h ⊢
  have := Nat.lt_of_mul_lt_mul_right h
  exact Nat.mul_le_mul_right _ (by omega)
 ·refine Nat.le_trans (Nat.le_of_lt hT) (Nat.mul_le_mul_right _ (by omega))
theorem sticky_up {T u Q s : Nat} (_hu : 0 < u) (hT : 2 * u ∣ T ∨ T < 9007199254740992 * u) (hQ : 9007199254740992 ≤ Q) (hs : s ≤ 1) (h : (2 * Q + s) * u < T) : (2 * Q + 2 * s) * u ≤ T ∧ (s = 0 → 2 * Q * u < T) := by
 refine ⟨?_, fun e => by subst e; exact h⟩
 rcases hT with ⟨t, rfl⟩ | hT
 ·have e : 2 * u * t = 2 * t * u := by ac_rfl
  rw [e] at h ⊢
  have := Nat.lt_of_mul_lt_mul_right h
  exact Nat.mul_le_mul_right _ (by omega)
 ·exfalso
  have : 9007199254740992 * u ≤ (2 * Q + s) * u := Nat.mul_le_mul_right _ (by omega)
  omega
theorem val_units (q K C : Nat) : 2 * 2 ^ C ∣ val q * 2 ^ K ∨ val q * 2 ^ K < 9007199254740992 * 2 ^ C := by
 rw [← mg_up, Nat.mul_assoc, ← Nat.pow_add]
 rcases Nat.lt_or_ge C (up q + K) with c | c
 ·left
  rw [Nat.mul_comm 2, ← Nat.pow_succ]
  exact Nat.dvd_trans (Nat.pow_dvd_pow 2 c) (Nat.dvd_mul_left _ _)
 ·right
  have a1 : mg q * 2 ^ (up q + K) ≤ mg q * 2 ^ C := Nat.mul_le_mul_left _ (pw_le c)
  have a2 : mg q * 2 ^ C < 9007199254740992 * 2 ^ C := Nat.mul_lt_mul_of_pos_right (mg_lt q) (Nat.two_pow_pos C)
  omega
theorem near_sides {K W k : Nat} (c : ∀ r, r < 9218868437227405312 → (r < k ↔ aboveD K W r)) (hk : k ≤ 9218868437227405312) : (0 < k → val (k - 1) * 2 ^ K < W) ∧ (k < 9218868437227405312 → W < val (k + 1) * 2 ^ K) := by
 have hK := Nat.two_pow_pos K
 refine ⟨fun h => ?_, fun h => ?_⟩
 ·have h1 := (c (k - 1) (by omega)).1 (by omega)
  have h3 : val (k - 1) * 2 ^ K < val (k - 1 + 1) * 2 ^ K := Nat.mul_lt_mul_of_pos_right (val_step _) hK
  unfold aboveD at h1
  rw [Nat.add_mul] at h1
  omega
 ·have h1 : ¬ aboveD K W k := fun a => Nat.lt_irrefl k ((c k h).2 a)
  have h3 : val k * 2 ^ K < val (k + 1) * 2 ^ K := Nat.mul_lt_mul_of_pos_right (val_step k) hK
  unfold aboveD at h1
  rw [Nat.add_mul] at h1
  omega
theorem exX_sum (x y z : Nat) : exX x y z = vI x * vI y + vI z * 2 ^ twP := exX_un (L := twP) rfl
theorem vI_word (s : Bool) {k : Nat} (hk : k ≤ 9218868437227405312) : vI (Ieee.double.word s k) = if s then -(val k : Int) else (val k : Int) := by
 obtain ⟨h1, h2⟩ := word_rung s (show k < 9223372036854775808 by omega)
 unfold vI
 rw [h1, h2]
theorem fin_word (s : Bool) {k : Nat} (hk : k ≤ 9218868437227405312) : finB (Ieee.double.word s k) = decide (k < 9218868437227405312) := by
 unfold finB
 rw [(word_rung s (show k < 9223372036854775808 by omega)).1]
theorem quo_sides {N n Q R T u : Nat} (hn : 0 < n) (hu : 0 < u) (hN : N = n * Q + R) (hR : R < n) (hQ : 9007199254740992 ≤ Q) (hT : 2 * u ∣ T ∨ T < 9007199254740992 * u) :
  (T < (2 * Q + (R != 0).toNat) * u → T * n < 2 * N * u) ∧ ((2 * Q + (R != 0).toNat) * u < T → 2 * N * u < T * n) := by
 have hs : (R != 0).toNat ≤ 1 := by cases (R != 0) <;> simp
 have hnu : 0 < n * u := Nat.mul_pos hn hu
 refine ⟨fun h => ?_, fun h => ?_⟩
 ·obtain ⟨h1, h2⟩ := sticky_low hu hT hQ hs h
  by_cases c : R = 0
  ·subst c
   have h3 := Nat.mul_lt_mul_of_pos_right (h2 rfl) hn
   rw [hN, Nat.add_zero, show 2 * (n * Q) * u = 2 * Q * u * n by ac_rfl]
   exact h3
  ·have h3 := Nat.mul_le_mul_right n h1
   refine Nat.lt_of_le_of_lt h3 ?_
   rw [hN, show 2 * Q * u * n = 2 * (n * Q) * u by ac_rfl]
   exact Nat.mul_lt_mul_of_pos_right (by omega) hu
 ·obtain ⟨h1, h2⟩ := sticky_up hu hT hQ hs h
  by_cases c : R = 0
  ·subst c
   have h3 := Nat.mul_lt_mul_of_pos_right (h2 rfl) hn
   rw [hN, Nat.add_zero, show 2 * (n * Q) * u = 2 * Q * u * n by ac_rfl]
   exact h3
  ·have e : (R != 0).toNat = 1 := by simp [c]
   rw [e] at h1
   have h3 := Nat.mul_le_mul_right n h1
   refine Nat.lt_of_lt_of_le ?_ h3
   rw [show (2 * Q + 2 * 1) * u * n = (2 * (n * Q) + 2 * n) * u by rw [Nat.add_mul, Nat.add_mul, Nat.add_mul]; congr 1 <;> ac_rfl, hN]
   exact Nat.mul_lt_mul_of_pos_right (by omega) hu
theorem side_brk {A : Nat} {G : Nat → Nat} {k : Nat} (hk : k ≤ 9218868437227405312) (hA : 0 < A) (h0 : G 0 = 0) (h1 : 0 < k → G (k - 1) < A) (h2 : k < 9218868437227405312 → A < G (k + 1)) : Brk A G k (if k = 9218868437227405312 then -1 else sgI ((A : Int) - (G k : Int))) := by
 refine ⟨hk, fun h => ?_, fun h => ?_, fun h => ?_⟩
 ·split at h
  ·omega
  ·rename_i hi
   have := sgI_zero.1 h
   exact ⟨by omega, by omega⟩
 ·split at h
  ·omega
  ·rename_i hi
   have := sgI_lt.2.1 h
   exact ⟨by omega, by omega, fun _ => h2 (by omega)⟩
 ·have k0 : 0 < k := by
   rcases Nat.eq_zero_or_pos k with c | c
   ·subst c
    rw [if_neg (by omega)] at h
    have := sgI_lt.1.1 h
    rw [h0] at this
    omega
   ·exact c
  refine ⟨k0, h1 k0, fun hi => ?_⟩
  rw [if_neg (by omega)] at h
  have := sgI_lt.1.1 h
  omega
theorem val_ne {a : Nat} (sa : someB a = true) : 0 < val (rung a) := by
 have a0 : rung a ≠ 0 := by simpa using (some_rung sa).2
 have := val_lt (Nat.pos_of_ne_zero a0)
 omega
theorem kS_core (v k b P : Int) (sa sb : Bool) : (if sb = true then -sgI (-(if (sa ^^ sb) = true then -k else k) * (if sb = true then -b else b) + (if sa = true then -v else v) * P) else sgI (-(if (sa ^^ sb) = true then -k else k) * (if sb = true then -b else b) + (if sa = true then -v else v) * P)) = if (sa ^^ sb) = true then -sgI (v * P - k * b) else sgI (v * P - k * b) := by
 cases sa <;> cases sb <;> simp only [Bool.xor_false, Bool.xor_true, Bool.not_false, Bool.not_true, Bool.false_eq_true, if_false, if_true, Int.neg_neg]
 ·congr 1; rw [Int.neg_mul]; omega
 ·congr 2; rw [Int.mul_neg]; omega
 ·rw [sgI_opp]; congr 1; rw [Int.neg_mul]; omega
 ·rw [sgI_opp]; congr 1; rw [Int.neg_mul, Int.neg_mul, Int.mul_neg]; omega
theorem div_told {a b : Nat} (ha : a < 18446744073709551616) (hb : b < 18446744073709551616) (sa : someB a = true) (sb : someB b = true) : Told (sgn a ^^ sgn b) (val (rung a) * 2 ^ twP) (fun q => val q * val (rung b)) (fun m => stepF (kQ a b) (kS a b) m) := by
 obtain ⟨fa, a0⟩ := some_rung sa
 obtain ⟨fb, b0⟩ := some_rung sb
 have a0' : rung a ≠ 0 := by simpa using a0
 have b0' : rung b ≠ 0 := by simpa using b0
 have m1 : mg (rung a) ≠ 0 := mg_ne a0'
 have m2 : mg (rung b) ≠ 0 := mg_ne b0'
 have hq : floatBits .quo .f64 a b = some (kQ a b) := by
  obtain ⟨q, hq⟩ : ∃ q, floatBits .quo .f64 a b = some q := by
   rw [(fbits_map a b).2.2.2, read_fin ha fa, read_fin hb fb]
   simp only [Ieee.Datum.quotient]
   rw [if_neg m2]
   exact ⟨_, rfl⟩
  unfold kQ; rw [hq]; rfl
 rw [(fbits_map a b).2.2.2, read_fin ha fa, read_fin hb fb] at hq
 simp only [Ieee.Datum.quotient] at hq
 rw [if_neg m2] at hq
 simp only [Option.map_some, Ieee.Format.write, Option.some.injEq] at hq
 obtain ⟨more, hmore⟩ : ∃ d, 54 + (mg (rung b)).log2 - (mg (rung a)).log2 = d := ⟨_, rfl⟩
 rw [hmore] at hq
 have l1 := log_bd m1 (mg_lt _)
 have hQ : 9007199254740992 ≤ mg (rung a) <<< more / mg (rung b) := by
  rw [Nat.le_div_iff_mul_le (Nat.pos_of_ne_zero m2), Nat.shiftLeft_eq]
  have e1 : 2 ^ (mg (rung a)).log2 * 2 ^ more ≤ mg (rung a) * 2 ^ more := Nat.mul_le_mul_right _ (Nat.log2_self_le m1)
  have e2 : 9007199254740992 * mg (rung b) ≤ 9007199254740992 * 2 ^ ((mg (rung b)).log2 + 1) := Nat.mul_le_mul_left _ (Nat.le_of_lt Nat.lt_log2_self)
  have e3 : 9007199254740992 * 2 ^ ((mg (rung b)).log2 + 1) = 2 ^ (mg (rung a)).log2 * 2 ^ more := by
   rw [show (9007199254740992 : Nat) = 2 ^ 53 by decide, ← Nat.pow_add, ← Nat.pow_add]
   congr 1
   omega
  omega
 obtain ⟨k, e, hk, c⟩ := near_anyD (sgn a ^^ sgn b) (-1074 + ((up (rung a) : Nat) : Int) - (-1074 + ((up (rung b) : Nat) : Int)) - (more : Int) - 1) (up (rung b) + more + 1) (m := 2 * (mg (rung a) <<< more / mg (rung b)) + (mg (rung a) <<< more % mg (rung b) != 0).toNat) (by omega) (by omega)
 have hexp : (-1074 + ((up (rung a) : Nat) : Int) - (-1074 + ((up (rung b) : Nat) : Int)) - (more : Int) - 1 + 1074 + ((up (rung b) + more + 1 : Nat) : Int)).toNat = up (rung a) + twP := by unfold twP; omega
 rw [hexp] at c
 rw [e] at hq
 have hn := Nat.pos_of_ne_zero m2
 have hu := Nat.two_pow_pos (up (rung a) + twP)
 obtain ⟨s1, s2⟩ := near_sides c hk
 have key := fun T hT => quo_sides (T := T) hn hu (Nat.div_add_mod (mg (rung a) <<< more) (mg (rung b))).symm (Nat.mod_lt _ hn) hQ hT
 have eT : ∀ q, val q * 2 ^ (up (rung b) + more + 1) * mg (rung b) = val q * val (rung b) * 2 ^ (more + 1) := fun q => by
  rw [← mg_up (rung b), show up (rung b) + more + 1 = up (rung b) + (more + 1) by omega, Nat.pow_add]
  generalize val q = V
  generalize 2 ^ up (rung b) = U
  generalize (2 : Nat) ^ (more + 1) = W
  generalize mg (rung b) = B
  ac_rfl
 have eN : 2 * (mg (rung a) <<< more) * 2 ^ (up (rung a) + twP) = val (rung a) * 2 ^ twP * 2 ^ (more + 1) := by
  rw [Nat.shiftLeft_eq, ← mg_up (rung a), Nat.pow_add 2 (up (rung a)), Nat.pow_succ]
  generalize mg (rung a) = A
  generalize 2 ^ up (rung a) = U
  generalize (2 : Nat) ^ twP = W
  generalize (2 : Nat) ^ more = Z
  ac_rfl
 have hB := side_brk (A := val (rung a) * 2 ^ twP) (G := fun q => val q * val (rung b)) hk (Nat.mul_pos (val_ne sa) (Nat.two_pow_pos _)) (by show val 0 * _ = 0; rw [val_zero, Nat.zero_mul])
  (fun h => by
   have h3 := (key _ (val_units (k - 1) _ _)).1 (s1 h)
   rw [eT, eN] at h3
   exact Nat.lt_of_mul_lt_mul_right h3)
  (fun h => by
   have h3 := (key _ (val_units (k + 1) _ _)).2 (s2 h)
   rw [eT, eN] at h3
   exact Nat.lt_of_mul_lt_mul_right h3)
 refine ⟨k, _, hB, fun m => ?_⟩
 rw [← step_word _ hB m, hq]
 show stepF (kQ a b) (kS a b) m = _
 suffices hsf : kS a b = if (sgn a ^^ sgn b) = true then -(if k = 9218868437227405312 then -1 else sgI (((val (rung a) * 2 ^ twP : Nat) : Int) - ((val k * val (rung b) : Nat) : Int))) else (if k = 9218868437227405312 then -1 else sgI (((val (rung a) * 2 ^ twP : Nat) : Int) - ((val k * val (rung b) : Nat) : Int))) by rw [hsf]
 clear hB
 unfold kS
 rw [← hq, fin_word _ hk]
 by_cases hi : k = 9218868437227405312
 ·rw [decide_eq_false (by omega), if_pos hi, (word_rung _ (show k < 9223372036854775808 by omega)).2]
  simp only [Bool.false_eq_true, if_false]
  cases (sgn a ^^ sgn b) <;> rfl
 ·rw [decide_eq_true (by omega), if_neg hi, exX_sum, vI_ng (word_lt64 _ (by omega)), vI_word _ hk]
  simp only [if_true]
  have pw : ((2 ^ twP : Nat) : Int) = (2 : Int) ^ twP := pw_cast twP
  have cA : ((val (rung a) * 2 ^ twP : Nat) : Int) = (val (rung a) : Int) * 2 ^ twP := by rw [← pw]; exact Int.natCast_mul _ _
  rw [cA, Int.natCast_mul]
  unfold vI
  exact kS_core _ _ _ _ _ _
theorem root_sides {N w T u : Nat} (h1 : w * w ≤ N) (h2 : N < (w + 1) * (w + 1)) (hu : 0 < u) (hQ : 9007199254740992 ≤ w) (hT : 2 * u ∣ T ∨ T < 9007199254740992 * u) :
  (T < (2 * w + (w * w != N).toNat) * u → T * T < 4 * N * (u * u)) ∧ ((2 * w + (w * w != N).toNat) * u < T → 4 * N * (u * u) < T * T) := by
 have hs : (w * w != N).toNat ≤ 1 := by cases (w * w != N) <;> simp
 have huu : 0 < u * u := Nat.mul_pos hu hu
 have sq : ∀ x : Nat, 2 * x * u * (2 * x * u) = 4 * (x * x) * (u * u) := fun x => by
  rw [show 2 * x * u * (2 * x * u) = (2 * 2) * (x * x) * (u * u) by ac_rfl]
 refine ⟨fun h => ?_, fun h => ?_⟩
 ·obtain ⟨a1, a2⟩ := sticky_low hu hT hQ hs h
  by_cases c : w * w = N
  ·have e : (w * w != N).toNat = 0 := by simp [c]
   have h3 := Nat.mul_self_lt_mul_self (a2 e)
   rw [sq, c] at h3
   exact h3
  ·have h3 := Nat.mul_self_le_mul_self a1
   rw [sq] at h3
   exact Nat.lt_of_le_of_lt h3 (Nat.mul_lt_mul_of_pos_right (by omega) huu)
 ·obtain ⟨a1, a2⟩ := sticky_up hu hT hQ hs h
  by_cases c : w * w = N
  ·have e : (w * w != N).toNat = 0 := by simp [c]
   have h3 := Nat.mul_self_lt_mul_self (a2 e)
   rw [sq, c] at h3
   exact h3
  ·have e : (w * w != N).toNat = 1 := by simp [c]
   rw [e, show 2 * w + 2 * 1 = 2 * (w + 1) by omega] at a1
   have h3 := Nat.mul_self_le_mul_self a1
   rw [sq] at h3
   exact Nat.lt_of_lt_of_le (Nat.mul_lt_mul_of_pos_right (by omega) huu) h3
theorem sqrt_told {a : Nat} (ha : a < 18446744073709551616) (sa : someB a = true) (hs : sgn a = false) : Told false (val (rung a) * 2 ^ twP) (fun q => val q * val q) (fun m => stepF (tQ a) (tS a) m) := by
 obtain ⟨fa, a0⟩ := some_rung sa
 have a0' : rung a ≠ 0 := by simpa using a0
 have m1 : mg (rung a) ≠ 0 := mg_ne a0'
 have m2 : mg (rung a) < 9007199254740992 := mg_lt _
 have hl := log_bd m1 m2
 have hq := root_some ha sa hs
 obtain ⟨fq, _, _, _⟩ := root_rung ha sa hs hq
 have hq2 : ((Ieee.double.read a).root 54).map Ieee.double.write = some (tQ a) := hq
 rw [read_fin ha fa, hs] at hq2
 simp only [Ieee.Datum.root] at hq2
 rw [if_neg m1, if_neg (by simp)] at hq2
 simp only [Option.map_some, Ieee.Format.write, Option.some.injEq] at hq2
 obtain ⟨u, hu1⟩ : ∃ u, up (rung a) = u := ⟨_, rfl⟩
 obtain ⟨M, hM⟩ : ∃ M, mg (rung a) = M := ⟨_, rfl⟩
 have eV : val (rung a) = M * 2 ^ u := by rw [← mg_up, hM, hu1]
 rw [hu1, hM] at hq2
 rw [hM] at m1 m2 hl
 obtain ⟨more, hmore⟩ : ∃ d, 2 * 54 - M.log2 + ((-1074 + (u : Int) - ((2 * 54 - M.log2 : Nat) : Int)) % 2).toNat = d := ⟨_, rfl⟩
 rw [hmore] at hq2
 have g1 : 108 ≤ M.log2 + more ∧ M.log2 + more ≤ 109 := by omega
 obtain ⟨w, hw⟩ : ∃ w, Ieee.Datum.rootFrom (M <<< more) ((M <<< more).log2 / 2 + 1) 0 = w := ⟨_, rfl⟩
 obtain ⟨R1, R2⟩ := root_whole (M <<< more)
 rw [hw] at hq2 R1 R2
 have n1 : 2 ^ 108 ≤ M <<< more := by
  rw [Nat.shiftLeft_eq]
  have h1 := Nat.log2_self_le m1
  have h2 := Nat.mul_le_mul_right (2 ^ more) h1
  rw [← Nat.pow_add] at h2
  exact Nat.le_trans (Nat.pow_le_pow_right (by omega) g1.1) h2
 have w1 : 9007199254740992 ≤ w := by
  rcases Nat.lt_or_ge w 9007199254740992 with h | h
  ·exfalso
   have h2 : (w + 1) * (w + 1) ≤ 9007199254740992 * 9007199254740992 := Nat.mul_le_mul h h
   omega
  ·exact h
 obtain ⟨p, hp⟩ : ∃ p, (-1074 + (u : Int) - (more : Int)) / 2 - 1 = p := ⟨_, rfl⟩
 rw [hp] at hq2
 have p1 : -593 ≤ p := by omega
 have p2 : 2 * (p + 1) = -1074 + (u : Int) - (more : Int) := by omega
 obtain ⟨k, e, hk, c⟩ := near_anyD false p 0 (m := 2 * w + (w * w != M <<< more).toNat) (by omega) (by omega)
 obtain ⟨C, hC⟩ : ∃ C : Nat, (p + 1074 + ((0 : Nat) : Int)).toNat = C := ⟨_, rfl⟩
 rw [hC] at c
 have hC2 : 2 + more + 2 * C = u + twP := by unfold twP; omega
 rw [e] at hq2
 have hu := Nat.two_pow_pos C
 obtain ⟨s1, s2⟩ := near_sides c hk
 rw [Nat.pow_zero] at s1 s2
 simp only [Nat.mul_one] at s1 s2
 have key := fun T hT => root_sides (T := T) R1 R2 hu w1 hT
 have eN : 4 * (M <<< more) * (2 ^ C * 2 ^ C) = val (rung a) * 2 ^ twP := by
  have e5 : (2 : Nat) ^ u * 2 ^ twP = 2 ^ 2 * 2 ^ more * (2 ^ C * 2 ^ C) := by
   rw [← Nat.pow_add, ← Nat.pow_add, ← Nat.pow_add, ← Nat.pow_add, ← hC2, show 2 * C = C + C by omega]
  rw [Nat.shiftLeft_eq, eV, Nat.mul_assoc M, e5, show (4 : Nat) = 2 ^ 2 by decide]
  generalize (2 : Nat) ^ C = Y
  generalize (2 : Nat) ^ more = Z
  generalize (2 : Nat) ^ 2 = F
  ac_rfl
 have vu : ∀ q, 2 * 2 ^ C ∣ val q ∨ val q < 9007199254740992 * 2 ^ C := fun q => by
  have := val_units q 0 C
  rw [Nat.pow_zero, Nat.mul_one] at this
  exact this
 have hB := side_brk (A := val (rung a) * 2 ^ twP) (G := fun q => val q * val q) hk (Nat.mul_pos (val_ne sa) (Nat.two_pow_pos _)) (by show val 0 * _ = 0; rw [val_zero, Nat.zero_mul])
  (fun h => by
   have h3 := (key _ (vu (k - 1))).1 (s1 h)
   rw [eN] at h3
   exact h3)
  (fun h => by
   have h3 := (key _ (vu (k + 1))).2 (s2 h)
   rw [eN] at h3
   exact h3)
 have hi : k < 9218868437227405312 := by
  rw [← hq2, fin_word _ hk] at fq
  simpa using fq
 refine ⟨k, _, hB, fun m => ?_⟩
 rw [← step_word _ hB m, hq2]
 show stepF (tQ a) (tS a) m = _
 suffices hsf : tS a = (if k = 9218868437227405312 then -1 else sgI (((val (rung a) * 2 ^ twP : Nat) : Int) - ((val k * val k : Nat) : Int))) by
  rw [hsf]; rfl
 clear hB
 unfold tS
 rw [← hq2, if_neg (by omega), exX_sum, vI_ng (word_lt64 _ (by omega)), vI_word _ hk]
 have pw : ((2 ^ twP : Nat) : Int) = (2 : Int) ^ twP := pw_cast twP
 have cA : ((val (rung a) * 2 ^ twP : Nat) : Int) = (val (rung a) : Int) * 2 ^ twP := by rw [← pw]; exact Int.natCast_mul _ _
 have eA : vI a = (val (rung a) : Int) := by unfold vI; rw [hs]; rfl
 rw [cA, Int.natCast_mul, eA]
 simp only [Bool.false_eq_true, if_false]
 rw [Int.neg_mul, Int.add_comm, ← Int.sub_eq_add_neg]
end Go.Proofs.YtfipmopmpacdaaaGreatDoor
