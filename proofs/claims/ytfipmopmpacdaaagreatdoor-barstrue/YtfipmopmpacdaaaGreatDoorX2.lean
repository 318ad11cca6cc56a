/- RoundBetween, whatever floats it is given. -/
import Derived.Test.YtfipmopmpacdaaaGreatDoorY9
import Derived.Test.YtfipmopmpacdaaaGreatDoorX1
import Derived.Test.YtfipmopmpacdaaaGreatDoorU2
import Derived.Test.YtfipmopmpacdaaaGreatDoorZ10
namespace Go.Proofs.YtfipmopmpacdaaaGreatDoor
open Go.RowKit
def tnS (s : Bool) (x : Int) : Int := if s then -x else x
def dO (op a b c : Nat) (m : Int) : Option Nat := match op with
 | 0 => addO a b m
 | 1 => addO a (negW b) m
 | 2 => mulO a b m
 | 3 => divO a b m
 | 4 => if someB a && !sgn a then some (stepF (tQ a) (tS a) m) else FloatKind.f64.format.sqrt a
 | _ => fuO a b c m
def hSg (op a b c t : Nat) : Int := match op with
 | 0 => sgI (vI a + vI b - vI t)
 | 1 => sgI (vI a - vI b - vI t)
 | 2 => sgI (vI a * vI b - vI t * 2 ^ twP)
 | 3 => tnS (sgn b) (sgI (vI a * 2 ^ twP - vI t * vI b))
 | 4 => sgI (vI a * 2 ^ twP - vI t * vI t)
 | _ => sgI (exX a b c - vI t * 2 ^ twP)
structure Ask (op a b c : Nat) : Prop where
 ha : a < 18446744073709551616
 hb : b < 18446744073709551616
 hc : c < 18446744073709551616
 fa : finB a = true
 fb : finB b = true
 fc : finB c = true
 nz : op = 3 → rung b ≠ 0
 ps : op = 4 → sgn a = false ∨ rung a = 0
def cmS (s : Bool) (A : Nat) (G : Nat → Nat) (t : Nat) : Int := if rung t = 0 ∨ sgn t ≠ s then tnS s 1 else tnS s (sgI ((A : Int) - (G (rung t) : Int)))
theorem vI_sg (x : Nat) : vI x = tnS (sgn x) (val (rung x) : Int) := rfl
theorem tnS_sg (s : Bool) (x : Int) : tnS s (sgI x) = sgI (tnS s x) := by
 cases s
 ·rfl
 ·exact sgI_opp x
theorem tnS_two (s : Bool) (x : Int) : tnS s (tnS s x) = x := by cases s <;> simp [tnS]
theorem tnS_mul (s t : Bool) (x y : Int) : tnS s x * tnS t y = tnS (s ^^ t) (x * y) := by
 cases s <;> cases t <;> simp [tnS, Int.neg_mul, Int.mul_neg]
theorem tnS_xor (s t : Bool) (x : Int) : tnS s (tnS t x) = tnS (s ^^ t) x := by cases s <;> cases t <;> simp [tnS]
theorem tnS_sub (s : Bool) (x y : Int) : tnS s x - tnS s y = tnS s (x - y) := by cases s <;> simp [tnS]; omega
theorem tnS_add (s : Bool) (x y : Int) : tnS s x - tnS (!s) y = tnS s (x + y) := by cases s <;> simp [tnS] <;> omega
theorem sg_one {x : Int} (h : 0 < x) : sgI x = 1 := sgI_pos h
theorem cm_core {s u : Bool} {A Gt : Nat} (hA : 0 < A) : sgI (tnS s (A : Int) - tnS u (Gt : Int)) = if Gt = 0 ∨ u ≠ s then tnS s 1 else tnS s (sgI ((A : Int) - (Gt : Int))) := by
 by_cases h0 : Gt = 0
 ·rw [if_pos (Or.inl h0), h0]
  have e : tnS s (A : Int) - tnS u ((0 : Nat) : Int) = tnS s (A : Int) := by cases s <;> cases u <;> simp [tnS]
  rw [e, ← tnS_sg, sg_one (by omega)]
 ·by_cases hu : u = s
  ·subst hu
   rw [if_neg (by rintro (c | c); exact h0 c; exact c rfl), tnS_sub, ← tnS_sg]
  ·have e : u = !s := by cases u <;> cases s <;> simp_all
   rw [if_pos (Or.inr hu), e, tnS_add, ← tnS_sg, sg_one (by omega)]
theorem cm_X {X : Int} (h0 : X ≠ 0) (t : Nat) : sgI (X - vI t * 2 ^ twP) = cmS (decide (X < 0)) X.natAbs (fun q => val q * 2 ^ twP) t := by
 have e1 : X = tnS (decide (X < 0)) (X.natAbs : Int) := by
  by_cases c : X < 0
  ·rw [decide_eq_true c]; simp only [tnS, if_true]; omega
  ·rw [decide_eq_false c]; simp only [tnS, Bool.false_eq_true, if_false]; omega
 have e2 : vI t * 2 ^ twP = tnS (sgn t) ((val (rung t) * 2 ^ twP : Nat) : Int) := by
  rw [vI_sg, Int.natCast_mul, pw_cast]
  cases sgn t
  ·rfl
  ·simp only [tnS, if_true]; rw [Int.neg_mul]
 have hz : val (rung t) * 2 ^ twP = 0 ↔ rung t = 0 := by
  have hp := Nat.two_pow_pos twP
  constructor
  ·intro h
   rcases Nat.mul_eq_zero.1 h with g | g
   ·exact val_inj (by rw [g, val_zero])
   ·omega
  ·intro h; rw [h, val_zero, Nat.zero_mul]
 have key := cm_core (s := decide (X < 0)) (u := sgn t) (A := X.natAbs) (Gt := val (rung t) * 2 ^ twP) (by omega)
 rw [← e2, ← e1] at key
 rw [key]
 unfold cmS
 simp only [hz]
theorem cm_div {a b : Nat} (sa : someB a = true) (sb : someB b = true) (t : Nat) : tnS (sgn b) (sgI (vI a * 2 ^ twP - vI t * vI b)) = cmS (sgn a ^^ sgn b) (val (rung a) * 2 ^ twP) (fun q => val q * val (rung b)) t := by
 have e1 : vI a * 2 ^ twP = tnS (sgn a) ((val (rung a) * 2 ^ twP : Nat) : Int) := by
  rw [vI_sg, Int.natCast_mul, pw_cast]
  cases sgn a
  ·rfl
  ·simp only [tnS, if_true]; rw [Int.neg_mul]
 have e2 : vI t * vI b = tnS (sgn t ^^ sgn b) ((val (rung t) * val (rung b) : Nat) : Int) := by
  rw [vI_sg, vI_sg, tnS_mul, Int.natCast_mul]
 have vb := val_ne sb
 have hz : val (rung t) * val (rung b) = 0 ↔ rung t = 0 := by
  constructor
  ·intro h
   rcases Nat.mul_eq_zero.1 h with g | g
   ·exact val_inj (by rw [g, val_zero])
   ·omega
  ·intro h; rw [h, val_zero, Nat.zero_mul]
 rw [e1, e2, cm_core (Nat.mul_pos (val_ne sa) (Nat.two_pow_pos _))]
 unfold cmS
 simp only [hz]
 have hx : (sgn t ^^ sgn b) ≠ sgn a ↔ sgn t ≠ (sgn a ^^ sgn b) := by cases sgn a <;> cases sgn b <;> cases sgn t <;> simp
 simp only [hx]
 have hc : (sgn b ^^ sgn a) = (sgn a ^^ sgn b) := Bool.xor_comm _ _
 split
 ·rw [tnS_xor, hc]
 ·rw [tnS_xor, hc]
theorem cm_root {a : Nat} (sa : someB a = true) (hs : sgn a = false) (t : Nat) (ht : sgn t = false ∨ rung t = 0) : sgI (vI a * 2 ^ twP - vI t * vI t) = cmS false (val (rung a) * 2 ^ twP) (fun q => val q * val q) t := by
 have e1 : vI a * 2 ^ twP = tnS false ((val (rung a) * 2 ^ twP : Nat) : Int) := by
  rw [vI_sg, hs, Int.natCast_mul, pw_cast]; rfl
 have e2 : vI t * vI t = tnS false ((val (rung t) * val (rung t) : Nat) : Int) := by
  rw [vI_sg, tnS_mul, Bool.xor_self, Int.natCast_mul]
 have hz : val (rung t) * val (rung t) = 0 ↔ rung t = 0 := by
  constructor
  ·intro h
   rcases Nat.mul_eq_zero.1 h with g | g <;> exact val_inj (by rw [g, val_zero])
  ·intro h; rw [h, val_zero, Nat.zero_mul]
 rw [e1, e2, cm_core (Nat.mul_pos (val_ne sa) (Nat.two_pow_pos _))]
 unfold cmS
 simp only [hz]
 rcases ht with h | h
 ·simp [h]
 ·rw [if_pos (Or.inl h), if_pos (Or.inl h)]
theorem g_zero {x : Nat} : val 0 * x = 0 := by rw [val_zero, Nat.zero_mul]
def Num (op a b c : Nat) : Prop := ∃ s A G f, Told s A G f ∧ 0 < A ∧ G 0 = 0 ∧ (op = 4 → s = false) ∧ (∀ m, dO op a b c m = some (f m)) ∧ ∀ t, finB t = true → (op = 4 → sgn t = false ∨ rung t = 0) → hSg op a b c t = cmS s A G t
def Nul (op a b c : Nat) : Prop := (∀ m, ∃ z, dO op a b c m = some z ∧ z < 18446744073709551616 ∧ rung z = 0) ∧ ∀ t, rung t = 0 → hSg op a b c t = 0
theorem nought_rung {o : Option Nat} {z : Nat} (h : NoughtB o) (e : o = some z) : z < 18446744073709551616 ∧ rung z = 0 := by
 rcases h with h | h <;> rw [h] at e <;> cases e <;> decide
theorem vI_nought {t : Nat} (h : rung t = 0) : vI t = 0 := by
 unfold vI; rw [h, val_zero]; split <;> rfl
theorem nil_of {a : Nat} (fa : finB a = true) (h : someB a = false) : rung a = 0 := by
 unfold someB at h
 rw [fa] at h
 simpa using h
theorem sum_case {a b : Nat} (ha : a < 18446744073709551616) (hb : b < 18446744073709551616) (fa : finB a = true) (fb : finB b = true) : (vI a + vI b ≠ 0 ∧ ∀ m, addO a b m = some (fuV ((vI a + vI b) * 2 ^ twP) m)) ∨ (vI a + vI b = 0 ∧ ∀ m, ∃ z, addO a b m = some z ∧ z < 18446744073709551616 ∧ rung z = 0) := by
 have e : ∀ m, addO a b m = some (addV a b m) := fun m => by unfold addO; rw [fa, fb]; rfl
 by_cases h0 : vI a + vI b = 0
 ·right
  refine ⟨h0, fun m => ⟨_, e m, ?_⟩⟩
  obtain ⟨e1, e2⟩ := add_nought m ha hb fa fb h0
  rw [e1]
  exact nought_rung (noughtF_is m ha e2) rfl
 ·left
  exact ⟨h0, fun m => by rw [e, add_fu m ha hb fa fb h0]⟩
theorem six {op a b c : Nat} (h : Ask op a b c) : Num op a b c ∨ Nul op a b c := by
 obtain ⟨ha, hb, hc, fa, fb, fc, nz, ps⟩ := h
 match op, nz, ps with
 | 0, _, _ =>
  rcases sum_case ha hb fa fb with ⟨h0, hv⟩ | ⟨h0, hv⟩
  ·have hX : (vI a + vI b) * 2 ^ twP ≠ 0 := fun h => h0 (neg_pw.2.1 h)
   refine Or.inl ⟨_, _, _, _, fu_told hX, Int.natAbs_pos.2 hX, g_zero, fun h => absurd h (by decide), hv, fun t _ _ => ?_⟩
   rw [← cm_X hX, ← Int.sub_mul, sgI_pw]; rfl
  ·refine Or.inr ⟨hv, fun t ht => ?_⟩
   show sgI (vI a + vI b - vI t) = 0
   rw [h0, vI_nought ht]; rfl
 | 1, _, _ =>
  have hn := vI_ng hb
  rcases sum_case ha (negW_lt hb) fa ((neg_fin hb).trans fb) with ⟨h0, hv⟩ | ⟨h0, hv⟩
  ·rw [hn, ← Int.sub_eq_add_neg] at h0 hv
   have hX : (vI a - vI b) * 2 ^ twP ≠ 0 := fun h => h0 (neg_pw.2.1 h)
   refine Or.inl ⟨_, _, _, _, fu_told hX, Int.natAbs_pos.2 hX, g_zero, fun h => absurd h (by decide), hv, fun t _ _ => ?_⟩
   rw [← cm_X hX, ← Int.sub_mul, sgI_pw]; rfl
  ·rw [hn, ← Int.sub_eq_add_neg] at h0
   refine Or.inr ⟨hv, fun t ht => ?_⟩
   show sgI (vI a - vI b - vI t) = 0
   rw [h0, vI_nought ht]; rfl
 | 2, _, _ =>
  cases hs : (someB a && someB b)
  ·have hz : rung a = 0 ∨ rung b = 0 := by
    cases sa : someB a
    ·exact Or.inl (nil_of fa sa)
    ·rw [sa] at hs
     exact Or.inr (nil_of fb (by simpa using hs))
   refine Or.inr ⟨fun m => ?_, fun t ht => ?_⟩
   ·obtain ⟨p, hp⟩ : ∃ q, floatBits .mul .f64 a b = some q := by
     rw [(fbits_map a b).2.2.1, read_fin ha fa, read_fin hb fb]
     exact ⟨_, rfl⟩
    refine ⟨p, ?_, (op_word (op := .mul) (Or.inr (Or.inr (Or.inl rfl))) hp).1, (mul_nought ha hb fa fb hz hp).1⟩
    show mulO a b m = some p
    unfold mulO
    rw [hs]
    exact hp
   ·show sgI (vI a * vI b - vI t * 2 ^ twP) = 0
    rw [vI_nought ht]
    rcases hz with g | g
    ·rw [vI_nought g, Int.zero_mul, Int.zero_mul]; rfl
    ·rw [vI_nought g, Int.mul_zero, Int.zero_mul]; rfl
  ·have sa : someB a = true := by revert hs; cases someB a <;> simp
   have sb : someB b = true := by revert hs; cases someB b <;> simp
   have a0 : rung a ≠ 0 := by simpa using (some_rung sa).2
   have b0 : rung b ≠ 0 := by simpa using (some_rung sb).2
   have hX := (mul_sign (vI_sign a0).1 (vI_sign b0).1).1
   refine Or.inl ⟨_, _, _, _, fu_told hX, Int.natAbs_pos.2 hX, g_zero, fun h => absurd h (by decide), fun m => ?_, fun t _ _ => cm_X hX t⟩
   show mulO a b m = _
   unfold mulO
   rw [hs, if_pos rfl, mul_fu m ha hb sa sb]
 | 3, nz, _ =>
  have b0 := nz rfl
  have sb : someB b = true := by unfold someB; rw [fb]; simpa using b0
  cases sa : someB a
  ·have a0 := nil_of fa sa
   have m2 : mg (rung b) ≠ 0 := mg_ne b0
   refine Or.inr ⟨fun m => ?_, fun t ht => ?_⟩
   ·have hq : floatBits .quo .f64 a b = some (Ieee.double.word (sgn a ^^ sgn b) 0) := by
     rw [(fbits_map a b).2.2.2, read_fin ha fa, read_fin hb fb]
     simp only [Ieee.Datum.quotient]
     rw [if_neg m2]
     have m0 : mg (rung a) = 0 := by rw [a0]; decide
     rw [m0]
     simp only [Nat.zero_shiftLeft, Nat.zero_div, Nat.zero_mod]
     rfl
    refine ⟨Ieee.double.word (sgn a ^^ sgn b) 0, ?_, word_lt64 _ (by omega), (word_rung _ (by omega)).1⟩
    show divO a b m = _
    unfold divO
    rw [sa]
    exact hq
   ·show tnS (sgn b) (sgI (vI a * 2 ^ twP - vI t * vI b)) = 0
    rw [vI_nought ht, vI_nought a0, Int.zero_mul, Int.zero_mul]
    cases sgn b <;> rfl
  ·refine Or.inl ⟨_, _, _, _, div_told ha hb sa sb, Nat.mul_pos (val_ne sa) (Nat.two_pow_pos _), g_zero, fun h => absurd h (by decide), fun m => ?_, fun t _ _ => cm_div sa sb t⟩
   show divO a b m = _
   unfold divO
   rw [sa, sb]; rfl
 | 4, _, ps =>
  have hs := ps rfl
  cases sa : someB a
  ·have a0 := nil_of fa sa
   refine Or.inr ⟨fun m => ⟨a, ?_, ha, a0⟩, fun t ht => ?_⟩
   ·show (if someB a && !sgn a then some (stepF (tQ a) (tS a) m) else FloatKind.f64.format.sqrt a) = some a
    rw [sa]
    show ((Ieee.double.read a).root 54).map Ieee.double.write = some a
    rw [read_fin ha fa]
    have m0 : mg (rung a) = 0 := by rw [a0]; decide
    simp only [Ieee.Datum.root]
    rw [if_pos m0, m0]
    show some (Ieee.double.nearest _ 0 _) = _
    rw [show Ieee.double.nearest (sgn a) 0 (-1074 + ((up (rung a) : Nat) : Int)) = Ieee.double.word (sgn a) 0 from rfl, ← a0, ← word_of ha]
   ·show sgI (vI a * 2 ^ twP - vI t * vI t) = 0
    rw [vI_nought ht, vI_nought a0, Int.zero_mul, Int.zero_mul]; rfl
  ·have a0 : rung a ≠ 0 := by simpa using (some_rung sa).2
   have hs : sgn a = false := hs.resolve_right a0
   refine Or.inl ⟨_, _, _, _, sqrt_told ha sa hs, Nat.mul_pos (val_ne sa) (Nat.two_pow_pos _), g_zero, fun _ => rfl, fun m => ?_, fun t _ ht => cm_root sa hs t (ht rfl)⟩
   show (if someB a && !sgn a then some (stepF (tQ a) (tS a) m) else FloatKind.f64.format.sqrt a) = _
   rw [sa, hs]; rfl
 | n + 5, _, _ =>
  have e : ∀ m, fuO a b c m = some (fuW a b c m) := fun m => by unfold fuO; rw [fa, fb, fc]; rfl
  by_cases h0 : exX a b c = 0
  ·refine Or.inr ⟨fun m => ⟨_, e m, ?_⟩, fun t ht => ?_⟩
   ·unfold fuW
    rw [if_pos h0]
    unfold noughtR
    split
    ·rename_i hh
     simp only [Bool.and_eq_true, beq_iff_eq] at hh
     exact ⟨hc, hh.2.1⟩
    ·split <;> decide
   ·show sgI (exX a b c - vI t * 2 ^ twP) = 0
    rw [h0, vI_nought ht, Int.zero_mul]; rfl
  ·refine Or.inl ⟨_, _, _, _, fu_told h0, Int.natAbs_pos.2 h0, g_zero, fun h => by omega, fun m => ?_, fun t _ _ => cm_X h0 t⟩
   show fuO a b c m = _
   rw [e]
   unfold fuW
   rw [if_neg h0]
def belB (op a b c t : Nat) : Bool := if rung t = 9218868437227405312 then sgn t else decide (0 ≤ hSg op a b c t)
def aboB (op a b c t : Nat) : Bool := if rung t = 9218868437227405312 then !sgn t else decide (hSg op a b c t ≤ 0)
def Ok (op t : Nat) : Prop := t < 18446744073709551616 ∧ rung t ≤ 9218868437227405312 ∧ (op = 4 → sgn t = false ∨ rung t = 0)
def Flat (op a b c lo hi ze ne : Nat) : Prop := Ok op lo ∧ Ok op hi ∧ Ok op ze ∧ Ok op ne ∧ place hi = place lo ∧ place ze = place lo ∧ place ne = place lo ∧ belB op a b c lo = true ∧ aboB op a b c hi = true
def Gap (op a b c lo hi ze ne : Nat) (s : Bool) : Prop := Ok op lo ∧ Ok op hi ∧ Ok op ze ∧ Ok op ne ∧ place hi = place lo + 1 ∧ (s = false → 0 ≤ place lo ∧ place ze = place lo) ∧ (s = true → place hi ≤ 0 ∧ place ze = place hi) ∧ (place ne = place lo ∨ place ne = place hi) ∧ sgn lo = s ∧ sgn hi = s ∧ sgn ze = s ∧ sgn ne = s ∧ belB op a b c lo = true ∧ aboB op a b c hi = true ∧ Ok op (nextF lo true) ∧ Ok op (nextF hi false) ∧ place (nextF lo true) = place hi ∧ belB op a b c (nextF lo true) = false ∧ aboB op a b c (nextF hi false) = false
theorem place_word (s : Bool) {k : Nat} (hk : k ≤ 9218868437227405312) : place (Ieee.double.word s k) = tnS s (k : Int) := by
 obtain ⟨h1, h2⟩ := word_rung s (show k < 9223372036854775808 by omega)
 unfold place
 rw [h1, h2]; rfl
theorem ok_word {op : Nat} (s : Bool) {k : Nat} (hk : k ≤ 9218868437227405312) (h : op = 4 → s = false) : Ok op (Ieee.double.word s k) := by
 obtain ⟨h1, h2⟩ := word_rung s (show k < 9223372036854775808 by omega)
 exact ⟨word_lt64 s (by omega), by rw [h1]; exact hk, fun e => Or.inl (by rw [h2]; exact h e)⟩
theorem next_word {s : Bool} {k : Nat} (hk : k ≤ 9218868437227405312) (b : Bool) : nextF (Ieee.double.word s k) b = atF (if b then min (tnS s (k : Int) + 1) 9218868437227405312 else max (tnS s (k : Int) - 1) (-9218868437227405312)) := by
 unfold nextF
 rw [rung_nan (by rw [(word_rung s (show k < 9223372036854775808 by omega)).1]; exact hk), place_word s hk]
 simp
theorem at_word (s : Bool) {k : Nat} (hk : k ≤ 9218868437227405312) : ∃ u, atF (tnS s (k : Int)) = Ieee.double.word u k ∧ (u = s ∨ (k = 0 ∧ u = false)) := by
 cases s
 ·refine ⟨false, ?_, Or.inl rfl⟩
  rw [show tnS false (k : Int) = (k : Int) from rfl, ← at_pos (by omega), word_k _ (by omega)]
  simp
 ·by_cases h0 : k = 0
  ·subst h0
   refine ⟨false, ?_, Or.inr ⟨rfl, rfl⟩⟩
   decide
  ·refine ⟨true, ?_, Or.inl rfl⟩
   rw [show tnS true (k : Int) = -(k : Int) from rfl, word_k _ (by omega)]
   unfold atF
   rw [atB_in (by omega), if_pos rfl, if_pos (by omega)]
   simp only [if_true]
   omega
theorem tn_up (s : Bool) (d : Nat) : (tnS s (((if s then d + 1 else d) : Nat) : Int)) + 1 = tnS s (((if s then d else d + 1) : Nat) : Int) := by
 cases s <;> simp only [tnS, if_true, Bool.false_eq_true, if_false] <;> omega
theorem tn_dn (s : Bool) (d : Nat) : (tnS s (((if s then d else d + 1) : Nat) : Int)) - 1 = tnS s (((if s then d + 1 else d) : Nat) : Int) := by
 cases s <;> simp only [tnS, if_true, Bool.false_eq_true, if_false] <;> omega
theorem b_low (s : Bool) {d : Nat} (h : d + 1 ≤ 9218868437227405312) : (tnS s (((if s then d + 1 else d) : Nat) : Int)) + 1 ≤ 9218868437227405312 := by
 cases s <;> simp only [tnS, if_true, Bool.false_eq_true, if_false] <;> omega
theorem b_high (s : Bool) {d : Nat} (h : d + 1 ≤ 9218868437227405312) : (-9218868437227405312 : Int) ≤ (tnS s (((if s then d else d + 1) : Nat) : Int)) - 1 := by
 cases s <;> simp only [tnS, if_true, Bool.false_eq_true, if_false] <;> omega
theorem side_word {op a b c : Nat} {s : Bool} {A : Nat} {G : Nat → Nat} {d : Nat} (hd : d < 9218868437227405312) (h1 : G d < A) (h2 : d + 1 < 9218868437227405312 → A < G (d + 1)) (h4 : op = 4 → s = false)
  (hS : ∀ t, finB t = true → (op = 4 → sgn t = false ∨ rung t = 0) → hSg op a b c t = cmS s A G t) :
  (∀ u, (u = s ∨ (d = 0 ∧ u = false)) → belB op a b c (Ieee.double.word u d) = !s ∧ aboB op a b c (Ieee.double.word u d) = s) ∧ (belB op a b c (Ieee.double.word s (d + 1)) = s ∧ aboB op a b c (Ieee.double.word s (d + 1)) = !s) := by
 refine ⟨fun u hu => ?_, ?_⟩
 ·obtain ⟨r1, r2⟩ := word_rung u (show d < 9223372036854775808 by omega)
  have hs := hS (Ieee.double.word u d) (by rw [fin_word u (by omega)]; simpa using hd) (fun e => by
   rcases hu with g | g
   ·exact Or.inl (by rw [r2, g]; exact h4 e)
   ·exact Or.inr (by rw [r1]; exact g.1))
  have e : cmS s A G (Ieee.double.word u d) = tnS s 1 := by
   unfold cmS
   rw [r1, r2]
   split
   ·rfl
   ·rw [sgI_pos (by omega)]
  rw [e] at hs
  unfold belB aboB
  rw [r1, if_neg (by omega), if_neg (by omega), hs]
  cases s <;> exact ⟨rfl, rfl⟩
 ·obtain ⟨r1, r2⟩ := word_rung s (show d + 1 < 9223372036854775808 by omega)
  unfold belB aboB
  by_cases hi : d + 1 = 9218868437227405312
  ·rw [r1, r2, if_pos hi, if_pos hi]
   exact ⟨rfl, rfl⟩
  ·have hs := hS (Ieee.double.word s (d + 1)) (by rw [fin_word s (by omega)]; simp; omega) (fun e => Or.inl (by rw [r2]; exact h4 e))
   have e : cmS s A G (Ieee.double.word s (d + 1)) = tnS s (-1) := by
    unfold cmS
    rw [r1, r2, if_neg (by rintro (c | c); omega; exact c rfl), sgI_neg (by have := h2 (by omega); omega)]
   rw [e] at hs
   rw [r1, if_neg hi, if_neg hi, hs]
   cases s <;> exact ⟨rfl, rfl⟩
theorem rg_ways (k : Nat) (r : Int) : (r = 0 ∧ ∀ m, rgS k r m = k) ∨ (0 < r ∧ rgS k r 1 = k ∧ rgS k r 2 = k + 1 ∧ rgS k r 3 = k ∧ rgS k r 0 = k) ∨ (r < 0 ∧ rgS k r 1 = k - 1 ∧ rgS k r 2 = k ∧ rgS k r 3 = k - 1 ∧ rgS k r 0 = k) := by
 rcases Int.lt_trichotomy r 0 with c | c | c
 ·right; right
  refine ⟨c, ?_, ?_, ?_, ?_⟩ <;> unfold rgS
  ·rw [if_pos ⟨Or.inl rfl, c⟩]
  ·rw [if_neg (by rintro ⟨g | g, _⟩ <;> cases g), if_neg (by rintro ⟨_, g⟩; omega)]
  ·rw [if_pos ⟨Or.inr rfl, c⟩]
  ·rw [if_neg (by rintro ⟨g | g, _⟩ <;> cases g), if_neg (by rintro ⟨g, _⟩; cases g)]
 ·left
  refine ⟨c, fun m => ?_⟩
  unfold rgS
  rw [if_neg (by omega), if_neg (by omega)]
 ·right; left
  refine ⟨c, ?_, ?_, ?_, ?_⟩ <;> unfold rgS
  ·rw [if_neg (by omega), if_neg (by omega)]
  ·rw [if_neg (by omega), if_pos ⟨rfl, c⟩]
  ·rw [if_neg (by omega), if_neg (by omega)]
  ·rw [if_neg (by omega), if_neg (by omega)]
theorem gap_of {op a b c : Nat} {s : Bool} {A : Nat} {G : Nat → Nat} {d n : Nat} (hd : d < 9218868437227405312) (h1 : G d < A) (h2 : d + 1 < 9218868437227405312 → A < G (d + 1)) (h4 : op = 4 → s = false)
  (hS : ∀ t, finB t = true → (op = 4 → sgn t = false ∨ rung t = 0) → hSg op a b c t = cmS s A G t) (hn : n = d ∨ n = d + 1) :
  Gap op a b c (Ieee.double.word s (if s then d + 1 else d)) (Ieee.double.word s (if s then d else d + 1)) (Ieee.double.word s d) (Ieee.double.word s n) s := by
 obtain ⟨sd, sl⟩ := side_word hd h1 h2 h4 hS
 have b1 : d ≤ 9218868437227405312 := by omega
 have b2 : d + 1 ≤ 9218868437227405312 := by omega
 have bn : n ≤ 9218868437227405312 := by omega
 have w1 := word_rung s (show d < 9223372036854775808 by omega)
 have w2 := word_rung s (show d + 1 < 9223372036854775808 by omega)
 have wn := word_rung s (show n < 9223372036854775808 by omega)
 cases s
 ·simp only [Bool.false_eq_true, if_false]
  have p1 : place (Ieee.double.word false d) = d := place_word false b1
  have p2 : place (Ieee.double.word false (d + 1)) = ((d + 1 : Nat) : Int) := place_word false b2
  have pn : place (Ieee.double.word false n) = n := place_word false bn
  have e1 : nextF (Ieee.double.word false d) true = Ieee.double.word false (d + 1) := by
   rw [next_word b1]
   simp only [if_true]
   obtain ⟨u, hu, hv⟩ := at_word false b2
   have q1 := b_low false b2
   have q2 := tn_up false d
   simp only [Bool.false_eq_true, if_false] at q1 q2
   rw [Int.min_eq_left q1, q2, hu]
   rcases hv with g | g <;> rw [show u = false by first | exact g | exact g.2]
  have e2 : nextF (Ieee.double.word false (d + 1)) false = Ieee.double.word false d := by
   rw [next_word b2]
   simp only [Bool.false_eq_true, if_false]
   obtain ⟨u, hu, hv⟩ := at_word false b1
   have q1 := b_high false b2
   have q2 := tn_dn false d
   simp only [Bool.false_eq_true, if_false] at q1 q2
   rw [Int.max_eq_left q1, q2, hu]
   rcases hv with g | g <;> rw [show u = false by first | exact g | exact g.2]
  refine ⟨ok_word _ b1 h4, ok_word _ b2 h4, ok_word _ b1 h4, ok_word _ bn h4, by rw [p1, p2]; push_cast; rfl, fun _ => ⟨by rw [p1]; omega, rfl⟩, fun h => absurd h (by decide), ?_, w1.2, w2.2, w1.2, wn.2, (sd false (Or.inl rfl)).1, sl.2, ?_⟩
  ·rcases hn with g | g
   ·left; rw [g]
   ·right; rw [g]
  ·rw [e1, e2]
   exact ⟨ok_word _ b2 h4, ok_word _ b1 h4, rfl, sl.1, (sd false (Or.inl rfl)).2⟩
 ·simp only [if_true]
  have p1 : place (Ieee.double.word true d) = -(d : Int) := place_word true b1
  have p2 : place (Ieee.double.word true (d + 1)) = -((d + 1 : Nat) : Int) := place_word true b2
  have pn : place (Ieee.double.word true n) = -(n : Int) := place_word true bn
  obtain ⟨u, hu, hv⟩ := at_word true b1
  have e1 : nextF (Ieee.double.word true (d + 1)) true = Ieee.double.word u d := by
   rw [next_word b2]
   simp only [if_true]
   have q1 := b_low true b2
   have q2 := tn_up true d
   simp only [if_true] at q1 q2
   rw [Int.min_eq_left q1, q2, hu]
  have e2 : nextF (Ieee.double.word true d) false = Ieee.double.word true (d + 1) := by
   rw [next_word b1]
   simp only [Bool.false_eq_true, if_false]
   obtain ⟨v, hv, hw⟩ := at_word true b2
   have q1 := b_high true b2
   have q2 := tn_dn true d
   simp only [if_true] at q1 q2
   rw [Int.max_eq_left q1, q2, hv]
   rcases hw with g | g
   ·rw [g]
   ·omega
  have pu : place (Ieee.double.word u d) = -(d : Int) := by
   rw [place_word u b1]
   rcases hv with g | ⟨g1, g2⟩
   ·rw [g]; rfl
   ·rw [g1, g2]; rfl
  have ou : Ok op (Ieee.double.word u d) := ok_word _ b1 (fun e => by have := h4 e; cases this)
  refine ⟨ok_word _ b2 h4, ok_word _ b1 h4, ok_word _ b1 h4, ok_word _ bn h4, by rw [p1, p2]; push_cast; omega, fun h => absurd h (by decide), fun _ => ⟨by rw [p1]; omega, rfl⟩, ?_, w2.2, w1.2, w1.2, wn.2, sl.1, (sd true (Or.inl rfl)).2, ?_⟩
  ·rcases hn with g | g
   ·right; rw [g]
   ·left; rw [g]
  ·rw [e1, e2]
   exact ⟨ou, ok_word _ b2 h4, by rw [pu, p1], (sd u hv).1, sl.2⟩
theorem six_ways {op a b c : Nat} (h : Ask op a b c) : ∃ lo hi ze ne, dO op a b c 1 = some lo ∧ dO op a b c 2 = some hi ∧ dO op a b c 3 = some ze ∧ dO op a b c 0 = some ne ∧ (Flat op a b c lo hi ze ne ∨ ∃ s, Gap op a b c lo hi ze ne s) := by
 rcases six h with ⟨s, A, G, f, ⟨k, r, hB, hf⟩, hA, h0, h4, hd, hS⟩ | ⟨hz, hS⟩
 ·refine ⟨f 1, f 2, f 3, f 0, hd 1, hd 2, hd 3, hd 0, ?_⟩
  rw [hf 1, hf 2, hf 3, hf 0]
  obtain ⟨hk, b0, b1, b2⟩ := hB
  have tm : ∀ m, (if s = true then tmd m else m) = if s then tmd m else m := fun m => rfl
  rcases rg_ways k r with ⟨g, gw⟩ | ⟨g, g1, g2, g3, g0⟩ | ⟨g, g1, g2, g3, g0⟩
  ·left
   obtain ⟨hi, hG⟩ := b0 g
   rw [gw, gw, gw, gw]
   have ok := ok_word (op := op) s hk h4
   obtain ⟨r1, r2⟩ := word_rung s (show k < 9223372036854775808 by omega)
   have k0 : k ≠ 0 := fun e => by rw [e, h0] at hG; omega
   have hs := hS (Ieee.double.word s k) (by rw [fin_word s hk]; simpa using hi) ok.2.2
   have e : cmS s A G (Ieee.double.word s k) = 0 := by
    unfold cmS
    rw [r1, r2, if_neg (by rintro (c | c); exact k0 c; exact c rfl), hG, Int.sub_self]
    cases s <;> rfl
   rw [e] at hs
   refine ⟨ok, ok, ok, ok, rfl, rfl, rfl, ?_, ?_⟩
   ·unfold belB; rw [r1, if_neg (by omega), hs]; rfl
   ·unfold aboB; rw [r1, if_neg (by omega), hs]; rfl
  ·right
   obtain ⟨hi, hG, hG2⟩ := b1 g
   refine ⟨s, ?_⟩
   have := gap_of (n := k) hi hG hG2 h4 hS (Or.inl rfl)
   cases s
   ·simp only [Bool.false_eq_true, if_false] at this ⊢
    rw [g1, g2, g3, g0]; exact this
   ·simp only [if_true] at this ⊢
    rw [show tmd 1 = 2 from rfl, show tmd 2 = 1 from rfl, show tmd 3 = 3 from rfl, show tmd 0 = 0 from rfl, g1, g2, g3, g0]; exact this
  ·right
   obtain ⟨k0, hG, hG2⟩ := b2 g
   refine ⟨s, ?_⟩
   have ek : k - 1 + 1 = k := by omega
   have := gap_of (d := k - 1) (n := k) (by omega) hG (by rw [ek]; exact hG2) h4 hS (Or.inr ek.symm)
   rw [ek] at this
   cases s
   ·simp only [Bool.false_eq_true, if_false] at this ⊢
    rw [g1, g2, g3, g0]; exact this
   ·simp only [if_true] at this ⊢
    rw [show tmd 1 = 2 from rfl, show tmd 2 = 1 from rfl, show tmd 3 = 3 from rfl, show tmd 0 = 0 from rfl, g1, g2, g3, g0]; exact this
 ·obtain ⟨lo, e1, l1, z1⟩ := hz 1
  obtain ⟨hi, e2, l2, z2⟩ := hz 2
  obtain ⟨ze, e3, l3, z3⟩ := hz 3
  obtain ⟨ne, e0, l0, z0⟩ := hz 0
  have ok : ∀ x, x < 18446744073709551616 → rung x = 0 → Ok op x := fun x h1 h2 => ⟨h1, by omega, fun _ => Or.inr h2⟩
  have pl : ∀ x, rung x = 0 → place x = 0 := fun x h => by unfold place; rw [h]; split <;> rfl
  refine ⟨lo, hi, ze, ne, e1, e2, e3, e0, Or.inl ⟨ok _ l1 z1, ok _ l2 z2, ok _ l3 z3, ok _ l0 z0, by rw [pl _ z1, pl _ z2], by rw [pl _ z1, pl _ z3], by rw [pl _ z1, pl _ z0], ?_, ?_⟩⟩
  ·unfold belB; rw [z1, if_neg (by omega), hS lo z1]; rfl
  ·unfold aboB; rw [z2, if_neg (by omega), hS hi z2]; rfl
end Go.Proofs.YtfipmopmpacdaaaGreatDoor
