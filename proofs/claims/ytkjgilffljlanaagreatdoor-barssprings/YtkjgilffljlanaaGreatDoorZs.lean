/- What the document's Div answers of finite floats other than 0: what round's tells. -/
import Derived.Test.YtkjgilffljlanaaGreatDoorZt
import Derived.Test.YtkjgilffljlanaaGreatDoorU2
import Derived.Test.YtkjgilffljlanaaGreatDoorZm
import Derived.Test.YtkjgilffljlanaaGreatDoorSf
namespace Go.Proofs.YtkjgilffljlanaaGreatDoor
open Go.RowKit
def flD (x : Nat) : Dy := ⟨sgn x, lo (mg (rung x)), -1074 + (up (rung x) : Int)⟩
set_option maxHeartbeats 800000 in
theorem exact00_any (x : Nat) (hx : x < 18446744073709551616) (w : World) :
  Calls Tryz.prog 91 #[.float .f64 x] w (GaveM w (flD x)) := by
 have hF := fun w => float00_any x hx w
 rw [show (⟨sgn x, lo (mg (rung x)), -1074 + (up (rung x) : Int)⟩ : Dy) = flD x from rfl] at hF
 generalize flD x = d at *
 obtain ⟨n, ms, e⟩ := d
 go_enter Tryz.func91, Tryz.ntmps91
 go_wp2_with (go_at_call 118; refine (hF _).mono ?_; rintro e w1 ⟨ao, cap, rfl, r1, f1, b1⟩; obtain ⟨⟨c0, c1, c2⟩, ⟨g0, g1, g2⟩, B1⟩ := fbox b1)
 refine bodyPost_ret (v := .agg #[.bool n, .slice ao ms.length cap, .int .i64 e]) (by simp [results, Tryz.results91, go_sem, c0, c1, c2]) rfl ⟨ao, cap, rfl, ?_, f1.mono (by simp), ((B1.setCell (Nat.le_refl _) _).setCell (Nat.le_refl _) _).setCell (Nat.le_refl _) _⟩
 have hfr : Frs (w.heap.size + 1) ao := f1.mono (by simp)
 exact ⟨((r1.1.box hfr (by omega) _ _).box hfr (by omega) _ _).box hfr (by omega) _ _, r1.2⟩
def midB (x : Nat) : Bool := decide (553942754166571008 ≤ rung x ∧ rung x ≤ 8660422083433463808)
set_option maxHeartbeats 400000 in
theorem middle_any (x : Nat) (hx : x < 18446744073709551616) (hn : nanB x = false) (w : World) :
    Calls Tryz.prog 86 #[.float .f64 x] w fun e w' => e = .returned (.bool (midB x)) ∧ w' = w := by
  have hr : rung x ≤ 9218868437227405312 := by unfold nanB at hn; simpa using hn
  have HE : Hid (midB x = (decide (553942754166571008 ≤ rung x) && decide (rung x ≤ 8660422083433463808))) := by
    show _ = _
    unfold midB
    rw [Bool.decide_and]
  have o1 : (FloatKind.f64.format.order (rung x) 553942754166571008 == some .gt || FloatKind.f64.format.order (rung x) 553942754166571008 == some .eq) = decide (553942754166571008 ≤ rung x) := by
    rw [gt_num (by omega) (by omega) (nan_small (by omega)) (by decide), eq_num (by omega) (by omega) (nan_small (by omega)) (by decide), place_small (by omega), place_small (by omega), Bool.eq_iff_iff]
    simp; omega
  have o2 : (FloatKind.f64.format.order (rung x) 8660422083433463808 == some .lt || FloatKind.f64.format.order (rung x) 8660422083433463808 == some .eq) = decide (rung x ≤ 8660422083433463808) := by
    rw [lt_num (by omega) (by omega) (nan_small (by omega)) (by decide), eq_num (by omega) (by omega) (nan_small (by omega)) (by decide), place_small (by omega), place_small (by omega), Bool.eq_iff_iff]
    simp; omega
  have ca := abs_any x hx
  cases q1 : decide (553942754166571008 ≤ rung x) <;> rw [q1] at o1 <;> cases q2 : decide (rung x ≤ 8660422083433463808) <;> rw [q2] at o2 <;>
    (go_enter Tryz.func86, Tryz.ntmps86
     go_wp2_with (go_at_call 99; refine (ca _).mono ?_; rintro e w' ⟨rfl, rfl⟩)
     go_ret
     exact ⟨end_bool (by rw [HE.out, q1, q2]; rfl), rfl⟩)
def pwH : Nat := 63388
def pwL : Nat := 64462
theorem mg_lt53 (r : Nat) : mg r < 9007199254740992 := by unfold mg; split <;> omega
theorem sv_fl (x : Nat) : sv (flD x) * 2 ^ up (rung x) = vI x := by
 have e : ((2 : Int) ^ up (rung x)) = ((2 ^ up (rung x) : Nat) : Int) := by push_cast; rfl
 unfold sv flD vI
 simp only
 rw [vl_lo, ← mg_up, e]
 cases sgn x <;> simp [Int.neg_mul]
theorem qd_fl (x : Nat) : qd (flD x) = vI x * 2 ^ pwL := by
 have e : ((flD x).exp + 65536).toNat = up (rung x) + pwL := by unfold flD pwL; simp only; omega
 unfold qd
 rw [e, Int.pow_add, ← Int.mul_assoc, sv_fl]
def tmD (x y : Nat) : Dy := ⟨sgn x != sgn y, lo (vl (lo (mg (rung x))) * vl (lo (mg (rung y)))), -1074 + (up (rung x) : Int) + (-1074 + (up (rung y) : Int))⟩
theorem qd_tm (x y : Nat) : qd (tmD x y) = vI x * vI y * 2 ^ pwH := by
 have e : ((tmD x y).exp + 65536).toNat = up (rung x) + up (rung y) + pwH := by unfold tmD pwH; simp only; omega
 unfold qd
 rw [e, Int.pow_add, ← Int.mul_assoc, ← sv_fl x, ← sv_fl y]
 congr 1
 unfold sv tmD flD
 simp only [vl_lo]
 rw [Int.pow_add]
 generalize (2 : Int) ^ up (rung x) = P
 generalize (2 : Int) ^ up (rung y) = Q
 generalize mg (rung x) = a
 generalize mg (rung y) = b
 have hc : ((a * b : Nat) : Int) = (a : Int) * b := by push_cast; rfl
 rw [hc]
 cases sgn x <;> cases sgn y <;> simp [Int.neg_mul, Int.mul_neg] <;> ac_rfl
theorem vI_neg {x : Nat} (hx : x < 18446744073709551616) : vI (negW x) = -vI x := by
 obtain ⟨r1, r2⟩ := neg_rung hx
 unfold vI
 rw [r1, r2]
 cases sgn x <;> simp
theorem cmp_prod {a b q : Nat} (hq : q < 18446744073709551616) : sgI (qd (tmD a b) - qd (flD q)) = sgI (exX a b (negW q)) := by
 have e : qd (tmD a b) - qd (flD q) = exX a b (negW q) * 2 ^ pwH := by
  rw [qd_tm, qd_fl, exX_un (L := twP) rfl, vI_neg hq, show pwL = twP + pwH from rfl, Int.pow_add, Int.add_mul, Int.neg_mul, Int.neg_mul, ← Int.mul_assoc]
  omega
 rw [e, sg_mul]
theorem fl_len (x : Nat) : (lo (mg (rung x))).length ≤ 1000 := by
 rw [lo_length]
 refine Nat.le_trans (nl_le (n := 1) ?_) (by omega)
 have := mg_lt53 (rung x)
 omega
theorem tm_len (x y : Nat) : (lo (vl (lo (mg (rung x))) * vl (lo (mg (rung y))))).length ≤ 1000 := by
 rw [lo_length, vl_lo, vl_lo]
 refine Nat.le_trans (nl_le (n := 2) ?_) (by omega)
 have h1 := mg_lt53 (rung x)
 have h2 := mg_lt53 (rung y)
 have := Nat.mul_le_mul (Nat.le_of_lt h1) (Nat.le_of_lt h2)
 omega
theorem up_le46 {x : Nat} (hf : finB x = true) : up (rung x) ≤ 2046 := by
 have := fin_rung hf
 unfold up; split <;> omega
theorem side_zero (x : Nat) (r m : Int) (hx : x < 18446744073709551616) (h0 : rung x = 0) (w : World) :
    Calls Tryz.prog 87 #[.float .f64 x, .int .i64 r, .int .i8 m] w fun e w' => e = .returned (.float .f64 (sideR x r m)) ∧ w' = w := by
  have hn : nanB x = false := by unfold nanB; rw [h0]; rfl
  have hz := zero_ne hx
  have hz' : (rung x != 0) = false := by rw [h0]; rfl
  rw [hz'] at hz
  have HE : Hid (sideR x r m = if decide (r < 0) && (m == 1) then downR x else if decide (0 < r) && (m == 2) then upR x else x) := by
    show _ = _
    unfold sideR
    rw [hz']
    simp
  have cg := signbit_any x hx
  obtain ⟨s, hs⟩ : ∃ s, sgn x = s := ⟨_, rfl⟩
  rw [hs] at cg
  clear h0 hz' hs
  cases e1 : (m == 1) <;> cases e2 : (m == 2) <;> cases e3 : (m == 3) <;> cases s <;> by_cases h1 : r < 0 <;> by_cases h2 : 0 < r <;>
    first
    | (exfalso; simp at e1 e2 e3; omega)
    | (go_enter Tryz.func87, Tryz.ntmps87
       go_wp2_with (first
         | (go_at_call 65; refine (cg _).mono ?_; rintro e w' ⟨rfl, rfl⟩)
         | (go_at_call 114; refine (dup_any _ hx hn _).mono ?_; rintro e w' ⟨rfl, rfl⟩)
         | (go_at_call 113; refine (ddown_any _ hx hn _).mono ?_; rintro e w' ⟨rfl, rfl⟩))
       go_ret
       exact ⟨end_flt (by rw [HE.out]; simp [e1, e2, h1, h2]; try (intro _; omega)), rfl⟩)
theorem step_zero {x : Nat} (r m : Int) (hx : x < 18446744073709551616) (h0 : rung x = 0) (hr : r = if sgn x then -1 else 1) : stepF x r m = sideR x r m := by
 have h := rung_of x hx
 rw [h0] at h
 have c1 : cpy (nextF 0 true) 0 = 1 := by kernel_rfl
 have c2 : cpy (nextF 9223372036854775808 false) 9223372036854775808 = 9223372036854775809 := by kernel_rfl
 have c3 : upR 0 = 1 := by kernel_rfl
 have c4 : downR 9223372036854775808 = 9223372036854775809 := by kernel_rfl
 cases hs : sgn x <;> rw [hs] at h hr
 ·have e : x = 0 := by simpa using h
  subst e
  rw [hr]
  unfold stepF sideR dnB upB
  simp [c1, c3, hs, h0]
 ·have e : x = 9223372036854775808 := by simpa using h
  subst e
  rw [hr]
  unfold stepF sideR dnB upB
  simp [c2, c4, hs, h0]
theorem dfin_all (a : Nat) (ha : a < 18446744073709551616) (w : World) :
  Calls Tryz.prog 85 #[.float .f64 a] w fun e w' => e = .returned (.bool (finB a)) ∧ Below w.heap.size w w' := by
 cases hf : finB a
 ·refine (dfin_no a ha hf w).mono ?_
  rintro e w' ⟨rfl, rfl⟩
  exact ⟨rfl, (Below.refl _ _).drew⟩
 ·refine (dfin_yes a ha hf w).mono ?_
  rintro e w' ⟨rfl, rfl⟩
  exact ⟨rfl, Below.refl _ _⟩
theorem side_all (x : Nat) (r m : Int) (hx : x < 18446744073709551616) (fx : finB x = true) (hr : rung x = 0 → r = if sgn x then -1 else 1) (w : World) :
  Calls Tryz.prog 87 #[.float .f64 x, .int .i64 r, .int .i8 m] w fun e w' => e = .returned (.float .f64 (stepF x r m)) ∧ w' = w := by
 have hf := fin_rung fx
 by_cases h0 : rung x = 0
 ·rw [step_zero r m hx h0 (hr h0)]
  exact side_zero x r m hx h0 w
 ·rw [step_side r m hx hf h0]
  exact side_any x r m hx (rung_nan (by omega)) h0 w
theorem mul_sgn {a b q : Nat} (ha : a < 18446744073709551616) (hb : b < 18446744073709551616) (sa : someB a = true) (sb : someB b = true) (hq : floatBits .mul .f64 a b = some q) (hql : q < 18446744073709551616) (h0 : rung q = 0) : sgI (exX a b (negW q)) = if sgn q then -1 else 1 := by
 obtain ⟨fa, a0⟩ := some_rung sa
 obtain ⟨fb, b0⟩ := some_rung sb
 have a0' : rung a ≠ 0 := by simpa using a0
 have b0' : rung b ≠ 0 := by simpa using b0
 have hs : sgn q = (sgn a ^^ sgn b) := by
  rw [(fbits_map a b).2.2.1, read_fin ha fa, read_fin hb fb] at hq
  simp only [Ieee.Datum.product, Option.map_some, Ieee.Format.write, Option.some.injEq] at hq
  obtain ⟨k, hk, e⟩ := nearest_bd (sgn a ^^ sgn b) (mg (rung a) * mg (rung b)) (-1074 + ((up (rung a) : Nat) : Int) + (-1074 + ((up (rung b) : Nat) : Int)))
  rw [← hq, e, (word_rung _ (show k < 9223372036854775808 by omega)).2]
 have vq : vI (negW q) = 0 := by
  rw [vI_neg hql]
  unfold vI
  rw [h0]
  cases sgn q <;> rfl
 have hv : ∀ r, r ≠ 0 → 0 < (val r : Int) := fun r h => by
  have := val_lt (show 0 < r by omega)
  rw [val_zero] at this
  omega
 rw [exX_un (L := twP) rfl, vq, Int.zero_mul, Int.add_zero, hs]
 unfold vI
 have va := hv _ a0'
 have vb := hv _ b0'
 have vab := Int.mul_pos va vb
 unfold sgI
 cases sgn a <;> cases sgn b <;> simp [Int.neg_mul, Int.mul_neg] <;> omega
set_option maxRecDepth 100000 in
set_option maxHeartbeats 2000000 in
theorem dmul_any (a b : Nat) (m : Int) (ha : a < 18446744073709551616) (hb : b < 18446744073709551616) (sa : someB a = true) (sb : someB b = true) (hq0 : floatBits .mul .f64 a b = some (pQ a b)) (w : World) :
  Calls Tryz.prog 123 #[.float .f64 a, .float .f64 b, .int .i8 m] w fun e w' => e = .returned (.float .f64 (stepF (pQ a b) (pS a b) m)) ∧ Below w.heap.size w w' := by
 have fa := (some_rung sa).1
 have fb := (some_rung sb).1
 have eS : pS a b = if finB (pQ a b) then sgI (exX a b (negW (pQ a b))) else if sgn (pQ a b) then 1 else -1 := rfl
 obtain ⟨q, hqe⟩ : ∃ q, pQ a b = q := ⟨_, rfl⟩
 rw [hqe] at hq0 eS ⊢
 rw [eS]
 obtain ⟨q1, q2⟩ := op_word (op := .mul) (Or.inr (Or.inr (Or.inl rfl))) hq0
 have nq : nanB q = false := rung_nan q2
 have h1 := fun w => run_float_arith (P := Tryz.prog) w .mul 40 .f64 _ _ _ hq0
 have hcv := conv64 q
 have ca := dfin_all a ha
 have cb := dfin_all b hb
 have cq := dfin_all q q1
 rw [fa] at ca
 rw [fb] at cb
 have za := zero_eq ha
 have zb := zero_eq hb
 rw [(some_rung sa).2] at za
 rw [(some_rung sb).2] at zb
 obtain ⟨r1, r2⟩ := neg_rung q1
 have hN := negW_lt q1
 cases fq : finB q <;> rw [fq] at cq
 ·have iq : rung q = 9218868437227405312 := by unfold finB at fq; simp at fq; omega
  have cg := great_any q m q1 nq (by omega)
  rw [← step_great m q1 iq] at cg
  simp only [Bool.false_eq_true, if_false]
  generalize stepF q (if sgn q = true then 1 else -1) m = v at *
  clear hq0 eS hqe iq fq q2 r1 r2
  go_enter Tryz.func123, Tryz.ntmps123
  go_wp2_with (first
   | (go_at_call_of 85 (Value.float FloatKind.f64 a); refine (ca _).mono ?_; rintro e w1 ⟨rfl, b1⟩)
   | (go_at_call_of 85 (Value.float FloatKind.f64 b); refine (cb _).mono ?_; rintro e w2 ⟨rfl, b2⟩; have bz := b1.trans (b2.mono b1.size))
   | (go_at_call_of 85 (Value.float FloatKind.f64 q); refine (cq _).mono ?_; rintro e w3 ⟨rfl, b3⟩; have bz := bz.trans (b3.mono bz.size))
   | (go_at_call 148; refine (cg _).mono ?_; rintro e w' ⟨rfl, rfl⟩))
  go_ret
  exact ⟨rfl, bz⟩
 ·simp only [if_true]
  have hsz : rung q = 0 → sgI (exX a b (negW q)) = if sgn q then -1 else 1 := fun h => mul_sgn ha hb sa sb hq0 q1 h
  have cside := side_all q (sgI (exX a b (negW q))) m q1 fq hsz
  have cm := middle_any q q1 nq
  cases hm : midB q <;> rw [hm] at cm
  ·have eA := fun w => exact00_any a ha w
   have eB := fun w => exact00_any b hb w
   have eQ := fun w => exact00_any q q1 w
   have ua := up_le46 fa
   have ub := up_le46 fb
   have uq := up_le46 fq
   have hT := fun ao bo cap bcap w (p1 : NS w ao cap (flD a).mag) (p2 : NS w bo bcap (flD b).mag) => times_any (flD a) (flD b) ao bo cap bcap w p1 p2 (lo_lm _) (lo_lm _) (by have := fl_len a; unfold flD; simp only; omega) (by have := fl_len b; unfold flD; simp only; omega) (by unfold flD; simp only; omega) (by unfold flD; simp only; omega)
   have hC := fun ao bo cap bcap w (p1 : NS w ao cap (tmD a b).mag) (p2 : NS w bo bcap (flD q).mag) => compare_any (tmD a b) (flD q) ao bo cap bcap w p1 p2 (lo_lm _) (lo_lm _) (by have := tm_len a b; unfold tmD; simp only; omega) (by have := fl_len q; unfold flD; simp only; omega) (by unfold tmD; simp only; omega) (by unfold tmD; simp only; omega) (by unfold flD; simp only; omega) (by unfold flD; simp only; omega)
   rw [cmp_prod q1] at hC
   have etm : (⟨(flD a).neg != (flD b).neg, lo (vl (flD a).mag * vl (flD b).mag), (flD a).exp + (flD b).exp⟩ : Dy) = tmD a b := rfl
   rw [etm] at hT
   clear hq0 eS hqe fq q2 r1 r2 hsz ua ub uq etm
   generalize flD a = A at *
   generalize flD b = B at *
   generalize flD q = Q at *
   generalize tmD a b = T at *
   generalize sgI (exX a b (negW q)) = s at *
   go_enter Tryz.func123, Tryz.ntmps123
   go_wp2_with (first
    | (go_at_call_of 85 (Value.float FloatKind.f64 a); refine (ca _).mono ?_; rintro e w1 ⟨rfl, b1⟩)
    | (go_at_call_of 85 (Value.float FloatKind.f64 b); refine (cb _).mono ?_; rintro e w2 ⟨rfl, b2⟩; have bz := b1.trans (b2.mono b1.size))
    | (go_at_call_of 85 (Value.float FloatKind.f64 q); refine (cq _).mono ?_; rintro e w3 ⟨rfl, b3⟩; have bz := bz.trans (b3.mono bz.size))
    | (go_at_call 86; refine (cm _).mono ?_; rintro e w' ⟨rfl, rfl⟩)
    | (go_at_call_of 91 (Value.float FloatKind.f64 a); refine (eA _).mono ?_; rintro e w4 ⟨oa, na, rfl, n4, _, b4⟩; have bz := bz.trans (b4.mono bz.size))
    | (go_at_call_of 91 (Value.float FloatKind.f64 b); refine (eB _).mono ?_; rintro e w5 ⟨ob, nb, rfl, n5, _, b5⟩; have bz := bz.trans (b5.mono bz.size))
    | (go_at_call 92; refine (hT _ _ _ _ _ (n4.below b5) n5).mono ?_; rintro e w6 ⟨ot, nt, rfl, n6, _, b6⟩; have bz := bz.trans (b6.mono bz.size))
    | (go_at_call_of 91 (Value.float FloatKind.f64 q); refine (eQ _).mono ?_; rintro e w7 ⟨oq, nqq, rfl, n7, _, b7⟩; have bz := bz.trans (b7.mono bz.size))
    | (go_at_call 90; refine (hC _ _ _ _ _ (n6.below b7) n7).mono ?_; rintro e w8 ⟨rfl, b8⟩; have bz := bz.trans (b8.mono bz.size))
    | (go_at_call 87; refine (cside _).mono ?_; rintro e w' ⟨rfl, rfl⟩))
   go_ret
   exact ⟨rfl, bz⟩
  ·obtain ⟨g1, g2⟩ : 553942754166571008 ≤ rung q ∧ rung q ≤ 8660422083433463808 := by unfold midB at hm; simpa using hm
   obtain ⟨f, hf⟩ := fma_told2 ha hb hN fa fb (by rw [r1]; exact q2)
   have hs := fma_sign ha hb hN fa fb ((neg_fin q1).trans fq) hf (exX_big (mul_places ha hb sa sb hq0 g1))
   have hfm := run_fma a b (negW q) f hf
   have csg := dsign_any f (fma_word hf).1
   rw [hs] at csg
   have hu := run_negf
   clear hq0 eS hqe fq q2 r1 r2 hsz hf hs g1 g2
   generalize sgI (exX a b (negW q)) = s at *
   go_enter Tryz.func123, Tryz.ntmps123
   go_wp2_with (first
    | (go_at_call_of 85 (Value.float FloatKind.f64 a); refine (ca _).mono ?_; rintro e w1 ⟨rfl, b1⟩)
    | (go_at_call_of 85 (Value.float FloatKind.f64 b); refine (cb _).mono ?_; rintro e w2 ⟨rfl, b2⟩; have bz := b1.trans (b2.mono b1.size))
    | (go_at_call_of 85 (Value.float FloatKind.f64 q); refine (cq _).mono ?_; rintro e w3 ⟨rfl, b3⟩; have bz := bz.trans (b3.mono bz.size))
    | (go_at_call 86; refine (cm _).mono ?_; rintro e w' ⟨rfl, rfl⟩)
    | (go_at_call 88; refine (csg _).mono ?_; rintro e w' ⟨rfl, rfl⟩)
    | (go_at_call 87; refine (cside _).mono ?_; rintro e w' ⟨rfl, rfl⟩))
   go_ret
   exact ⟨rfl, bz⟩
theorem cmp_quot {a b q : Nat} (hq : q < 18446744073709551616) : sgI (qd (flD a) - qd (tmD q b)) = sgI (exX (negW q) b a) := by
 have e : qd (flD a) - qd (tmD q b) = exX (negW q) b a * 2 ^ pwH := by
  rw [qd_tm, qd_fl, exX_un (L := twP) rfl, vI_neg hq, show pwL = twP + pwH from rfl, Int.pow_add, Int.add_mul, Int.neg_mul, Int.neg_mul, ← Int.mul_assoc]
  omega
 rw [e, sg_mul]
theorem div_sgn {a b q : Nat} (ha : a < 18446744073709551616) (hb : b < 18446744073709551616) (sa : someB a = true) (sb : someB b = true) (hq : floatBits .quo .f64 a b = some q) (hql : q < 18446744073709551616) (h0 : rung q = 0) : (if sgn b then -sgI (exX (negW q) b a) else sgI (exX (negW q) b a)) = if sgn q then -1 else 1 := by
 obtain ⟨fa, a0⟩ := some_rung sa
 obtain ⟨fb, b0⟩ := some_rung sb
 have a0' : rung a ≠ 0 := by simpa using a0
 have b0' : rung b ≠ 0 := by simpa using b0
 have m2 : mg (rung b) ≠ 0 := by unfold mg; split <;> omega
 have hs : sgn q = (sgn a ^^ sgn b) := by
  rw [(fbits_map a b).2.2.2, read_fin ha fa, read_fin hb fb] at hq
  simp only [Ieee.Datum.quotient] at hq
  rw [if_neg m2] at hq
  simp only [Option.map_some, Ieee.Format.write, Option.some.injEq] at hq
  obtain ⟨k, hk, e⟩ := nearest_bd (sgn a ^^ sgn b) (2 * (mg (rung a) <<< (54 + (mg (rung b)).log2 - (mg (rung a)).log2) / mg (rung b)) + (mg (rung a) <<< (54 + (mg (rung b)).log2 - (mg (rung a)).log2) % mg (rung b) != 0).toNat) (-1074 + ((up (rung a) : Nat) : Int) - (-1074 + ((up (rung b) : Nat) : Int)) - ((54 + (mg (rung b)).log2 - (mg (rung a)).log2 : Nat) : Int) - 1)
  rw [← hq, e, (word_rung _ (show k < 9223372036854775808 by omega)).2]
 have vq : vI (negW q) = 0 := by
  rw [vI_neg hql]
  unfold vI
  rw [h0]
  cases sgn q <;> rfl
 have va : 0 < (val (rung a) : Int) := by
  have := val_lt (show 0 < rung a by omega)
  rw [val_zero] at this
  omega
 have hx : exX (negW q) b a = vI a * 2 ^ twP := by rw [exX_un (L := twP) rfl, vq, Int.zero_mul, Int.zero_add]
 rw [hx, sg_mul, hs]
 unfold vI sgI
 cases sgn a <;> cases sgn b <;> simp <;> omega
theorem sign_some {b : Nat} (sb : someB b = true) : signF b = if sgn b then -1 else 1 := by
 obtain ⟨fb, b0⟩ := some_rung sb
 have b0' : rung b ≠ 0 := by simpa using b0
 have hr := fin_rung fb
 unfold signF place nanB
 rw [decide_eq_false (by omega)]
 cases sgn b <;> simp <;> omega
set_option maxRecDepth 100000 in
set_option maxHeartbeats 2000000 in
theorem ddiv_any (a b : Nat) (m : Int) (ha : a < 18446744073709551616) (hb : b < 18446744073709551616) (sa : someB a = true) (sb : someB b = true) (hq0 : floatBits .quo .f64 a b = some (kQ a b)) (w : World) :
    Calls Tryz.prog 122 #[.float .f64 a, .float .f64 b, .int .i8 m] w fun e w' => e = .returned (.float .f64 (stepF (kQ a b) (kS a b) m)) ∧ Below w.heap.size w w' := by
  have fa := (some_rung sa).1
  have fb := (some_rung sb).1
  have b0 : rung b ≠ 0 := by simpa using (some_rung sb).2
  have eS : kS a b = if finB (kQ a b) then (if sgn b then -sgI (exX (negW (kQ a b)) b a) else sgI (exX (negW (kQ a b)) b a)) else if sgn (kQ a b) then 1 else -1 := rfl
  obtain ⟨q, hqe⟩ : ∃ q, kQ a b = q := ⟨_, rfl⟩
  rw [hqe] at hq0 eS ⊢
  rw [eS]
  obtain ⟨q1, q2⟩ := op_word (op := .quo) (Or.inr (Or.inr (Or.inr rfl))) hq0
  have nq : nanB q = false := rung_nan q2
  have na : nanB a = false := rung_nan (by have := fin_rung fa; omega)
  have nb : nanB b = false := rung_nan (by have := fin_rung fb; omega)
  have h1 := fun w => run_float_arith (P := Tryz.prog) w .quo 40 .f64 _ _ _ hq0
  have ca := dfin_all a ha
  have cb := dfin_all b hb
  have cq := dfin_all q q1
  rw [fa] at ca
  rw [fb] at cb
  have za := zero_eq ha
  have zb := zero_eq hb
  rw [(some_rung sa).2] at za
  rw [(some_rung sb).2] at zb
  obtain ⟨r1, r2⟩ := neg_rung q1
  have hN := negW_lt q1
  cases fq : finB q <;> rw [fq] at cq
  · have iq : rung q = 9218868437227405312 := by unfold finB at fq; simp at fq; omega
    have cg := great_any q m q1 nq (by omega)
    rw [← step_great m q1 iq] at cg
    simp only [Bool.false_eq_true, if_false]
    generalize stepF q (if sgn q = true then 1 else -1) m = v at *
    clear hq0 eS hqe iq fq q2 r1 r2
    go_enter Tryz.func122, Tryz.ntmps122
    go_wp2_with (first
      | (go_at_call_of 85 (Value.float FloatKind.f64 a); refine (ca _).mono ?_; rintro e w1 ⟨rfl, b1⟩)
      | (go_at_call_of 85 (Value.float FloatKind.f64 b); refine (cb _).mono ?_; rintro e w2 ⟨rfl, b2⟩; have bz := b1.trans (b2.mono b1.size))
      | (go_at_call_of 85 (Value.float FloatKind.f64 q); refine (cq _).mono ?_; rintro e w3 ⟨rfl, b3⟩; have bz := bz.trans (b3.mono bz.size))
      | (go_at_call 148; refine (cg _).mono ?_; rintro e w' ⟨rfl, rfl⟩))
    go_ret
    exact ⟨rfl, bz⟩
  · simp only [if_true]
    have hsz : rung q = 0 → (if sgn b then -sgI (exX (negW q) b a) else sgI (exX (negW q) b a)) = if sgn q then -1 else 1 := fun h => div_sgn ha hb sa sb hq0 q1 h
    have cside := side_all q (if sgn b then -sgI (exX (negW q) b a) else sgI (exX (negW q) b a)) m q1 fq hsz
    have csb := dsign_any b hb
    rw [sign_some sb] at csb
    have hbd := sgI_bd (exX (negW q) b a)
    have hw : IntKind.i64.wrap (sgI (exX (negW q) b a) * (if sgn b then -1 else 1)) = if sgn b then -sgI (exX (negW q) b a) else sgI (exX (negW q) b a) := by
      rcases (show sgI (exX (negW q) b a) = -1 ∨ sgI (exX (negW q) b a) = 0 ∨ sgI (exX (negW q) b a) = 1 by omega) with h | h | h <;> rw [h] <;> cases sgn b <;> rfl
    have ma := middle_any a ha na
    have mb := middle_any b hb nb
    have mq := middle_any q q1 nq
    have hexact : (midB a && midB b && midB q) = false → ∀ w, Calls Tryz.prog 122 #[.float .f64 a, .float .f64 b, .int .i8 m] w fun e w' => e = .returned (.float .f64 (stepF q (if sgn b then -sgI (exX (negW q) b a) else sgI (exX (negW q) b a)) m)) ∧ Below w.heap.size w w' := by
      intro hm w
      have eA := fun w => exact00_any a ha w
      have eB := fun w => exact00_any b hb w
      have eQ := fun w => exact00_any q q1 w
      have ua := up_le46 fa
      have ub := up_le46 fb
      have uq := up_le46 fq
      have hT := fun ao bo cap bcap w (p1 : NS w ao cap (flD q).mag) (p2 : NS w bo bcap (flD b).mag) => times_any (flD q) (flD b) ao bo cap bcap w p1 p2 (lo_lm _) (lo_lm _) (by have := fl_len q; unfold flD; simp only; omega) (by have := fl_len b; unfold flD; simp only; omega) (by unfold flD; simp only; omega) (by unfold flD; simp only; omega)
      have hC := fun ao bo cap bcap w (p1 : NS w ao cap (flD a).mag) (p2 : NS w bo bcap (tmD q b).mag) => compare_any (flD a) (tmD q b) ao bo cap bcap w p1 p2 (lo_lm _) (lo_lm _) (by have := fl_len a; unfold flD; simp only; omega) (by have := tm_len q b; unfold tmD; simp only; omega) (by unfold flD; simp only; omega) (by unfold flD; simp only; omega) (by unfold tmD; simp only; omega) (by unfold tmD; simp only; omega)
      rw [cmp_quot q1] at hC
      have etm : (⟨(flD q).neg != (flD b).neg, lo (vl (flD q).mag * vl (flD b).mag), (flD q).exp + (flD b).exp⟩ : Dy) = tmD q b := rfl
      rw [etm] at hT
      clear hq0 eS hqe fq q2 r1 r2 hsz ua ub uq etm hbd
      generalize flD a = A at *
      generalize flD b = B at *
      generalize flD q = Q at *
      generalize tmD q b = T at *
      generalize (if sgn b = true then -sgI (exX (negW q) b a) else sgI (exX (negW q) b a)) = t at *
      generalize sgI (exX (negW q) b a) = s at *
      generalize (if sgn b = true then (-1 : Int) else 1) = σ at *
      cases qa : midB a <;> rw [qa] at ma <;> cases qb : midB b <;> rw [qb] at mb <;> cases qq : midB q <;> rw [qq] at mq <;>
        first
        | (exfalso; rw [qa, qb, qq] at hm; cases hm; done)
        | (clear hm
           go_enter Tryz.func122, Tryz.ntmps122
           go_wp2_with (first
            | (go_at_call_of 85 (Value.float FloatKind.f64 a); refine (ca _).mono ?_; rintro e w1 ⟨rfl, b1⟩)
            | (go_at_call_of 85 (Value.float FloatKind.f64 b); refine (cb _).mono ?_; rintro e w2 ⟨rfl, b2⟩; have bz := b1.trans (b2.mono b1.size))
            | (go_at_call_of 85 (Value.float FloatKind.f64 q); refine (cq _).mono ?_; rintro e w3 ⟨rfl, b3⟩; have bz := bz.trans (b3.mono bz.size))
            | (go_at_call_of 86 (Value.float FloatKind.f64 a); refine (ma _).mono ?_; rintro e w' ⟨rfl, rfl⟩)
            | (go_at_call_of 86 (Value.float FloatKind.f64 b); refine (mb _).mono ?_; rintro e w' ⟨rfl, rfl⟩)
            | (go_at_call_of 86 (Value.float FloatKind.f64 q); refine (mq _).mono ?_; rintro e w' ⟨rfl, rfl⟩)
            | (go_at_call_of 91 (Value.float FloatKind.f64 a); refine (eA _).mono ?_; rintro e w4 ⟨oa, na2, rfl, n4, _, b4⟩; have bz := bz.trans (b4.mono bz.size))
            | (go_at_call_of 91 (Value.float FloatKind.f64 q); refine (eQ _).mono ?_; rintro e w5 ⟨oq, nq2, rfl, n5, _, b5⟩; have bz := bz.trans (b5.mono bz.size))
            | (go_at_call_of 91 (Value.float FloatKind.f64 b); refine (eB _).mono ?_; rintro e w6 ⟨ob, nb2, rfl, n6, _, b6⟩; have bz := bz.trans (b6.mono bz.size))
            | (go_at_call 92; refine (hT _ _ _ _ _ (n5.below b6) n6).mono ?_; rintro e w7 ⟨ot, nt, rfl, n7, _, b7⟩; have bz := bz.trans (b7.mono bz.size))
            | (go_at_call 90; refine (hC _ _ _ _ _ (((n4.below b5).below b6).below b7) n7).mono ?_; rintro e w8 ⟨rfl, b8⟩; have bz := bz.trans (b8.mono bz.size))
            | (go_at_call 88; refine (csb _).mono ?_; rintro e w' ⟨rfl, rfl⟩)
            | (go_at_call 87; refine (cside _).mono ?_; rintro e w' ⟨rfl, rfl⟩))
           go_ret
           exact ⟨rfl, bz⟩)
    cases hm : (midB a && midB b && midB q)
    · exact hexact hm w
    · clear hexact
      have qa : midB a = true := by revert hm; cases midB a <;> simp
      have qb : midB b = true := by revert hm; cases midB b <;> simp
      have qq : midB q = true := by revert hm; cases midB q <;> simp
      rw [qa] at ma
      rw [qb] at mb
      rw [qq] at mq
      obtain ⟨g1, _⟩ : 553942754166571008 ≤ rung a ∧ rung a ≤ 8660422083433463808 := by unfold midB at qa; simpa using qa
      obtain ⟨g3, _⟩ : 553942754166571008 ≤ rung q ∧ rung q ≤ 8660422083433463808 := by unfold midB at qq; simpa using qq
      obtain ⟨f, hf⟩ := fma_told hN hb ha (by rw [r1]; exact q2) fb b0 fa
      have hs := fma_sign hN hb ha ((neg_fin q1).trans fq) fb fa hf (exX_big (by rw [r1]; exact div_places ha hb sa sb hq0 g1 (by omega) fq))
      have hfm := run_fma (negW q) b a f hf
      have csg := dsign_any f (fma_word hf).1
      rw [hs] at csg
      have hu := run_negf
      clear hq0 eS hqe fq q2 r1 r2 hsz hf hs g1 g3 hm qa qb qq hbd
      generalize (if sgn b = true then -sgI (exX (negW q) b a) else sgI (exX (negW q) b a)) = t at *
      generalize sgI (exX (negW q) b a) = s at *
      generalize (if sgn b = true then (-1 : Int) else 1) = σ at *
      go_enter Tryz.func122, Tryz.ntmps122
      go_wp2_with (first
        | (go_at_call_of 85 (Value.float FloatKind.f64 a); refine (ca _).mono ?_; rintro e w1 ⟨rfl, b1⟩)
        | (go_at_call_of 85 (Value.float FloatKind.f64 b); refine (cb _).mono ?_; rintro e w2 ⟨rfl, b2⟩; have bz := b1.trans (b2.mono b1.size))
        | (go_at_call_of 85 (Value.float FloatKind.f64 q); refine (cq _).mono ?_; rintro e w3 ⟨rfl, b3⟩; have bz := bz.trans (b3.mono bz.size))
        | (go_at_call_of 86 (Value.float FloatKind.f64 a); refine (ma _).mono ?_; rintro e w' ⟨rfl, rfl⟩)
        | (go_at_call_of 86 (Value.float FloatKind.f64 b); refine (mb _).mono ?_; rintro e w' ⟨rfl, rfl⟩)
        | (go_at_call_of 86 (Value.float FloatKind.f64 q); refine (mq _).mono ?_; rintro e w' ⟨rfl, rfl⟩)
        | (go_at_call_of 88 (Value.float FloatKind.f64 f); refine (csg _).mono ?_; rintro e w' ⟨rfl, rfl⟩)
        | (go_at_call_of 88 (Value.float FloatKind.f64 b); refine (csb _).mono ?_; rintro e w' ⟨rfl, rfl⟩)
        | (go_at_call 87; refine (cside _).mono ?_; rintro e w' ⟨rfl, rfl⟩))
      go_ret
      exact ⟨rfl, bz⟩
end Go.Proofs.YtkjgilffljlanaaGreatDoor
