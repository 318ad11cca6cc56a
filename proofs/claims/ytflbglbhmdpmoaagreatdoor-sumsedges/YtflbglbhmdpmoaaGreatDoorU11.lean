/- What the document's Sqrt answers of any float: what round's tells. -/
import Derived.Test.YtflbglbhmdpmoaaGreatDoorZ7
import Derived.Test.YtflbglbhmdpmoaaGreatDoorU10
import Derived.Test.YtflbglbhmdpmoaaGreatDoorZ10
import Derived.Test.YtflbglbhmdpmoaaGreatDoorU7
import Derived.Test.YtflbglbhmdpmoaaGreatDoorU9
namespace Go.Proofs.YtflbglbhmdpmoaaGreatDoor
open Go.RowKit

/-- An exact number of X units of 2^-2148 other than 0, rounded. -/
def fusX (X m : Int) (k : Nat) : Nat := stepF (Ieee.double.word (decide (X < 0)) k) (sdK (decide (X < 0)) (X.natAbs * 2 ^ pwH) k) m
theorem lo_trim (v : Nat) : lo v = lo (vl (lo v)) := by rw [vl_lo]
theorem tm_trim (a b : Nat) : (tmD a b).mag = lo (vl (tmD a b).mag) := lo_trim _
theorem fl_trim (c : Nat) : (flD c).mag = lo (vl (flD c).mag) := lo_trim _
theorem nat_pow2 (X : Int) (K : Nat) : (X * 2 ^ K).natAbs = X.natAbs * 2 ^ K := by rw [Int.natAbs_mul, Int.natAbs_pow]; rfl
theorem pw_split {e : Int} (h : -2148 ≤ e) : (e + 65536).toNat = (e + 2148).toNat + pwH := by unfold pwH; omega
theorem fus_plain {a b c : Nat} (fa : finB a = true) (fb : finB b = true) (fc : finB c = true) {y : Dy} (h : PlusV (tmD a b) (flD c) y) (ht : y.mag = lo (vl y.mag) ∨ y.mag = (tmD a b).mag ∨ y.mag = (flD c).mag) :
    qd y = exX a b c * 2 ^ pwH ∧ -2148 ≤ y.exp ∧ y.exp ≤ 2100 ∧ y.mag.length ≤ 256 ∧ bl (vl y.mag) ≤ 16384 := by
  have hu : ∀ x, finB x = true → up (rung x) ≤ 2046 := fun x hx => by have := fin_rung hx; unfold up; split <;> omega
  have ua := hu a fa
  have ub := hu b fb
  have uc := hu c fc
  have te : -2148 ≤ (tmD a b).exp ∧ (tmD a b).exp ≤ 2000 := by unfold tmD; simp only; omega
  have fe : -1074 ≤ (flD c).exp ∧ (flD c).exp ≤ 1000 := by unfold flD; simp only; omega
  obtain ⟨p1, p2, p3⟩ := h
  have e := p3 (-65536) (by omega) (by omega)
  have hq : qd y = exX a b c * 2 ^ pwH := by
    have e1 : qd y = sv y * 2 ^ (y.exp - -65536).toNat := by unfold qd; rw [show y.exp - -65536 = y.exp + 65536 by omega]
    have e2 : sv (tmD a b) * 2 ^ ((tmD a b).exp - -65536).toNat = qd (tmD a b) := by unfold qd; rw [show (tmD a b).exp - -65536 = (tmD a b).exp + 65536 by omega]
    have e3 : sv (flD c) * 2 ^ ((flD c).exp - -65536).toNat = qd (flD c) := by unfold qd; rw [show (flD c).exp - -65536 = (flD c).exp + 65536 by omega]
    rw [e1, e, e2, e3, qd_tm, qd_fl, exX_un (L := twP) rfl, show pwL = twP + pwH from rfl, Int.pow_add, Int.add_mul, Int.mul_assoc (vI c)]
  have hb : bl (vl y.mag) ≤ 16384 := by
    have hX := (exX_lt fa fb fc).2
    obtain ⟨N, hN⟩ : ∃ N : Nat, N = 16384 := ⟨_, rfl⟩
    rw [← hN] at hX ⊢
    refine bl_le_iff.2 (Nat.lt_of_le_of_lt ?_ (bl_le_iff.1 hX))
    have h1 : (qd y).natAbs = vl y.mag * 2 ^ (y.exp + 65536).toNat := by
      unfold qd
      rw [Int.natAbs_mul, sv_abs, Int.natAbs_pow]; rfl
    rw [hq, nat_pow2, pw_split (e := y.exp) (by omega), Nat.pow_add, ← Nat.mul_assoc] at h1
    have h2 : (exX a b c).natAbs = vl y.mag * 2 ^ (y.exp + 2148).toNat := Nat.eq_of_mul_eq_mul_right (Nat.two_pow_pos pwH) h1
    rw [h2]
    exact Nat.le_mul_of_pos_right _ (Nat.two_pow_pos _)
  have hm : y.mag = lo (vl y.mag) := by
    rcases ht with h | h | h
    · exact h
    · rw [h]; exact tm_trim a b
    · rw [h]; exact fl_trim c
  refine ⟨hq, by omega, by omega, ?_, hb⟩
  rw [hm, lo_length]
  unfold nl
  omega
theorem fus_sign {X : Int} {y : Dy} (h : qd y = X * 2 ^ pwH) : sgI (sv y) = sgI X ∧ (X ≠ 0 → vl y.mag ≠ 0 ∧ y.neg = decide (X < 0) ∧ vl y.mag * 2 ^ (y.exp + 65536).toNat = X.natAbs * 2 ^ pwH) := by
  have h1 : sgI (qd y) = sgI (sv y) := by unfold qd; exact sg_mul _
  have h2 : sgI (qd y) = sgI X := by rw [h, sg_mul]
  refine ⟨h1.symm.trans h2, fun h0 => ?_⟩
  have hq : (qd y).natAbs = vl y.mag * 2 ^ (y.exp + 65536).toNat := by
    unfold qd
    rw [Int.natAbs_mul, sv_abs, Int.natAbs_pow]; rfl
  have hs : sv y ≠ 0 := by
    intro hz
    have h3 := h1.symm.trans h2
    rw [hz] at h3
    unfold sgI at h3
    (repeat' split at h3) <;> omega
  have hv : vl y.mag ≠ 0 := fun hz => hs (sv_zero hz)
  refine ⟨hv, ?_, ?_⟩
  · rw [← sv_neg (d := y) hv]
    have h3 := h1.symm.trans h2
    unfold sgI at h3
    rw [Bool.eq_iff_iff]
    simp only [decide_eq_true_eq]
    (repeat' split at h3) <;> omega
  · rw [← hq, h, nat_pow2]
set_option maxRecDepth 100000 in
set_option maxHeartbeats 2000000 in
theorem dfused_fin (a b c R : Nat) (m : Int) (ha : a < 18446744073709551616) (hb : b < 18446744073709551616) (hc : c < 18446744073709551616) (fa : finB a = true) (fb : finB b = true) (fc : finB c = true)
    (hR : (exX a b c = 0 ∧ R = noughtR (rung a == 0 || rung b == 0) (sgn a != sgn b) c m) ∨ (exX a b c ≠ 0 ∧ ∃ k, NearK ((exX a b c).natAbs * 2 ^ pwH) k ∧ R = fusX (exX a b c) m k)) (w : World) :
    Calls Tryz.prog 92 #[.float .f64 a, .float .f64 b, .float .f64 c, .int .i8 m] w fun e w' => e = .returned (.float .f64 R) ∧ Below w.heap.size w w' := by
  have ca := dfin_yes a ha fa
  have cb := dfin_yes b hb fb
  have cc := dfin_yes c hc fc
  have xa := fun W => exact00_any a ha W
  have xb := fun W => exact00_any b hb W
  have xc := fun W => exact00_any c hc W
  have hu : ∀ x, finB x = true → up (rung x) ≤ 2046 := fun x hx => by have := fin_rung hx; unfold up; split <;> omega
  have ua := hu a fa
  have ub := hu b fb
  have uc := hu c fc
  have hT := fun ao bo cap bcap W (h1 : NS W ao cap (flD a).mag) (h2 : NS W bo bcap (flD b).mag) => times_any (flD a) (flD b) ao bo cap bcap W h1 h2 (lo_lm _) (lo_lm _) (by have := fl_len a; unfold flD; simp only; omega) (by have := fl_len b; unfold flD; simp only; omega) (by unfold flD; simp only; omega) (by unfold flD; simp only; omega)
  have etm : (⟨(flD a).neg != (flD b).neg, lo (vl (flD a).mag * vl (flD b).mag), (flD a).exp + (flD b).exp⟩ : Dy) = tmD a b := rfl
  simp only [etm] at hT
  have hP := fun ao bo cap bcap W (h1 : NS W ao cap (tmD a b).mag) (h2 : NS W bo bcap (flD c).mag) => plus_any (tmD a b) (flD c) ao bo cap bcap W h1 h2 (lo_lm _) (lo_lm _) (by have := tm_len a b; unfold tmD; simp only; omega) (by have := fl_len c; unfold flD; simp only; omega) (by unfold tmD; simp only; omega) (by unfold tmD; simp only; omega) (by unfold flD; simp only; omega) (by unfold flD; simp only; omega)
  have HP : Hid (∀ y, PlusV (tmD a b) (flD c) y → (y.mag = lo (vl y.mag) ∨ y.mag = (tmD a b).mag ∨ y.mag = (flD c).mag) → qd y = exX a b c * 2 ^ pwH ∧ -2148 ≤ y.exp ∧ y.exp ≤ 2100 ∧ y.mag.length ≤ 256 ∧ bl (vl y.mag) ≤ 16384) := fun y h1 h2 => fus_plain fa fb fc h1 h2
  have HR : Hid ((exX a b c = 0 ∧ R = noughtR (rung a == 0 || rung b == 0) (sgn a != sgn b) c m) ∨ (exX a b c ≠ 0 ∧ ∃ k, NearK ((exX a b c).natAbs * 2 ^ pwH) k ∧ R = fusX (exX a b c) m k)) := hR
  have hz := fun W => dnought_any (rung a == 0 || rung b == 0) (sgn a != sgn b) c m hc W
  have za := zero_eq ha
  have zb := zero_eq hb
  have sa := signbit_any a ha
  have sb := signbit_any b hb
  clear hR hu ua ub uc etm
  generalize exX a b c = X at *
  generalize hA : flD a = A at *
  generalize hB : flD b = B at *
  generalize hC : flD c = C at *
  generalize hTm : tmD a b = T at *
  clear hA hB hC hTm
  obtain ⟨an, am, ae⟩ := A
  obtain ⟨bn, bm, be⟩ := B
  obtain ⟨cn, cm, ce⟩ := C
  obtain ⟨tn, tm, te⟩ := T
  simp only at hT hP
  go_enter Tryz.func92, Tryz.ntmps92
  go_upto_region 6 with (first
    | (go_at_call_of 53 (Value.float FloatKind.f64 a); refine (ca _).mono ?_; rintro e w' ⟨rfl, h'⟩; subst w')
    | (go_at_call_of 53 (Value.float FloatKind.f64 b); refine (cb _).mono ?_; rintro e w' ⟨rfl, h'⟩; subst w')
    | (go_at_call_of 53 (Value.float FloatKind.f64 c); refine (cc _).mono ?_; rintro e w' ⟨rfl, h'⟩; subst w')
    | (go_at_call_of 40 (Value.float FloatKind.f64 a); refine (xa _).mono ?_; rintro e w1 ⟨o1, c1, rfl, n1, _, b1⟩)
    | (go_at_call_of 40 (Value.float FloatKind.f64 b); refine (xb _).mono ?_; rintro e w2 ⟨o2, c2, rfl, n2, _, b2⟩; have B2 := b1.trans (b2.mono b1.size))
    | (go_at_call_of 40 (Value.float FloatKind.f64 c); refine (xc _).mono ?_; rintro e w4 ⟨o4, c4, rfl, n4, _, b4⟩; have B4 := B3.trans (b4.mono B3.size))
    | (go_at_call 42; refine (hT _ _ _ _ _ (n1.below b2) n2).mono ?_; rintro e w3 ⟨o3, c3, rfl, n3, _, b3⟩; have B3 := B2.trans (b3.mono B2.size))
    | (go_at_call 41; refine (hP _ _ _ _ _ (n3.below b4) n4).mono ?_; rintro e w5 ⟨⟨yn, ym, ye⟩, yo, yc, rfl, hv, hlt, _, n5, b5⟩; have B5 := B4.trans (b5.mono B4.size); have hv5 : Hid _ := hv; have hl5 : Hid _ := hlt; clear hv hlt))
  have hl6 := hl5.out
  obtain ⟨q1, q2, q3, q4, q5⟩ := HP.out ⟨yn, ym, ye⟩ hv5.out (hl6.2.imp (fun h => h.1) (fun h => h.imp (fun h => h.1) (fun h => h.1)))
  simp only at q2 q3 q4 q5
  obtain ⟨s1, s2⟩ := fus_sign q1
  have hLy : Lm ym := hv5.out.1
  have cS := fun W (h : NS W yo yc ym) => nsign_any ⟨yn, ym, ye⟩ yo yc W h hLy (by simp only; omega)
  simp only [s1] at cS
  have n6 : NS (w5.alloc (.cells #[.bool yn, .slice yo ym.length yc, .int .i64 ye] 53)) yo yc ym := n5.below ((Below.refl _ _).alloc (Nat.le_refl _) _)
  have B6 : Below w.heap.size w (w5.alloc (.cells #[.bool yn, .slice yo ym.length yc, .int .i64 ye] 53)) := B5.alloc B5.size _
  clear hl6 hl5 hv5 HP q1 s1 n5 n4 n3 n2 n1 b1 b2 b3 b4 b5 B2 B3 B4 B5 hT hP xa xb xc ca cb cc
  rcases HR.out with ⟨hX, hR⟩ | ⟨hX, k, hN, hR⟩
  · clear s2 HR
    subst hX
    simp only [← hR] at hz
    clear hR
    have cS0 : ∀ W : World, NS W yo yc ym → Calls Tryz.prog 74 #[.agg #[.bool yn, .slice yo ym.length yc, .int .i64 ye]] W fun e w' => e = .returned (.int .i64 0) ∧ Below W.heap.size W w' := cS
    clear cS
    cases e1 : (rung a == 0) <;> rw [e1] at za hz
    · cases e2 : (rung b == 0) <;> rw [e2] at zb hz <;> simp only [Bool.or_self, Bool.or_true] at hz
      all_goals
        go_wp2_with (first
          | (go_at_call 74; refine (cS0 _ n6).mono ?_; rintro e w6 ⟨rfl, b6⟩)
          | (go_at_call_of 87 (Value.float FloatKind.f64 a); refine (sa _).mono ?_; rintro e w' ⟨rfl, rfl⟩)
          | (go_at_call_of 87 (Value.float FloatKind.f64 b); refine (sb _).mono ?_; rintro e w' ⟨rfl, rfl⟩)
          | (go_at_call 86; refine (hz _).mono ?_; rintro e w' ⟨rfl, rfl⟩))
        go_ret
        exact ⟨rfl, B6.trans (b6.mono B6.size)⟩
    · simp only [Bool.true_or] at hz
      go_wp2_with (first
        | (go_at_call 74; refine (cS0 _ n6).mono ?_; rintro e w6 ⟨rfl, b6⟩)
        | (go_at_call_of 87 (Value.float FloatKind.f64 a); refine (sa _).mono ?_; rintro e w' ⟨rfl, rfl⟩)
        | (go_at_call_of 87 (Value.float FloatKind.f64 b); refine (sb _).mono ?_; rintro e w' ⟨rfl, rfl⟩)
        | (go_at_call 86; refine (hz _).mono ?_; rintro e w' ⟨rfl, rfl⟩))
      go_ret
      exact ⟨rfl, B6.trans (b6.mono B6.size)⟩
  · obtain ⟨t1, t2, t3⟩ := s2 hX
    simp only at t1 t2 t3
    have cO := fun W (h : NS W yo yc ym) => of_any yn ym ye m k yo yc W h hLy (by omega) t1 (by omega) (by omega) (by omega) (by rw [t3]; exact hN)
    have eR : ofW yn (vl ym) ye m k = R := by rw [hR]; unfold ofW fusX; rw [t3, t2]
    simp only [eR] at cO
    have hs0 : (sgI X == 0) = false := by
      unfold sgI; rw [Bool.eq_false_iff]; simp only [ne_eq, beq_iff_eq]; split <;> (try split) <;> omega
    generalize sgI X = S at *
    clear eR hR t1 t2 t3 hN s2 HR hX hz za zb
    go_wp2_with (first
      | (go_at_call 74; refine (cS _ n6).mono ?_; rintro e w6 ⟨rfl, b6⟩; obtain ⟨⟨c0, c1, c2⟩, _, _⟩ := fbox b6)
      | (go_at_call 43; refine (cO _ (n6.below b6)).mono ?_; rintro e w7 ⟨rfl, b7⟩))
    go_ret
    have B7 := B6.trans (b6.mono B6.size)
    exact ⟨rfl, B7.trans (b7.mono B7.size)⟩
end Go.Proofs.YtflbglbhmdpmoaaGreatDoor

namespace Go.Proofs.YtflbglbhmdpmoaaGreatDoor
open Go.RowKit

set_option maxHeartbeats 1000000 in
theorem dfused_inf (a b c : Nat) (m : Int) (ha : a < 18446744073709551616) (hb : b < 18446744073709551616) (hc : c < 18446744073709551616) (hf : (finB a && finB b) = false) (w : World) :
    Calls Tryz.prog 92 #[.float .f64 a, .float .f64 b, .float .f64 c, .int .i8 m] w fun e w' => ∃ r, e = .returned (.float .f64 r) ∧ NR (fuI a b c) r ∧ Below w.heap.size w w' := by
  have ca := dfin_all a ha
  have cb := dfin_all b hb
  have hcv := conv64
  have h1 := fun x y w => run_op4 (P := Tryz.prog) (op := .mul) (Or.inr (Or.inr (Or.inl rfl))) 26 x y w
  have h2 := fun x y w => run_op4 (P := Tryz.prog) (op := .add) (Or.inl rfl) 26 x y w
  have hN := fuI_NR (a := a) (b := b) hc
  have bz := Below.refl w.heap.size w
  cases fa : finB a <;> rw [fa] at ca
  · go_enter Tryz.func92, Tryz.ntmps92
    go_wp2_with (go_at_call_of 53 (Value.float FloatKind.f64 a); refine (ca _).mono ?_; rintro e w1 ⟨rfl, b1⟩; have bz := bz.trans (b1.mono bz.size))
    go_ret
    exact ⟨_, rfl, hN _, opW_below .add _ c (opW_below .mul a b bz)⟩
  · cases fb : finB b <;> rw [fb] at cb
    · go_enter Tryz.func92, Tryz.ntmps92
      go_wp2_with (first
        | (go_at_call_of 53 (Value.float FloatKind.f64 a); refine (ca _).mono ?_; rintro e w1 ⟨rfl, b1⟩; have bz := bz.trans (b1.mono bz.size))
        | (go_at_call_of 53 (Value.float FloatKind.f64 b); refine (cb _).mono ?_; rintro e w2 ⟨rfl, b2⟩; have bz := bz.trans (b2.mono bz.size)))
      go_ret
      exact ⟨_, rfl, hN _, opW_below .add _ c (opW_below .mul a b bz)⟩
    · rw [fa, fb] at hf; cases hf
set_option maxHeartbeats 1000000 in
theorem dfused_c (a b c : Nat) (m : Int) (ha : a < 18446744073709551616) (hb : b < 18446744073709551616) (hc : c < 18446744073709551616) (fa : finB a = true) (fb : finB b = true) (fc : finB c = false) (w : World) :
    Calls Tryz.prog 92 #[.float .f64 a, .float .f64 b, .float .f64 c, .int .i8 m] w fun e w' => e = .returned (.float .f64 c) ∧ Below w.heap.size w w' := by
  have ca := dfin_all a ha
  have cb := dfin_all b hb
  have cc := dfin_all c hc
  rw [fa] at ca
  rw [fb] at cb
  rw [fc] at cc
  have bz := Below.refl w.heap.size w
  go_enter Tryz.func92, Tryz.ntmps92
  go_wp2_with (first
    | (go_at_call_of 53 (Value.float FloatKind.f64 a); refine (ca _).mono ?_; rintro e w1 ⟨rfl, b1⟩; have bz := bz.trans (b1.mono bz.size))
    | (go_at_call_of 53 (Value.float FloatKind.f64 b); refine (cb _).mono ?_; rintro e w2 ⟨rfl, b2⟩; have bz := bz.trans (b2.mono bz.size))
    | (go_at_call_of 53 (Value.float FloatKind.f64 c); refine (cc _).mono ?_; rintro e w3 ⟨rfl, b3⟩; have bz := bz.trans (b3.mono bz.size)))
  go_ret
  exact ⟨rfl, bz⟩
theorem dfused_any (a b c : Nat) (m : Int) (ha : a < 18446744073709551616) (hb : b < 18446744073709551616) (hc : c < 18446744073709551616) (w : World) :
    Calls Tryz.prog 92 #[.float .f64 a, .float .f64 b, .float .f64 c, .int .i8 m] w fun e w' => ∃ r, e = .returned (.float .f64 r) ∧ NR (fuO a b c m) r ∧ Below w.heap.size w w' := by
  unfold fuO
  cases hf : (finB a && finB b)
  · simp only [Bool.false_eq_true, if_false]
    exact dfused_inf a b c m ha hb hc hf w
  · have fa : finB a = true := by revert hf; cases finB a <;> simp
    have fb : finB b = true := by revert hf; cases finB b <;> simp
    simp only [if_true]
    cases fc : finB c
    · simp only [Bool.false_eq_true, if_false]
      refine (dfused_c a b c m ha hb hc fa fb fc w).mono ?_
      rintro e w' ⟨rfl, h⟩
      refine ⟨_, rfl, ?_, h⟩
      cases nc : nanB c
      · exact ⟨hc, rfl⟩
      · exact ⟨hc, nc⟩
    · simp only [if_true]
      have hR : (exX a b c = 0 ∧ fuW a b c m = noughtR (rung a == 0 || rung b == 0) (sgn a != sgn b) c m) ∨ (exX a b c ≠ 0 ∧ ∃ k, NearK ((exX a b c).natAbs * 2 ^ pwH) k ∧ fuW a b c m = fusX (exX a b c) m k) := by
        by_cases h0 : exX a b c = 0
        · exact Or.inl ⟨h0, by unfold fuW; rw [if_pos h0]⟩
        · refine Or.inr ⟨h0, fuK (exX a b c), ?_, ?_⟩
          · have h := fuK_near h0
            rw [show puH = pwH from rfl] at h
            exact h
          · unfold fuW fuV fusX
            rw [if_neg h0, show puH = pwH from rfl]
      refine (dfused_fin a b c (fuW a b c m) m ha hb hc fa fb fc hR w).mono ?_
      rintro e w' ⟨rfl, h⟩
      exact ⟨_, rfl, ⟨fuW_lt a b c m hc, rfl⟩, h⟩
end Go.Proofs.YtflbglbhmdpmoaaGreatDoor

namespace Go.Proofs.YtflbglbhmdpmoaaGreatDoor
open Go.RowKit

theorem root_from (n : Nat) : ∀ (t r : Nat), r * r ≤ n → n < (r + 2 ^ t) * (r + 2 ^ t) → Ieee.Datum.rootFrom n t r * Ieee.Datum.rootFrom n t r ≤ n ∧ n < (Ieee.Datum.rootFrom n t r + 1) * (Ieee.Datum.rootFrom n t r + 1)
  | 0, r, h1, h2 => by
    unfold Ieee.Datum.rootFrom
    exact ⟨h1, by simpa using h2⟩
  | t + 1, r, h1, h2 => by
    unfold Ieee.Datum.rootFrom
    simp only [Nat.shiftLeft_eq, Nat.one_mul]
    by_cases h : (r + 2 ^ t) * (r + 2 ^ t) ≤ n
    · rw [if_pos h]
      refine root_from n t _ h ?_
      rw [Nat.add_assoc, show 2 ^ t + 2 ^ t = 2 ^ (t + 1) by rw [Nat.pow_succ]; omega]
      exact h2
    · rw [if_neg h]
      exact root_from n t r h1 (by omega)
theorem root_whole (n : Nat) : Ieee.Datum.rootFrom n (n.log2 / 2 + 1) 0 * Ieee.Datum.rootFrom n (n.log2 / 2 + 1) 0 ≤ n ∧ n < (Ieee.Datum.rootFrom n (n.log2 / 2 + 1) 0 + 1) * (Ieee.Datum.rootFrom n (n.log2 / 2 + 1) 0 + 1) := by
  refine root_from n _ 0 (by simp) ?_
  rw [Nat.zero_add, ← Nat.pow_add]
  exact Nat.lt_of_lt_of_le (Nat.lt_log2_self (n := n)) (Nat.pow_le_pow_right (by omega) (by omega))
def topG : Nat := 1600
theorem far_root : val 7210263003420164096 = 4503599627370496 * 2 ^ topG := by
  unfold val
  rw [if_neg (by omega), show 7210263003420164096 % 4503599627370496 = 0 by decide, show 7210263003420164096 / 4503599627370496 - 1 = topG by decide]
def lowG : Nat := 537
theorem low_root : val 2422936599525326848 = 4503599627370496 * 2 ^ lowG := by
  unfold val
  rw [if_neg (by omega), show 2422936599525326848 % 4503599627370496 = 0 by decide, show 2422936599525326848 / 4503599627370496 - 1 = lowG by decide]
theorem log_bd {m : Nat} (h : m ≠ 0) (h2 : m < 9007199254740992) : m.log2 ≤ 52 := by
  have h1 := Nat.log2_self_le h
  rcases Nat.lt_or_ge m.log2 53 with g | g
  · omega
  · have := Nat.pow_le_pow_right (n := 2) (by omega) g
    have e : (2 : Nat) ^ 53 = 9007199254740992 := by decide
    omega
/-- The root's digits and place. -/
theorem root_told {a q : Nat} (ha : a < 18446744073709551616) (sa : someB a = true) (hs : sgn a = false) (hq : FloatKind.f64.format.sqrt a = some q) :
    ∃ (M : Nat) (p : Int), q = Ieee.double.nearest false M p ∧ 2 ^ 55 ≤ M ∧ M < 2 ^ 57 ∧ -593 ≤ p ∧ p ≤ 485 ∧ (174 ≤ (mg (rung a)).log2 + up (rung a) → -506 ≤ p) := by
  obtain ⟨fa, a0⟩ := some_rung sa
  have a0' : rung a ≠ 0 := by simpa using a0
  have hr := fin_rung fa
  have m1 : mg (rung a) ≠ 0 := by unfold mg; split <;> omega
  have m2 : mg (rung a) < 9007199254740992 := by unfold mg; split <;> omega
  have hu : up (rung a) ≤ 2045 := by unfold up; split <;> omega
  have hl := log_bd m1 m2
  have hq2 : ((Ieee.double.read a).root 54).map Ieee.double.write = some q := hq
  rw [read_fin ha fa, hs] at hq2
  simp only [Ieee.Datum.root] at hq2
  rw [if_neg m1, if_neg (by simp)] at hq2
  simp only [Option.map_some, Ieee.Format.write, Option.some.injEq] at hq2
  obtain ⟨u, hu1⟩ : ∃ u, up (rung a) = u := ⟨_, rfl⟩
  obtain ⟨M, hM⟩ : ∃ M, mg (rung a) = M := ⟨_, rfl⟩
  rw [hu1, hM] at hq2
  rw [hu1] at hu
  rw [hM] at m1 m2 hl
  rw [hu1, hM]
  obtain ⟨more, hmore⟩ : ∃ d, 2 * 54 - M.log2 + ((-1074 + (u : Int) - ((2 * 54 - M.log2 : Nat) : Int)) % 2).toNat = d := ⟨_, rfl⟩
  rw [hmore] at hq2
  have g1 : 108 ≤ M.log2 + more ∧ M.log2 + more ≤ 109 := by omega
  obtain ⟨w, hw⟩ : ∃ w, Ieee.Datum.rootFrom (M <<< more) ((M <<< more).log2 / 2 + 1) 0 = w := ⟨_, rfl⟩
  have hR := root_whole (M <<< more)
  rw [hw] at hq2 hR
  have n1 : 2 ^ 108 ≤ M <<< more := by
    rw [Nat.shiftLeft_eq]
    have h1 := Nat.log2_self_le m1
    have h2 := Nat.mul_le_mul_right (2 ^ more) h1
    rw [← Nat.pow_add] at h2
    exact Nat.le_trans (Nat.pow_le_pow_right (by omega) g1.1) h2
  have n2 : M <<< more < 2 ^ 110 := by
    rw [Nat.shiftLeft_eq]
    have h1 := Nat.lt_log2_self (n := M)
    have h2 := Nat.mul_lt_mul_of_pos_right h1 (Nat.two_pow_pos more)
    rw [← Nat.pow_add] at h2
    exact Nat.lt_of_lt_of_le h2 (Nat.pow_le_pow_right (by omega) (by omega))
  have w1 : 2 ^ 54 ≤ w := by
    rcases Nat.lt_or_ge w (2 ^ 54) with h | h
    · exfalso
      have h2 : (w + 1) * (w + 1) ≤ 2 ^ 54 * 2 ^ 54 := Nat.mul_le_mul h h
      rw [← Nat.pow_add] at h2
      omega
    · exact h
  have w2 : w < 2 ^ 55 := by
    rcases Nat.lt_or_ge w (2 ^ 55) with h | h
    · exact h
    · exfalso
      have h2 : 2 ^ 55 * 2 ^ 55 ≤ w * w := Nat.mul_le_mul h h
      rw [← Nat.pow_add] at h2
      omega
  have hb : (w * w != M <<< more).toNat ≤ 1 := by cases (w * w != M <<< more) <;> simp
  refine ⟨_, _, hq2.symm, ?_, ?_, ?_, ?_, fun h => ?_⟩ <;> omega
theorem root_rung {a q : Nat} (ha : a < 18446744073709551616) (sa : someB a = true) (hs : sgn a = false) (hq : FloatKind.f64.format.sqrt a = some q) :
    finB q = true ∧ rung q ≠ 0 ∧ sgn q = false ∧ (553942754166571008 ≤ rung a → twP ≤ up (rung q) + up (rung q)) := by
  obtain ⟨M, p, e1, M1, M2, p1, p2, p3⟩ := root_told ha sa hs hq
  obtain ⟨k, e, hk, c⟩ := near_anyD false p 0 (m := M) (by omega) (by omega)
  rw [e] at e1
  have hr := word_rung false (show k < 9223372036854775808 by omega)
  rw [← e1] at hr
  obtain ⟨hrk, hsk⟩ := hr
  obtain ⟨P, hP⟩ : ∃ P : Nat, (p + 1074 + ((0 : Nat) : Int)).toNat = P := ⟨_, rfl⟩
  rw [hP] at c
  have k0 : 0 < k := (c 0 (by omega)).2 (by
    left
    rw [show val 0 + val (0 + 1) = 1 by decide]
    have : M * 1 ≤ M * 2 ^ P := Nat.mul_le_mul_left _ (Nat.two_pow_pos P)
    omega)
  have kf : k ≤ 7210263003420164096 := by
    rcases Nat.lt_or_ge 7210263003420164096 k with h | h
    · exfalso
      have h1 := (c 7210263003420164096 (by omega)).1 h
      have h2 : M * 2 ^ P ≤ 2 ^ 57 * 2 ^ P := Nat.mul_le_mul_right _ (by omega)
      have h3 : (2 : Nat) ^ 57 * 2 ^ P ≤ 2 ^ (52 + topG) := by
        rw [← Nat.pow_add]
        exact Nat.pow_le_pow_right (by omega) (by unfold topG; omega)
      rw [Nat.pow_add] at h3
      have hv : val 7210263003420164096 ≤ val (7210263003420164096 + 1) := Nat.le_of_lt (val_step _)
      unfold aboveD at h1
      rw [Nat.pow_zero, Nat.mul_one] at h1
      have ef := far_root
      generalize val 7210263003420164096 = V at *
      generalize val (7210263003420164096 + 1) = V' at *
      generalize (2 : Nat) ^ topG = T at *
      generalize M * 2 ^ P = X at *
      generalize (2 : Nat) ^ 57 * 2 ^ P = Y at *
      have e52 : (2 : Nat) ^ 52 = 4503599627370496 := by decide
      rw [e52] at h3
      rcases h1 with g | ⟨g, _⟩ <;> omega
    · exact h
  have fq : finB q = true := by unfold finB; rw [hrk]; exact decide_eq_true (by omega)
  refine ⟨fq, by omega, hsk, fun h => ?_⟩
  rw [hrk]
  have m1 : mg (rung a) ≠ 0 := by
    unfold mg; split <;> omega
  have hla : 174 ≤ (mg (rung a)).log2 + up (rung a) := by
    have hva : 2 ^ 174 ≤ val (rung a) := by
      rw [← show val 553942754166571008 = 2 ^ 174 by decide]
      rcases Nat.lt_or_ge 553942754166571008 (rung a) with h | h
      · exact Nat.le_of_lt (val_lt h)
      · rw [show rung a = 553942754166571008 by omega]; exact Nat.le_refl _
    rw [← mg_up] at hva
    have h1 := Nat.lt_log2_self (n := mg (rung a))
    have h2 := Nat.mul_lt_mul_of_pos_right h1 (Nat.two_pow_pos (up (rung a)))
    rw [← Nat.pow_add] at h2
    have h3 := Nat.lt_of_le_of_lt hva h2
    have h4 := (Nat.pow_lt_pow_iff_right (by omega : 1 < 2)).1 h3
    omega
  have p4 := p3 hla
  have k1 : 2422936599525326848 ≤ k := by
    rcases Nat.lt_or_ge 2422936599525326847 k with h | h
    · omega
    · exfalso
      refine absurd ((c 2422936599525326847 (by omega)).2 ?_) (by omega)
      left
      have h2 : 2 ^ 55 * 2 ^ P ≤ M * 2 ^ P := Nat.mul_le_mul_right _ (by omega)
      have h3 : (2 : Nat) ^ (53 + lowG) ≤ 2 ^ 55 * 2 ^ P := by
        rw [← Nat.pow_add]
        exact Nat.pow_le_pow_right (by omega) (by unfold lowG; omega)
      rw [Nat.pow_add] at h3
      have hv : val 2422936599525326847 < val (2422936599525326847 + 1) := val_step _
      have ef := low_root
      rw [Nat.pow_zero, Nat.mul_one, show (2422936599525326847 : Nat) + 1 = 2422936599525326848 from rfl]
      rw [show (2422936599525326847 : Nat) + 1 = 2422936599525326848 from rfl] at hv
      have hz : 0 < (2 : Nat) ^ lowG := Nat.two_pow_pos _
      generalize val 2422936599525326847 = V at *
      generalize val 2422936599525326848 = V' at *
      generalize (2 : Nat) ^ lowG = T at *
      generalize M * 2 ^ P = X at *
      generalize (2 : Nat) ^ 55 * 2 ^ P = Y at *
      have e53 : (2 : Nat) ^ 53 = 9007199254740992 := by decide
      rw [e53] at h3
      omega
  have : 537 ≤ up k := by unfold up; split <;> omega
  unfold twP
  omega
/-- The root's nearest float, and on which side of it the exact one lies. -/
def tQ (a : Nat) : Nat := (FloatKind.f64.format.sqrt a).getD 0
def tS (a : Nat) : Int := sgI (exX (negW (tQ a)) (tQ a) a)
theorem root_some {a : Nat} (ha : a < 18446744073709551616) (sa : someB a = true) (hs : sgn a = false) : FloatKind.f64.format.sqrt a = some (tQ a) := by
  obtain ⟨q, hq⟩ := (root_neg ha sa).2 hs
  unfold tQ; rw [hq]; rfl
end Go.Proofs.YtflbglbhmdpmoaaGreatDoor

namespace Go.Proofs.YtflbglbhmdpmoaaGreatDoor
open Go.RowKit

theorem zero_le {a : Nat} (ha : a < 18446744073709551616) (fa : finB a = true) : (FloatKind.f64.format.order a 0 == some .lt || FloatKind.f64.format.order a 0 == some .eq) = (sgn a || rung a == 0) := by
  have hr := fin_rung fa
  rw [zero_lt ha, zero_eq ha]
  unfold nanB place
  rw [decide_eq_false (by omega)]
  cases sgn a <;> simp <;> omega
end Go.Proofs.YtflbglbhmdpmoaaGreatDoor
