/- RatioSides: Nextafter, below, above, exact. -/
import Derived.Test.YtmcnnnmlacpppaaDoorRs6
import Derived.Test.YtmcnnnmlacpppaaDoorQ7
namespace Go.Proofs.YtmcnnnmlacpppaaDoor
open Go.RowKit

theorem bthq {W1 W2 W3 : World} (h1 : Below W1.heap.size W1 W2) (h2 : Below W2.heap.size W2 W3) : Below W1.heap.size W1 W3 := h1.trans (h2.mono h1.size)
theorem bal7q (W : World) (o : Obj) : Below W.heap.size W (W.alloc o) := (Below.refl _ _).alloc (Nat.le_refl _) o
set_option maxRecDepth 100000 in
set_option maxHeartbeats 1000000 in
theorem below_any (x : Nat) (hx : x < 18446744073709551616) (n : Bool) (N D : Nat) (R : RqB n N D) (hB : BelT x n N D) (ao bo : Option Addr) (ac bc : Nat) (w : World) (h1 : LS w ao ac (lo N)) (h2 : LS w bo bc (lo D)) (hT : TabW w) :
    Calls Tryd.prog 28 #[.float .f64 x, .agg #[.bool n, .slice ao (nl N) ac, .slice bo (nl D) bc]] w fun e w' => e = .returned (.bool true) ∧ Below w.heap.size w w' := by
  have AB := B3q.new w (.bool n) (.slice ao (nl N) ac) (.slice bo (nl D) bc) 25
  have hb0 : Below w.heap.size w (w.alloc (.cells #[.bool n, .slice ao (nl N) ac, .slice bo (nl D) bc] 25)) := (Below.refl _ _).alloc (Nat.le_refl _) _
  have A1 := h1.below hb0
  have B1 := h2.below hb0
  have T1 := tabW_below hT hb0
  have c1 := rof_any x hx _ T1
  cases hf : finB x
  · have e : ofR x = (none, 5) := by
      have e : ofD x = (dy0, 5) := by unfold ofD; rw [if_pos hf]
      unfold ofR
      rw [e]
      rfl
    rw [e] at c1
    unfold GaveR at c1
    simp only at c1
    have ho := hB.2 hf
    go_enter Tryd.func28, Tryd.ntmps28
    go_upto_region 1 with fail
    generalize w.alloc (.cells #[.bool n, .slice ao (nl N) ac, .slice bo (nl D) bc] 25) = W0 at *
    go_wp2_with (go_at_call 7; refine c1.mono ?_; rintro e w1 ⟨rfl, b1⟩)
    go_ret
    exact ⟨rfl, (hb0.trans (b1.mono hb0.size)).alloc (Nat.le_trans hb0.size b1.size) _⟩
  · obtain ⟨sa, Na, Da, hQ⟩ := of_about hf
    rw [hQ.of] at c1
    unfold GaveR at c1
    simp only at c1
    have hc := hB.1 hf sa Na Da hQ
    have cC := fun ao1 bo1 ac1 bc1 W a1 b1 a2 b2 hW => rcmp_any sa n Na Da N D ao1 bo1 ao bo ac1 bc1 ac bc W a1 b1 a2 b2 hW hQ.R R
    generalize cmR sa n Na Da N D = c at *
    go_enter Tryd.func28, Tryd.ntmps28
    go_upto_region 1 with fail
    generalize w.alloc (.cells #[.bool n, .slice ao (nl N) ac, .slice bo (nl D) bc] 25) = W0 at *
    go_upto_region 2 with (go_at_call 7; refine c1.mono ?_; rintro e w1 ⟨ao1, ac1, bo1, bc1, rfl, p1, q1, b1⟩)
    have x2 := bal7q w1 (.cells #[.bool sa, .slice ao1 (nl Na) ac1, .slice bo1 (nl Da) bc1] 25)
    have b2 := bthq b1 x2
    have FB := B3q.new w1 (.bool sa) (.slice ao1 (nl Na) ac1) (.slice bo1 (nl Da) bc1) 25
    replace AB := AB.below b2
    have A2 := A1.below b2
    have B2 := B1.below b2
    have P2 := p1.below x2
    have Q2 := q1.below x2
    have hb2 := hb0.trans (b2.mono hb0.size)
    generalize w1.alloc (.cells #[.bool sa, .slice ao1 (nl Na) ac1, .slice bo1 (nl Da) bc1] 25) = W2 at *
    obtain ⟨y0, y1, y2, _, _, _, _, _⟩ := id AB
    obtain ⟨z0, z1, z2, _, _, _, _, _⟩ := id FB
    go_wp2_with (go_at_call 27; refine (cC _ _ _ _ _ P2 Q2 A2 B2 (tabW_below hT hb2)).mono ?_; rintro e w3 ⟨rfl, b3⟩)
    go_ret
    exact ⟨rfl, hb2.trans (b3.mono hb2.size)⟩
set_option maxRecDepth 100000 in
set_option maxHeartbeats 1000000 in
theorem above_any (x : Nat) (hx : x < 18446744073709551616) (n : Bool) (N D : Nat) (R : RqB n N D) (hB : AbvT x n N D) (ao bo : Option Addr) (ac bc : Nat) (w : World) (h1 : LS w ao ac (lo N)) (h2 : LS w bo bc (lo D)) (hT : TabW w) :
    Calls Tryd.prog 29 #[.float .f64 x, .agg #[.bool n, .slice ao (nl N) ac, .slice bo (nl D) bc]] w fun e w' => e = .returned (.bool true) ∧ Below w.heap.size w w' := by
  have AB := B3q.new w (.bool n) (.slice ao (nl N) ac) (.slice bo (nl D) bc) 25
  have hb0 : Below w.heap.size w (w.alloc (.cells #[.bool n, .slice ao (nl N) ac, .slice bo (nl D) bc] 25)) := (Below.refl _ _).alloc (Nat.le_refl _) _
  have A1 := h1.below hb0
  have B1 := h2.below hb0
  have T1 := tabW_below hT hb0
  have c1 := rof_any x hx _ T1
  cases hf : finB x
  · have e : ofR x = (none, 5) := by
      have e : ofD x = (dy0, 5) := by unfold ofD; rw [if_pos hf]
      unfold ofR
      rw [e]
      rfl
    rw [e] at c1
    unfold GaveR at c1
    simp only at c1
    have ho := hB.2 hf
    go_enter Tryd.func29, Tryd.ntmps29
    go_upto_region 1 with fail
    generalize w.alloc (.cells #[.bool n, .slice ao (nl N) ac, .slice bo (nl D) bc] 25) = W0 at *
    go_wp2_with (go_at_call 7; refine c1.mono ?_; rintro e w1 ⟨rfl, b1⟩)
    go_ret
    exact ⟨rfl, (hb0.trans (b1.mono hb0.size)).alloc (Nat.le_trans hb0.size b1.size) _⟩
  · obtain ⟨sa, Na, Da, hQ⟩ := of_about hf
    rw [hQ.of] at c1
    unfold GaveR at c1
    simp only at c1
    have hc := hB.1 hf sa Na Da hQ
    have cC := fun ao1 bo1 ac1 bc1 W a1 b1 a2 b2 hW => rcmp_any sa n Na Da N D ao1 bo1 ao bo ac1 bc1 ac bc W a1 b1 a2 b2 hW hQ.R R
    generalize cmR sa n Na Da N D = c at *
    go_enter Tryd.func29, Tryd.ntmps29
    go_upto_region 1 with fail
    generalize w.alloc (.cells #[.bool n, .slice ao (nl N) ac, .slice bo (nl D) bc] 25) = W0 at *
    go_upto_region 2 with (go_at_call 7; refine c1.mono ?_; rintro e w1 ⟨ao1, ac1, bo1, bc1, rfl, p1, q1, b1⟩)
    have x2 := bal7q w1 (.cells #[.bool sa, .slice ao1 (nl Na) ac1, .slice bo1 (nl Da) bc1] 25)
    have b2 := bthq b1 x2
    have FB := B3q.new w1 (.bool sa) (.slice ao1 (nl Na) ac1) (.slice bo1 (nl Da) bc1) 25
    replace AB := AB.below b2
    have A2 := A1.below b2
    have B2 := B1.below b2
    have P2 := p1.below x2
    have Q2 := q1.below x2
    have hb2 := hb0.trans (b2.mono hb0.size)
    generalize w1.alloc (.cells #[.bool sa, .slice ao1 (nl Na) ac1, .slice bo1 (nl Da) bc1] 25) = W2 at *
    obtain ⟨y0, y1, y2, _, _, _, _, _⟩ := id AB
    obtain ⟨z0, z1, z2, _, _, _, _, _⟩ := id FB
    go_wp2_with (go_at_call 27; refine (cC _ _ _ _ _ P2 Q2 A2 B2 (tabW_below hT hb2)).mono ?_; rintro e w3 ⟨rfl, b3⟩)
    go_ret
    exact ⟨rfl, hb2.trans (b3.mono hb2.size)⟩
set_option maxRecDepth 100000 in
set_option maxHeartbeats 1000000 in
theorem exact_any (x : Nat) (hx : x < 18446744073709551616) (n : Bool) (N D : Nat) (R : RqB n N D) (hB : BelT x n N D) (hA : AbvT x n N D) (ao bo : Option Addr) (ac bc : Nat) (w : World) (h1 : LS w ao ac (lo N)) (h2 : LS w bo bc (lo D)) (hT : TabW w) :
    Calls Tryd.prog 32 #[.float .f64 x, .agg #[.bool n, .slice ao (nl N) ac, .slice bo (nl D) bc]] w fun e w' => e = .returned (.bool true) ∧ Below w.heap.size w w' := by
  have AB := B3q.new w (.bool n) (.slice ao (nl N) ac) (.slice bo (nl D) bc) 25
  have hb0 : Below w.heap.size w (w.alloc (.cells #[.bool n, .slice ao (nl N) ac, .slice bo (nl D) bc] 25)) := (Below.refl _ _).alloc (Nat.le_refl _) _
  have c1 := below_any x hx n N D R hB ao bo ac bc _ (h1.below hb0) (h2.below hb0) (tabW_below hT hb0)
  have c2 := fun w' (h : Below w.heap.size w w') => above_any x hx n N D R hA ao bo ac bc w' (h1.below h) (h2.below h) (tabW_below hT h)
  go_enter Tryd.func32, Tryd.ntmps32
  go_upto_region 1 with fail
  generalize w.alloc (.cells #[.bool n, .slice ao (nl N) ac, .slice bo (nl D) bc] 25) = W0 at *
  obtain ⟨y0, y1, y2, _, _, _, _, _⟩ := id AB
  go_wp2_with (first
    | (go_at_call 29; refine (c2 _ b1).mono ?_; rintro e w2 ⟨rfl, d2⟩; have b2 := bthq b1 d2)
    | (go_at_call 28; refine c1.mono ?_; rintro e w1 ⟨rfl, d1⟩; have b1 := bthq hb0 d1; obtain ⟨z0, z1, z2, _, _, _, _, _⟩ := AB.below d1))
  go_ret
  exact ⟨rfl, b2⟩
set_option maxHeartbeats 400000 in
theorem cpy_one (w : World) : Calls Tryd.prog 9 #[.float .f64 1, .float .f64 9218868437227405312] w fun e w' => e = .returned (.float .f64 1) ∧ w' = w := by
  have ff := run_ffrom
  have f1 := run_fbits 1
  have f2 := run_fbits 9218868437227405312
  go_enter Tryd.func9, Tryd.ntmps9
  go_wp2
  go_ret
  exact ⟨end_flt (by kernel_rfl), rfl⟩
set_option maxRecDepth 100000 in
set_option maxHeartbeats 1000000 in
theorem nextaft_any (n : Bool) (k : Nat) (hk : k ≤ 9218868437227405312) (hp : n = false → k < 9218868437227405312) (hm : n = true → 0 < k) (w : World) :
    Calls Tryd.prog 30 #[.float .f64 (wd n k), .float .f64 9218868437227405312] w fun e w' => e = .returned (.float .f64 (wd n (if n then k - 1 else k + 1))) ∧ w' = w := by
  obtain ⟨w1, w2, w3, w4, w5, w6⟩ := wd_rung (n := n) hk
  have ff := run_ffrom
  have fb := run_fbits (wd n k)
  have h1 := fun W => isnan_any (wd n k) w3 W
  have h2 := fun W => isnan_any 9218868437227405312 (by omega) W
  rw [w4] at h1
  rw [show nanB 9218868437227405312 = false by decide] at h2
  have pI : place 9218868437227405312 = 9218868437227405312 := by decide
  have p0 : place 0 = 0 := by decide
  have nI : nanB 9218868437227405312 = false := by decide
  have n0 : nanB 0 = false := by decide
  have hlt : place (wd n k) < place 9218868437227405312 := by
    rw [w6, pI]
    cases n
    · have := hp rfl; simp; omega
    · simp; omega
  have o1 : (FloatKind.f64.format.order (wd n k) 9218868437227405312 == some .eq) = false := by rw [ord_lt w3 (by omega) w4 nI hlt]; rfl
  have o3 : (FloatKind.f64.format.order 9218868437227405312 (wd n k) == some .gt) = true := by rw [ord_gt (by omega) w3 nI w4 hlt]; rfl
  cases n
  · by_cases h0 : k = 0
    · subst h0
      have e0 : wd false 0 = 0 := rfl
      have e1 : wd false 1 = 1 := rfl
      simp only [e0, e1, Bool.false_eq_true, if_false, Nat.zero_add] at *
      have o2 : (FloatKind.f64.format.order 0 0 == some .eq) = true := by kernel_rfl
      go_enter Tryd.func30, Tryd.ntmps30
      go_wp2_with (first
        | (go_at_call_of 57 (Value.float FloatKind.f64 0); refine (h1 _).mono ?_; rintro e w' ⟨rfl, hww⟩; subst w')
        | (go_at_call_of 57 (Value.float FloatKind.f64 9218868437227405312); refine (h2 _).mono ?_; rintro e w' ⟨rfl, hww⟩; subst w')
        | (go_at_call 9; refine (cpy_one _).mono ?_; rintro e w' ⟨rfl, hww⟩; subst w'))
      go_ret
      exact ⟨rfl, rfl⟩
    · have e0 : wd false k = k := rfl
      have e1 : wd false (k + 1) = k + 1 := rfl
      simp only [e0, e1, Bool.false_eq_true, if_false] at *
      have hkk := hp trivial
      have hg : place 0 < place k := by rw [w6, p0]; omega
      have o2 : (FloatKind.f64.format.order k 0 == some .eq) = false := by rw [ord_gt w3 (by omega) w4 n0 hg]; rfl
      have o4 : (FloatKind.f64.format.order k 0 == some .gt) = true := by rw [ord_gt w3 (by omega) w4 n0 hg]; rfl
      have hw : IntKind.u64.wrap ((k : Int) + 1) = ((k + 1 : Nat) : Int) := by rw [wrapU_id (by omega) (by omega)]; rfl
      go_enter Tryd.func30, Tryd.ntmps30
      go_wp2_with (first
        | (go_at_call_of 57 (Value.float FloatKind.f64 k); refine (h1 _).mono ?_; rintro e w' ⟨rfl, hww⟩; subst w')
        | (go_at_call_of 57 (Value.float FloatKind.f64 9218868437227405312); refine (h2 _).mono ?_; rintro e w' ⟨rfl, hww⟩; subst w'))
      go_ret
      exact ⟨end_flt (by omega), rfl⟩
  · have e1 : wd true (k - 1) = wd true k - 1 := by unfold wd; simp only [if_true]; have := hm rfl; omega
    have hkk := hm rfl
    have hx1 : 1 ≤ wd true k := by unfold wd; simp only [if_true]; omega
    simp only [e1, if_true]
    have hg : place (wd true k) < place 0 := by rw [w6, p0]; simp only [if_true]; omega
    have o2 : (FloatKind.f64.format.order (wd true k) 0 == some .eq) = false := by rw [ord_lt w3 (by omega) w4 n0 hg]; rfl
    have o4 : (FloatKind.f64.format.order (wd true k) 0 == some .gt) = false := by rw [ord_lt w3 (by omega) w4 n0 hg]; rfl
    generalize wd true k = x at *
    have hw : IntKind.u64.wrap ((x : Int) - 1) = ((x - 1 : Nat) : Int) := by rw [wrapU_id (by omega) (by omega)]; omega
    go_enter Tryd.func30, Tryd.ntmps30
    go_wp2_with (first
      | (go_at_call_of 57 (Value.float FloatKind.f64 x); refine (h1 _).mono ?_; rintro e w' ⟨rfl, hww⟩; subst w')
      | (go_at_call_of 57 (Value.float FloatKind.f64 9218868437227405312); refine (h2 _).mono ?_; rintro e w' ⟨rfl, hww⟩; subst w'))
    go_ret
    exact ⟨end_flt (by omega), rfl⟩
end Go.Proofs.YtmcnnnmlacpppaaDoor
