/- The document's Round; Round of what is not right; great: RatioRounds. -/
import Derived.Test.YtnclddfljghebaaDoorRv4
import Derived.Test.YtnclddfljghebaaDoorRv5
import Derived.Test.YtnclddfljghebaaDoorQ6
namespace Go.Proofs.YtnclddfljghebaaDoor
open Go.RowKit

theorem rn_zero (D : Nat) (m : Int) : rnR false 0 D m = 0 := by
  have e1 : nrR 0 D = 0 := by
    unfold nrR quA
    rw [Nat.zero_mul, Nat.zero_div, Nat.zero_mod]
    rfl
  unfold rnR
  rw [e1]
  rfl
theorem rn_told {n : Bool} {N D : Nat} (R : RqB n N D) (m : Int) : (if N = 0 then 0 else rnR n N D m) = rnR n N D m := by
  by_cases h : N = 0
  · have hn := R.z h
    subst hn
    subst h
    rw [if_pos rfl, rn_zero]
  · rw [if_neg h]
theorem rn_lt {n : Bool} {N D : Nat} (R : RqB n N D) (m : Int) : rnR n N D m < 18446744073709551616 := by
  by_cases h : N = 0
  · have hn := R.z h
    subst hn
    subst h
    rw [rn_zero]
    omega
  · obtain ⟨s, r3, r2, r0, hA, hr⟩ := rn_about R h
    rw [hr m]
    have hb : r3 ≤ s + 1 ∧ r2 ≤ s + 1 ∧ r0 ≤ s + 1 := by
      rcases hA.2 with ⟨_, a, b, c⟩ | ⟨_, _, a, b, c, _⟩ <;> omega
    have hs := hA.1
    unfold wd
    (repeat' split) <;> omega
theorem rt_right {neg : Bool} {xs ys : List Nat} (hL : Lm xs) (hM : Lm ys) (h : rtB neg xs ys = true) : xs = lo (vl xs) ∧ ys = lo (vl ys) ∧ RqB neg (vl xs) (vl ys) := by
  obtain ⟨c1, c2⟩ := rt_cases neg xs ys hL hM
  have a0 : ¬ 256 < xs.length := fun k => by rw [c1 (Or.inl k)] at h; cases h
  have a1 : ¬ 256 < ys.length := fun k => by rw [c1 (Or.inr (Or.inl k))] at h; cases h
  have a2 : ¬ (lo (vl xs)).length ≠ xs.length := fun k => by rw [c1 (Or.inr (Or.inr (Or.inl k)))] at h; cases h
  have a3 : ¬ (lo (vl ys)).length ≠ ys.length := fun k => by rw [c1 (Or.inr (Or.inr (Or.inr (Or.inl k))))] at h; cases h
  have a4 : ¬ ys.length = 0 := fun k => by rw [c1 (Or.inr (Or.inr (Or.inr (Or.inr k))))] at h; cases h
  obtain ⟨d0, d1, d2⟩ := c2 a0 a1 a2 a3 a4
  have T : ∀ {zs : List Nat}, Lm zs → (lo (vl zs)).length = zs.length → zs = lo (vl zs) := by
    intro zs hz e
    have := loW_take hz
    rw [← lo_length, e, List.take_of_length_le (Nat.le_refl _)] at this
    exact this.symm
  refine ⟨T hL (by omega), T hM (by omega), d0, ?_, ?_, ?_, ?_⟩
  · by_cases hx : xs.length = 0
    · have e := (d1 hx).symm.trans h
      have hx0 : vl xs = 0 := by rw [List.eq_nil_of_length_eq_zero hx]; rfl
      rw [hx0, Nat.gcd_zero_left]
      simp at e
      exact e.2
    · have e := (d2 hx).symm.trans h
      simpa using e
  · rw [← lo_length]; omega
  · rw [← lo_length]; omega
  · intro hx0
    have hx : xs.length = 0 := by
      rcases Nat.eq_zero_or_pos xs.length with k | k
      · exact k
      · have : (lo (vl xs)).length = 0 := by rw [hx0]; rfl
        omega
    have e := (d1 hx).symm.trans h
    simp at e
    exact e.1
set_option maxHeartbeats 400000 in
theorem rroundw_any (n : Bool) (xs ys : List Nat) (ao bo : Option Addr) (ac bc : Nat) (m : Int) (w : World) (h1 : LRow w ao xs) (h2 : LRow w bo ys) (hL : Lm xs) (hM : Lm ys) (hT : TabW w) (hn : rtB n xs ys = false) :
    Calls Tryd.prog 6 #[.agg #[.bool n, .slice ao xs.length ac, .slice bo ys.length bc], .int .i8 m] w fun e w' => e = .returned (.tuple #[.float .f64 0, .int .i64 2]) ∧ Below w.heap.size w w' := by
  have AB := B3q.new w (.bool n) (.slice ao xs.length ac) (.slice bo ys.length bc) 24
  have hb0 : Below w.heap.size w (w.alloc (.cells #[.bool n, .slice ao xs.length ac, .slice bo ys.length bc] 24)) := (Below.refl _ _).alloc (Nat.le_refl _) _
  have r1 := rright_any n xs ys ao bo ac bc _ (h1.below hb0) (h2.below hb0) hL hM (tabW_below hT hb0)
  rw [hn] at r1
  go_enter Tryd.func6, Tryd.ntmps6
  go_upto_region 1 with fail
  generalize w.alloc (.cells #[.bool n, .slice ao xs.length ac, .slice bo ys.length bc] 24) = W0 at *
  obtain ⟨x0, x1, x2, _, _, _, _, xlt⟩ := id AB
  go_wp2_with (go_at_call 15; refine r1.mono ?_; rintro e w3 ⟨rfl, b3⟩)
  exact bodyPost_ret (v := .tuple #[.float .f64 0, .int .i64 2]) (by simp [results, Tryd.results6, go_sem]) rfl ⟨rfl, hb0.trans (b3.mono hb0.size)⟩
set_option maxRecDepth 100000 in
set_option maxHeartbeats 1000000 in
theorem round7_any (n : Bool) (xs ys : List Nat) (ao bo : Option Addr) (ac bc : Nat) (m : Int) (w : World) (h1 : NS w ao ac xs) (h2 : NS w bo bc ys) (hL : Lm xs) (hM : Lm ys) (n1 : xs.length ≤ 1099511627776) (n2 : ys.length ≤ 1099511627776) :
    Calls Tryd.prog 7 #[.agg #[.bool n, .slice ao xs.length ac, .slice bo ys.length bc], .int .i8 m] w fun e w' => e = .returned (.tuple #[.float .f64 (if rtB n xs ys then rnR n (vl xs) (vl ys) m else 0), .int .i64 (if rtB n xs ys then 0 else 2)]) ∧ Below w.heap.size w w' := by
  have AB := B3q.new w (.bool n) (.slice ao xs.length ac) (.slice bo ys.length bc) 24
  have hb0 : Below w.heap.size w (w.alloc (.cells #[.bool n, .slice ao xs.length ac, .slice bo ys.length bc] 24)) := (Below.refl _ _).alloc (Nat.le_refl _) _
  have A1 := h1.below hb0
  have A2 := h2.below hb0
  have r1 := dright7_any n xs ys ao bo ac bc _ A1 A2 hL hM n1 n2
  have rv := fun W (a : NS W ao ac xs) (b : NS W bo bc ys) => value7_any n xs ys ao bo ac bc W a b hL hM n1 n2
  cases hR : rtB n xs ys
  · rw [hR] at r1
    simp only [Bool.false_eq_true, if_false]
    clear hR rv
    go_enter Tryd.func7, Tryd.ntmps7
    go_upto_region 1 with fail
    generalize w.alloc (.cells #[.bool n, .slice ao xs.length ac, .slice bo ys.length bc] 24) = W0 at *
    obtain ⟨x0, x1, x2, _, _, _, _, xlt⟩ := id AB
    go_wp2_with (go_at_call 21; refine r1.mono ?_; rintro e w3 ⟨rfl, b3⟩)
    exact bodyPost_ret (v := .tuple #[.float .f64 0, .int .i64 2]) (by simp [results, Tryd.results7, go_sem]) rfl ⟨rfl, hb0.trans (b3.mono hb0.size)⟩
  · rw [hR] at r1
    rw [if_pos rfl, if_pos rfl]
    have RQ := (rt_right hL hM hR).2.2
    have rd : ∀ W po pc qo qc, NS W po pc (lo (vl xs)) → NS W qo qc (lo (vl ys)) → Calls Tryd.prog 22 #[.agg #[.bool n, .slice po (lo (vl xs)).length pc, .slice qo (lo (vl ys)).length qc], .int .i8 m] W fun e w' => e = .returned (.float .f64 (rnR n (vl xs) (vl ys) m)) ∧ Below W.heap.size W w' := fun W po pc qo qc a b => by
      have := rounded7_any n (vl xs) (vl ys) m po qo pc qc W a b RQ
      rw [rn_told RQ m] at this
      exact this
    clear hR RQ
    obtain ⟨f, hf⟩ : ∃ f, rnR n (vl xs) (vl ys) m = f := ⟨_, rfl⟩
    rw [hf] at rd ⊢
    clear hf
    go_enter Tryd.func7, Tryd.ntmps7
    go_upto_region 1 with fail
    generalize w.alloc (.cells #[.bool n, .slice ao xs.length ac, .slice bo ys.length bc] 24) = W0 at *
    obtain ⟨x0, x1, x2, _, _, _, _, xlt⟩ := id AB
    go_wp2_with (first
      | (go_at_call 21; refine r1.mono ?_; rintro e w3 ⟨rfl, b3⟩; have hb3 := hb0.trans (b3.mono hb0.size); obtain ⟨y0, y1, y2, _, _, _, _, _⟩ := AB.below b3; have A13 := A1.below b3; have A23 := A2.below b3)
      | (go_at_call 23; refine (rv _ A13 A23).mono ?_; rintro e w4 ⟨po, pc, qo, qc, rfl, k1, k2, b4⟩; have hb4 := hb3.trans (b4.mono hb3.size))
      | (go_at_call 22; refine (rd _ _ _ _ _ k1 k2).mono ?_; rintro e w5 ⟨rfl, b5⟩))
    exact bodyPost_ret (v := .tuple #[.float .f64 f, .int .i64 0]) (by simp [results, Tryd.results7, go_sem]) rfl ⟨rfl, hb4.trans (b5.mono hb4.size)⟩
/-- Has a ratio more limbs than are looked at? -/
theorem great7_any (n : Bool) (xs ys : List Nat) (ao bo : Option Addr) (ac bc : Nat) (w : World) :
    Calls Tryd.prog 4 #[.agg #[.bool n, .slice ao xs.length ac, .slice bo ys.length bc]] w fun e w' => e = .returned (.bool (decide (300 < xs.length) || decide (300 < ys.length))) ∧ Below w.heap.size w w' := by
  have hb0 : Below w.heap.size w (w.alloc (.cells #[.bool n, .slice ao xs.length ac, .slice bo ys.length bc] 24)) := (Below.refl _ _).alloc (Nat.le_refl _) _
  obtain ⟨x, hx⟩ : ∃ x, xs.length = x := ⟨_, rfl⟩
  obtain ⟨y, hy⟩ : ∃ y, ys.length = y := ⟨_, rfl⟩
  rw [hx, hy] at hb0 ⊢
  by_cases c1 : 300 < x
  · have i1 : (300 : Int) < (x : Int) := by omega
    rw [decide_eq_true c1, Bool.true_or]
    go_enter Tryd.func4, Tryd.ntmps4
    go_wp2
    go_ret
    exact ⟨rfl, hb0⟩
  · have i1 : ¬ (300 : Int) < (x : Int) := by omega
    rw [decide_eq_false c1, Bool.false_or]
    by_cases c2 : 300 < y
    · have i2 : (300 : Int) < (y : Int) := by omega
      rw [decide_eq_true c2]
      go_enter Tryd.func4, Tryd.ntmps4
      go_wp2
      go_ret
      exact ⟨rfl, hb0⟩
    · have i2 : ¬ (300 : Int) < (y : Int) := by omega
      rw [decide_eq_false c2]
      go_enter Tryd.func4, Tryd.ntmps4
      go_wp2
      go_ret
      exact ⟨rfl, hb0⟩
theorem same_self {a : Nat} : sameB a a = true := by unfold sameB; cases nanB a <;> simp
set_option maxRecDepth 100000 in
set_option maxHeartbeats 4000000 in
theorem rounds7_law (n : Bool) (xs ys : List Nat) (ao bo : Option Addr) (ac bc : Nat) (m z : Int) (w : World) (h1 : LS w ao ac xs) (h2 : LS w bo bc ys) (hL : Lm xs) (hM : Lm ys) (z1 : -9223372036854775808 ≤ z) (z2 : z ≤ 9223372036854775807) (hT : TabW w) :
    Calls Tryd.prog 3 #[.agg #[.bool n, .slice ao xs.length ac, .slice bo ys.length bc], .int .i8 m, .int .i64 z] w fun e w' => e = .returned (.bool true) ∧ Below w.heap.size w w' := by
  have AB := B3q.new w (.bool n) (.slice ao xs.length ac) (.slice bo ys.length bc) 24
  have hb0 : Below w.heap.size w (w.alloc (.cells #[.bool n, .slice ao xs.length ac, .slice bo ys.length bc] 24)) := (Below.refl _ _).alloc (Nat.le_refl _) _
  have T0 := tabW_below hT hb0
  have A1 := h1.below hb0
  have A2 := h2.below hb0
  have cg := fun W => great7_any n xs ys ao bo ac bc W
  have caw := fun W hW => rawake_any W hW
  by_cases hg : 300 < xs.length ∨ 300 < ys.length
  · have e : (decide (300 < xs.length) || decide (300 < ys.length)) = true := by simpa using hg
    rw [e] at cg
    clear e hg
    go_enter Tryd.func3, Tryd.ntmps3
    go_upto_region 1 with fail
    generalize w.alloc (.cells #[.bool n, .slice ao xs.length ac, .slice bo ys.length bc] 24) = W0 at *
    obtain ⟨x0, x1, x2, _, _, _, _, xlt⟩ := id AB
    go_wp2_with (first
      | (go_at_call 4; refine (cg _).mono ?_; rintro e w1 ⟨rfl, b1⟩)
      | (go_at_call 5; refine (caw _ (tabW_below T0 b1)).mono ?_; rintro e w2 ⟨rfl, b2⟩))
    go_ret
    exact ⟨rfl, hb0.trans ((b1.trans (b2.mono b1.size)).mono hb0.size)⟩
  · have e : (decide (300 < xs.length) || decide (300 < ys.length)) = false := by
      rw [Bool.or_eq_false_iff, decide_eq_false_iff_not, decide_eq_false_iff_not]
      omega
    rw [e] at cg
    have l1 : xs.length ≤ 300 := by omega
    have l2 : ys.length ≤ 300 := by omega
    clear e hg
    have cd := fun W (a : LS W ao ac xs) (b : LS W bo bc ys) => round7_any n xs ys ao bo ac bc m W (ls_ns a) (ls_ns b) hL hM (by omega) (by omega)
    obtain ⟨f, er, hf, hd, hp⟩ : ∃ (f : Nat) (er : Int), f < 18446744073709551616 ∧ (∀ W, LS W ao ac xs → LS W bo bc ys → Calls Tryd.prog 7 #[.agg #[.bool n, .slice ao xs.length ac, .slice bo ys.length bc], .int .i8 m] W fun e w' => e = .returned (.tuple #[.float .f64 f, .int .i64 er]) ∧ Below W.heap.size W w') ∧ (∀ W, LS W ao ac xs → LS W bo bc ys → TabW W → Calls Tryd.prog 6 #[.agg #[.bool n, .slice ao xs.length ac, .slice bo ys.length bc], .int .i8 m] W fun e w' => e = .returned (.tuple #[.float .f64 f, .int .i64 er]) ∧ Below W.heap.size W w') := by
      cases hR : rtB n xs ys
      · rw [hR] at cd
        simp only [Bool.false_eq_true, if_false] at cd
        exact ⟨0, 2, by omega, cd, fun W a b hW => rroundw_any n xs ys ao bo ac bc m W a.1 b.1 hL hM hW hR⟩
      · rw [hR] at cd
        simp only [if_true] at cd
        obtain ⟨ex, ey, RQ⟩ := rt_right hL hM hR
        refine ⟨rnR n (vl xs) (vl ys) m, 0, rn_lt RQ m, cd, fun W a b hW => ?_⟩
        have := rround_any n (vl xs) (vl ys) ao bo ac bc m W (ex ▸ a) (ey ▸ b) hW RQ
        rw [← lo_length, ← lo_length, ← ex, ← ey] at this
        exact this
    clear cd
    have csf := fun W => samef_any f f hf hf W
    rw [same_self] at csf
    have ci := fun W => rint_any z z1 (by omega) W
    have cj := fun W => int7_any z z1 (by omega) W
    have hzl : nl z.natAbs ≤ 256 := Nat.le_trans (nl_le (v := z.natAbs) (n := 1) (by omega)) (by omega)
    have csr := fun W ao1 bo1 ao2 bo2 ac1 bc1 ac2 bc2 a1 b1 a2 b2 => sameR_any (decide (z < 0)) (decide (z < 0)) z.natAbs 1 z.natAbs 1 ao1 bo1 ao2 bo2 ac1 bc1 ac2 bc2 W a1 b1 a2 b2 hzl (by decide)
    have esm : smB (decide (z < 0)) (decide (z < 0)) z.natAbs 1 z.natAbs 1 = true := by unfold smB; simp
    rw [esm] at csr
    unfold GaveI at ci cj
    clear esm hzl hf
    generalize decide (z < 0) = s at *
    generalize z.natAbs = Z at *
    generalize nl 1 = n1 at *
    generalize nl Z = nZ at *
    generalize lo 1 = L1 at *
    generalize lo Z = LZ at *
    have i0 : (er == er) = true := beq_self_eq_true er
    go_enter Tryd.func3, Tryd.ntmps3
    go_upto_region 1 with fail
    generalize w.alloc (.cells #[.bool n, .slice ao xs.length ac, .slice bo ys.length bc] 24) = W0 at *
    obtain ⟨x0, x1, x2, _, _, _, _, xlt⟩ := id AB
    go_upto_region 5 with (first
      | (go_at_call 4; refine (cg _).mono ?_; rintro e w1 ⟨rfl, b1⟩; have hb1 := hb0.trans (b1.mono hb0.size); obtain ⟨y0, y1, y2, _, _, _, _, _⟩ := AB.below b1; have A11 := A1.below b1; have A21 := A2.below b1; have T1 := tabW_below T0 b1; have AB1 := AB.below b1)
      | (go_at_call 6; refine (hp _ A11 A21 T1).mono ?_; rintro e w2 ⟨rfl, b2⟩; have hb2 := hb1.trans (b2.mono hb1.size); obtain ⟨z0, z1, z2, _, _, _, _, _⟩ := AB1.below b2; have A12 := A11.below b2; have A22 := A21.below b2; have T2 := tabW_below T1 b2)
      | (go_at_call 7; refine (hd _ A12 A22).mono ?_; rintro e w3 ⟨rfl, b3⟩; have hb3 := hb2.trans (b3.mono hb2.size); have T3 := tabW_below T2 b3))
    clear hp hd cg AB A1 A2 A11 A21 A12 A22 x0 x1 x2 y0 y1 y2 z0 z1 z2 AB1 h1 h2 hT T0 T1 T2 hb0 hb1 hb2 b1 b2 b3
    go_wp2_with (first
      | (go_at_call 8; refine (csf _).mono ?_; rintro e w4 ⟨rfl, hww⟩; subst hww)
      | (go_at_call 10; refine (ci _).mono ?_; rintro e w5 ⟨ao5, ac5, bo5, bc5, rfl, k5, m5, b5⟩; have hb5 := hb3.trans (b5.mono hb3.size); have T5 := tabW_below T3 b5)
      | (go_at_call 11; refine (cj _).mono ?_; rintro e w6 ⟨ao6, ac6, bo6, bc6, rfl, k6, m6, b6⟩; have hb6 := hb5.trans (b6.mono hb5.size); have T6 := tabW_below T5 b6; have k56 := k5.below b6; have m56 := m5.below b6)
      | (go_at_call 9; refine (csr _ _ _ _ _ _ _ _ _ k56.1 m56.1 k6.1 m6.1).mono ?_; rintro e w7 ⟨rfl, b7⟩; have hb7 := hb6.trans (b7.mono hb6.size); have T7 := tabW_below T6 b7)
      | (go_at_call 5; refine (caw _ T7).mono ?_; rintro e w8 ⟨rfl, b8⟩; have hb8 := hb7.trans (b8.mono hb7.size)))
    go_ret
    exact ⟨rfl, hb8⟩
end Go.Proofs.YtnclddfljghebaaDoor
