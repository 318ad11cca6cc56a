/- The document's Rounded and Round. -/
import Derived.Test.YtnclddfljghebaaDoorRv3
import Derived.Test.YtnclddfljghebaaDoorRv0
import Derived.Test.YtnclddfljghebaaDoorYr
namespace Go.Proofs.YtnclddfljghebaaDoor
open Go.RowKit

theorem lo_pow_len {N s a b : Nat} (h : (lo N).length ≤ a) (hs : s ≤ 64 * b) : (lo (N * 2 ^ s)).length ≤ a + b := by
  rw [lo_length] at h ⊢
  refine nl_le ?_
  have h1 := nl_fits N
  have h2 : N * 2 ^ s < 2 ^ (64 * nl N) * 2 ^ s := Nat.mul_lt_mul_of_pos_right h1 (Nat.two_pow_pos s)
  rw [← Nat.pow_add] at h2
  exact Nat.lt_of_lt_of_le h2 (Nat.pow_le_pow_right (by omega) (by omega))
set_option maxRecDepth 100000 in
set_option maxHeartbeats 4000000 in
theorem rounded7_any (n : Bool) (N D : Nat) (m : Int) (ao bo : Option Addr) (cap bcap : Nat) (w : World) (h1 : NS w ao cap (lo N)) (h2 : NS w bo bcap (lo D)) (R : RqB n N D) :
    Calls Tryd.prog 22 #[.agg #[.bool n, .slice ao (lo N).length cap, .slice bo (lo D).length bcap], .int .i8 m] w fun e w' => e = .returned (.float .f64 (if N = 0 then 0 else rnR n N D m)) ∧ Below w.heap.size w w' := by
  have AB := B3q.new w (.bool n) (.slice ao (lo N).length cap) (.slice bo (lo D).length bcap) 52
  have hb0 : Below w.heap.size w (w.alloc (.cells #[.bool n, .slice ao (lo N).length cap, .slice bo (lo D).length bcap] 52)) := (Below.refl _ _).alloc (Nat.le_refl _) _
  have A1 := h1.below hb0
  have A2 := h2.below hb0
  have lN : (lo N).length ≤ 256 := by rw [lo_length]; exact R.n
  have lD : (lo D).length ≤ 256 := by rw [lo_length]; exact R.d
  have cs := fun W (h : NS W ao cap (lo N)) => fsign_any n N ao bo cap (lo D).length bcap W h (by omega)
  have cbN := fun W (h : NS W ao cap (lo N)) => natBits_any (lo N) ao cap W h (lo_lm N) (by omega)
  have cbD := fun W (h : NS W bo bcap (lo D)) => natBits_any (lo D) bo bcap W h (lo_lm D) (by omega)
  simp only [vl_lo] at cbN cbD
  by_cases h0 : N = 0
  · rw [if_pos h0]
    have es : sgR n N = 0 := by unfold sgR; rw [if_pos h0]
    rw [es] at cs
    clear es h0 R cbN cbD lN lD
    go_enter Tryd.func22, Tryd.ntmps22
    go_upto_region 1 with fail
    generalize w.alloc (.cells #[.bool n, .slice ao (lo N).length cap, .slice bo (lo D).length bcap] 52) = W0 at *
    obtain ⟨x0, x1, x2, _, _, _, _, _⟩ := id AB
    go_wp2_with (go_at_call 46; refine (cs _ A1).mono ?_; rintro e w1 ⟨rfl, b1⟩)
    go_ret
    exact ⟨rfl, hb0.trans (b1.mono hb0.size)⟩
  · rw [if_neg h0]
    have es : (sgR n N == 0) = false := by
      unfold sgR
      rw [if_neg h0]
      cases n <;> rfl
    generalize sgR n N = sg at *
    have hbN := (bl_spec h0).2.2
    have hbD := (bl_spec R.d0).2.2
    have hbN2 : bl N ≤ 16384 := by have := R.n; unfold nl at this; omega
    have hbD2 : bl D ≤ 16384 := by have := R.d; unfold nl at this; omega
    obtain ⟨u, hu⟩ : ∃ u : Int, u = 80 + (bl D : Int) - (bl N : Int) := ⟨_, rfl⟩
    have hu1 : 64 + (bl D : Int) - (bl N : Int) ≤ u := by omega
    have hu2 : u ≤ 65535 := by omega
    have hbig := qz_big h0 R.d0 hu1
    have hz0 : nzR u N D ≠ 0 := by
      have : nzR u N D = 2 * (qzA u N / qzB u D) + if qzA u N % qzB u D = 0 then 0 else 1 := rfl
      omega
    have hD0 : qzB u D ≠ 0 := Nat.mul_ne_zero R.d0 (Nat.ne_of_gt (Nat.two_pow_pos _))
    have lA : (lo (qzA u N)).length ≤ 256 + 300 := lo_pow_len lN (by omega)
    have lB : (lo (qzB u D)).length ≤ 256 + 300 := lo_pow_len lD (by omega)
    have hZl : nzR u N D < 2 ^ 100 := by
      have a : bl (qzA u N) = bl N + (max u 0).toNat := bl_mul_pow h0
      have b : bl (qzB u D) = bl D + (max (-u) 0).toNat := bl_mul_pow R.d0
      have d := (bl_spec (v := qzA u N) (Nat.mul_ne_zero h0 (Nat.ne_of_gt (Nat.two_pow_pos _)))).2.1
      have e := (bl_spec hD0).1
      have hq : qzA u N / qzB u D < 2 ^ 90 := by
        rw [Nat.div_lt_iff_lt_mul (Nat.pos_of_ne_zero hD0)]
        refine Nat.lt_of_lt_of_le d (Nat.le_trans ?_ (Nat.mul_le_mul_left _ e))
        rw [← Nat.pow_add]
        exact Nat.pow_le_pow_right (by omega) (by omega)
      have hs : nzR u N D = 2 * (qzA u N / qzB u D) + if qzA u N % qzB u D = 0 then 0 else 1 := rfl
      have k : (2 : Nat) ^ 100 = 1024 * 2 ^ 90 := by decide
      rw [k]
      generalize (2 : Nat) ^ 90 = p at *
      split at hs <;> omega
    have lZ : (lo (nzR u N D)).length ≤ 256 := by
      rw [lo_length]
      exact Nat.le_trans (nl_le (v := nzR u N D) (n := 2) (Nat.lt_of_lt_of_le hZl (Nat.pow_le_pow_right (by omega) (by omega)))) (by omega)
    have cR := fun W po pc (h : NS W po pc (lo (nzR u N D))) => rounded_all ⟨n, lo (nzR u N D), -u - 1⟩ (lo_lm _) lZ (by simp only; omega) (by simp only; omega) m po pc W h (by simp only; rw [vl_lo]; exact hz0)
    simp only [vl_lo] at cR
    have cF : ∀ W po pc, NS W po pc (lo (nzR u N D)) → Calls Tryd.prog 51 #[.agg #[.bool n, .slice po (lo (nzR u N D)).length pc, .int .i64 (-u - 1)], .int .i8 m] W fun e w' => e = .returned (.float .f64 (rnR n N D m)) ∧ Below W.heap.size W w' := by
      intro W po pc h
      obtain ⟨U, t, h1, h2, h3⟩ := cR W po pc h
      rw [rn_like R h0 hu1 hu2 h1 h2 m] at h3
      exact h3
    clear cR
    have cD := fun W po pc qo qc (a : NS W po pc (lo (qzA u N))) (b : NS W qo qc (lo (qzB u D))) => natDiv_any (lo (qzA u N)) (lo (qzB u D)) po qo pc qc W a b (lo_lm _) (lo_lm _) (by omega) (by omega) (by rw [vl_lo]; exact hD0)
    simp only [vl_lo] at cD
    have hZ : nzR u N D = 2 * (qzA u N / qzB u D) + if qzA u N % qzB u D = 0 then 0 else 1 := rfl
    have hqA : qzA u N = N * 2 ^ (max u 0).toNat := rfl
    have hqB : qzB u D = D * 2 ^ (max (-u) 0).toNat := rfl
    have lQ : (lo (qzA u N / qzB u D)).length ≤ 1000 := Nat.le_trans (lo_mono (Nat.div_le_self _ _)) (by omega)
    have lR' : (lo (qzA u N % qzB u D)).length ≤ 1000 := Nat.le_trans (lo_mono (Nat.mod_le _ _)) (by omega)
    have cU1 := fun W po pc (a : NS W po pc (lo (qzA u N / qzB u D))) => natUp_any (lo (qzA u N / qzB u D)) po pc 1 W a (lo_lm _) (by omega) (by omega)
    have cBr := fun W po pc (a : NS W po pc (lo (qzA u N % qzB u D))) => natBits_any (lo (qzA u N % qzB u D)) po pc W a (lo_lm _) (by omega)
    simp only [vl_lo, Nat.pow_one] at cU1 cBr
    have lQ2 : (lo (qzA u N / qzB u D * 2)).length ≤ 1000 + 1 := by
      have := lo_pow_len (N := qzA u N / qzB u D) (s := 1) (b := 1) lQ (by omega)
      rw [Nat.pow_one] at this
      exact this
    have cA1 := fun W po pc oo oc (a : NS W po pc (lo (qzA u N / qzB u D * 2))) (b : NS W oo oc (lo 1)) => natAdd_any (lo (qzA u N / qzB u D * 2)) (lo 1) po oo pc oc W a b (lo_lm _) (lo_lm 1) (by omega) (by rw [lo1]; simp)
    simp only [vl_lo] at cA1
    have co := fun W => one7_any W
    have cUN := fun W (h : NS W ao cap (lo N)) => natUp_any (lo N) ao cap (max u 0).toNat W h (lo_lm N) (by omega) (by omega)
    have cUD := fun W (h : NS W bo bcap (lo D)) => natUp_any (lo D) bo bcap (max (-u) 0).toNat W h (lo_lm D) (by omega) (by omega)
    simp only [vl_lo] at cUN cUD
    rw [← hqA] at cUN
    rw [← hqB] at cUD
    have hrest : Hid (qzA u N % qzB u D = 0 → nzR u N D = qzA u N / qzB u D * 2) := (show _ → _ from fun h => by rw [hZ, if_pos h]; omega)
    have hrest2 : Hid (qzA u N % qzB u D ≠ 0 → nzR u N D = qzA u N / qzB u D * 2 + 1) := (show _ → _ from fun h => by rw [hZ, if_neg h]; omega)
    have hpos : Hid (0 ≤ u → qzB u D = D) := (show _ → _ from fun h => by rw [hqB, show (max (-u) 0).toNat = 0 by omega, Nat.pow_zero, Nat.mul_one])
    have hneg : Hid (u < 0 → qzA u N = N) := (show _ → _ from fun h => by rw [hqA, show (max u 0).toNat = 0 by omega, Nat.pow_zero, Nat.mul_one])
    have hblr : (bl (qzA u N % qzB u D) = 0 ∧ qzA u N % qzB u D = 0) ∨ (0 < bl (qzA u N % qzB u D) ∧ qzA u N % qzB u D ≠ 0) := by
      by_cases c : qzA u N % qzB u D = 0
      · exact Or.inl ⟨by rw [c]; kernel_rfl, c⟩
      · have := (bl_spec c).2.2
        exact Or.inr ⟨by omega, c⟩
    have i1 : IntKind.i64.wrap (80 + (bl D : Int)) = 80 + (bl D : Int) := by rw [IntKind.wrap_i64]; omega
    have i2 : IntKind.i64.wrap (80 + (bl D : Int) - (bl N : Int)) = u := by rw [IntKind.wrap_i64]; omega
    have i3 : IntKind.i64.wrap (-u) = -u := by rw [IntKind.wrap_i64]; omega
    have i4 : IntKind.i64.wrap (-u - 1) = -u - 1 := by rw [IntKind.wrap_i64]; omega
    clear hZ hqA hqB hbig hZl hz0 hD0 lZ lQ lR' lA lB R hu1 hu2 lN lD h0 lQ2
    generalize qzA u N = A at *
    generalize qzB u D = B at *
    generalize nzR u N D = S at *
    obtain ⟨Q, hQ⟩ : ∃ Q, A / B = Q := ⟨_, rfl⟩
    obtain ⟨V, hV⟩ : ∃ V, A % B = V := ⟨_, rfl⟩
    rw [hQ, hV] at cD
    rw [hQ] at cU1 cA1
    rw [hQ, hV] at hrest hrest2
    rw [hV] at cBr hblr
    clear hQ hV
    obtain ⟨f, hf⟩ : ∃ f, rnR n N D m = f := ⟨_, rfl⟩
    rw [hf] at cF ⊢
    clear hf
    obtain ⟨bN, hbn⟩ : ∃ b, bl N = b := ⟨_, rfl⟩
    obtain ⟨bD, hbd⟩ : ∃ b, bl D = b := ⟨_, rfl⟩
    rw [hbn] at cbN i2 hbN hbN2 hu
    rw [hbd] at cbD i1 i2 hbD hbD2 hu
    clear hbn hbd hu hbN hbD hbN2 hbD2
    go_enter Tryd.func22, Tryd.ntmps22
    go_upto_region 1 with fail
    generalize w.alloc (.cells #[.bool n, .slice ao (lo N).length cap, .slice bo (lo D).length bcap] 52) = W0 at *
    obtain ⟨x0, x1, x2, _, _, _, _, _⟩ := id AB
    go_upto_region 3 with (go_at_call 46; refine (cs _ A1).mono ?_; rintro e w1 ⟨rfl, b1⟩)
    have hb1 := hb0.trans (b1.mono hb0.size)
    have AB1 := AB.below b1
    have A11 := A1.below b1
    have A21 := A2.below b1
    obtain ⟨y0, y1, y2, _, _, _, _, _⟩ := id AB1
    clear x0 x1 x2 AB A1 A2 hb0 b1 h1 h2 cs
    go_quiet (fail)
    have q3 := quietB (w := w1) nq
    have hb3 := hb1.trans (q3.mono hb1.size)
    have AB3 := AB1.below q3
    have A13 := A11.below q3
    have A23 := A21.below q3
    clear y0 y1 y2 AB1 A11 A21 hb1 q3
    generalize w1.drewN nq = W3 at *
    obtain ⟨y0, y1, y2, _, _, _, _, _⟩ := id AB3
    go_upto_region 5 with (first
      | (go_at_call_of 47 (Value.slice bo (lo D).length bcap); refine (cbD _ A23).mono ?_; rintro e w4 ⟨rfl, b4⟩; have hb4 := hb3.trans (b4.mono hb3.size); have A14 := A13.below b4; have A24 := A23.below b4; have AB4 := AB3.below b4)
      | (go_at_call_of 47 (Value.slice ao (lo N).length cap); refine (cbN _ A14).mono ?_; rintro e w5 ⟨rfl, b5⟩; have hb5 := hb4.trans (b5.mono hb4.size); have A15 := A14.below b5; have A25 := A24.below b5; have AB5 := AB4.below b5))
    clear A13 A23 A14 A24 AB3 AB4 hb3 hb4 b4 b5 y0 y1 y2 cbN cbD i1 i2
    have cD' := fun W po pc qo qc (a : NS W po pc (lo A)) (b : NS W qo qc (lo B)) => cD W po pc qo qc a b
    rcases hblr with ⟨v1, v2⟩ | ⟨v1, v2⟩
    · have hS := hrest.out v2
      subst hS
      rw [v1] at cBr
      clear hrest hrest2 v1 v2 cA1
      by_cases hu0 : 0 ≤ u
      · have k : ((max u 0).toNat : Int) = u := by omega
        rw [k] at cUN
        have hB := hpos.out hu0
        subst hB
        clear hpos hneg cUD k
        go_wp2_with (first
          | (go_at_call_of 48 (Value.slice ao (lo N).length cap); refine (cUN _ A15).mono ?_; rintro e w6 ⟨po, pc, rfl, k6, _, b6⟩; have hb6 := hb5.trans (b6.mono hb5.size); have AB6 := AB5.below b6; have p6 := k6; have q6 := A25.below b6)
          | (go_at_call 49; refine (cD' _ _ _ _ _ p6 q6).mono ?_; rintro e w7 ⟨ro, rc, so, sc, rfl, k7, m7, b7⟩; have hb7 := hb6.trans (b7.mono hb6.size); have AB7 := AB6.below b7)
          | (go_at_call_of 48 (Value.slice ro (lo Q).length rc); refine (cU1 _ _ _ k7).mono ?_; rintro e w8 ⟨uo, uc, rfl, k8, _, b8⟩; have hb8 := hb7.trans (b8.mono hb7.size); have AB8 := AB7.below b8; have m8 := m7.below b8)
          | (go_at_call 47; refine (cBr _ _ _ m8).mono ?_; rintro e w9 ⟨rfl, b9⟩; have hb9 := hb8.trans (b9.mono hb8.size); have AB9 := AB8.below b9; have k9 := k8.below b9; obtain ⟨z0, z1, z2, _, _, _, _, _⟩ := id AB9)
          | (go_at_call 44; refine (co _).mono ?_; rintro e w10 ⟨oo, oc, rfl, o10, _, b10⟩; have hb10 := hb9.trans (b10.mono hb9.size); have AB10 := AB9.below b10; have k10 := k9.below b10)
          | (go_at_call 50; refine (cA1 _ _ _ _ _ k10 o10).mono ?_; rintro e w11 ⟨xo, xc, rfl, k11, _, b11⟩; have hb11 := hb10.trans (b11.mono hb10.size); have AB11 := AB10.below b11; obtain ⟨t0, t1, t2, _, _, _, _, _⟩ := id AB11)
          | (go_at_call 51; refine (cF _ _ _ k11).mono ?_; rintro e w12 ⟨rfl, b12⟩; have hb12 := hb11.trans (b12.mono hb11.size))
          | (go_at_call 51; refine (cF _ _ _ k9).mono ?_; rintro e w12 ⟨rfl, b12⟩; have hb12 := hb9.trans (b12.mono hb9.size)))
        go_ret
        exact ⟨rfl, hb12⟩
      · have k : ((max (-u) 0).toNat : Int) = -u := by omega
        rw [k] at cUD
        have hA := hneg.out (by omega)
        subst hA
        clear hpos hneg cUN k
        go_wp2_with (first
          | (go_at_call_of 48 (Value.slice bo (lo D).length bcap); refine (cUD _ A25).mono ?_; rintro e w6 ⟨po, pc, rfl, k6, _, b6⟩; have hb6 := hb5.trans (b6.mono hb5.size); have AB6 := AB5.below b6; have p6 := A15.below b6; have q6 := k6)
          | (go_at_call 49; refine (cD' _ _ _ _ _ p6 q6).mono ?_; rintro e w7 ⟨ro, rc, so, sc, rfl, k7, m7, b7⟩; have hb7 := hb6.trans (b7.mono hb6.size); have AB7 := AB6.below b7)
          | (go_at_call_of 48 (Value.slice ro (lo Q).length rc); refine (cU1 _ _ _ k7).mono ?_; rintro e w8 ⟨uo, uc, rfl, k8, _, b8⟩; have hb8 := hb7.trans (b8.mono hb7.size); have AB8 := AB7.below b8; have m8 := m7.below b8)
          | (go_at_call 47; refine (cBr _ _ _ m8).mono ?_; rintro e w9 ⟨rfl, b9⟩; have hb9 := hb8.trans (b9.mono hb8.size); have AB9 := AB8.below b9; have k9 := k8.below b9; obtain ⟨z0, z1, z2, _, _, _, _, _⟩ := id AB9)
          | (go_at_call 44; refine (co _).mono ?_; rintro e w10 ⟨oo, oc, rfl, o10, _, b10⟩; have hb10 := hb9.trans (b10.mono hb9.size); have AB10 := AB9.below b10; have k10 := k9.below b10)
          | (go_at_call 50; refine (cA1 _ _ _ _ _ k10 o10).mono ?_; rintro e w11 ⟨xo, xc, rfl, k11, _, b11⟩; have hb11 := hb10.trans (b11.mono hb10.size); have AB11 := AB10.below b11; obtain ⟨t0, t1, t2, _, _, _, _, _⟩ := id AB11)
          | (go_at_call 51; refine (cF _ _ _ k11).mono ?_; rintro e w12 ⟨rfl, b12⟩; have hb12 := hb11.trans (b12.mono hb11.size))
          | (go_at_call 51; refine (cF _ _ _ k9).mono ?_; rintro e w12 ⟨rfl, b12⟩; have hb12 := hb9.trans (b12.mono hb9.size)))
        go_ret
        exact ⟨rfl, hb12⟩
    · have hS := hrest2.out v2
      subst hS
      have v1' : (0 : Int) < ((bl V : Nat) : Int) := by omega
      clear hrest hrest2 v1 v2
      by_cases hu0 : 0 ≤ u
      · have k : ((max u 0).toNat : Int) = u := by omega
        rw [k] at cUN
        have hB := hpos.out hu0
        subst hB
        clear hpos hneg cUD k
        go_wp2_with (first
          | (go_at_call_of 48 (Value.slice ao (lo N).length cap); refine (cUN _ A15).mono ?_; rintro e w6 ⟨po, pc, rfl, k6, _, b6⟩; have hb6 := hb5.trans (b6.mono hb5.size); have AB6 := AB5.below b6; have p6 := k6; have q6 := A25.below b6)
          | (go_at_call 49; refine (cD' _ _ _ _ _ p6 q6).mono ?_; rintro e w7 ⟨ro, rc, so, sc, rfl, k7, m7, b7⟩; have hb7 := hb6.trans (b7.mono hb6.size); have AB7 := AB6.below b7)
          | (go_at_call_of 48 (Value.slice ro (lo Q).length rc); refine (cU1 _ _ _ k7).mono ?_; rintro e w8 ⟨uo, uc, rfl, k8, _, b8⟩; have hb8 := hb7.trans (b8.mono hb7.size); have AB8 := AB7.below b8; have m8 := m7.below b8)
          | (go_at_call 47; refine (cBr _ _ _ m8).mono ?_; rintro e w9 ⟨rfl, b9⟩; have hb9 := hb8.trans (b9.mono hb8.size); have AB9 := AB8.below b9; have k9 := k8.below b9; obtain ⟨z0, z1, z2, _, _, _, _, _⟩ := id AB9)
          | (go_at_call 44; refine (co _).mono ?_; rintro e w10 ⟨oo, oc, rfl, o10, _, b10⟩; have hb10 := hb9.trans (b10.mono hb9.size); have AB10 := AB9.below b10; have k10 := k9.below b10)
          | (go_at_call 50; refine (cA1 _ _ _ _ _ k10 o10).mono ?_; rintro e w11 ⟨xo, xc, rfl, k11, _, b11⟩; have hb11 := hb10.trans (b11.mono hb10.size); have AB11 := AB10.below b11; obtain ⟨t0, t1, t2, _, _, _, _, _⟩ := id AB11)
          | (go_at_call 51; refine (cF _ _ _ k11).mono ?_; rintro e w12 ⟨rfl, b12⟩; have hb12 := hb11.trans (b12.mono hb11.size))
          | (go_at_call 51; refine (cF _ _ _ k9).mono ?_; rintro e w12 ⟨rfl, b12⟩; have hb12 := hb9.trans (b12.mono hb9.size)))
        go_ret
        exact ⟨rfl, hb12⟩
      · have k : ((max (-u) 0).toNat : Int) = -u := by omega
        rw [k] at cUD
        have hA := hneg.out (by omega)
        subst hA
        clear hpos hneg cUN k
        go_wp2_with (first
          | (go_at_call_of 48 (Value.slice bo (lo D).length bcap); refine (cUD _ A25).mono ?_; rintro e w6 ⟨po, pc, rfl, k6, _, b6⟩; have hb6 := hb5.trans (b6.mono hb5.size); have AB6 := AB5.below b6; have p6 := A15.below b6; have q6 := k6)
          | (go_at_call 49; refine (cD' _ _ _ _ _ p6 q6).mono ?_; rintro e w7 ⟨ro, rc, so, sc, rfl, k7, m7, b7⟩; have hb7 := hb6.trans (b7.mono hb6.size); have AB7 := AB6.below b7)
          | (go_at_call_of 48 (Value.slice ro (lo Q).length rc); refine (cU1 _ _ _ k7).mono ?_; rintro e w8 ⟨uo, uc, rfl, k8, _, b8⟩; have hb8 := hb7.trans (b8.mono hb7.size); have AB8 := AB7.below b8; have m8 := m7.below b8)
          | (go_at_call 47; refine (cBr _ _ _ m8).mono ?_; rintro e w9 ⟨rfl, b9⟩; have hb9 := hb8.trans (b9.mono hb8.size); have AB9 := AB8.below b9; have k9 := k8.below b9; obtain ⟨z0, z1, z2, _, _, _, _, _⟩ := id AB9)
          | (go_at_call 44; refine (co _).mono ?_; rintro e w10 ⟨oo, oc, rfl, o10, _, b10⟩; have hb10 := hb9.trans (b10.mono hb9.size); have AB10 := AB9.below b10; have k10 := k9.below b10)
          | (go_at_call 50; refine (cA1 _ _ _ _ _ k10 o10).mono ?_; rintro e w11 ⟨xo, xc, rfl, k11, _, b11⟩; have hb11 := hb10.trans (b11.mono hb10.size); have AB11 := AB10.below b11; obtain ⟨t0, t1, t2, _, _, _, _, _⟩ := id AB11)
          | (go_at_call 51; refine (cF _ _ _ k11).mono ?_; rintro e w12 ⟨rfl, b12⟩; have hb12 := hb11.trans (b12.mono hb11.size))
          | (go_at_call 51; refine (cF _ _ _ k9).mono ?_; rintro e w12 ⟨rfl, b12⟩; have hb12 := hb9.trans (b12.mono hb9.size)))
        go_ret
        exact ⟨rfl, hb12⟩
end Go.Proofs.YtnclddfljghebaaDoor
