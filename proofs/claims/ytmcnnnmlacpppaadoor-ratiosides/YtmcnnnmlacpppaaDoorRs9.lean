/- RatioSides: nearer. -/
import Derived.Test.YtmcnnnmlacpppaaDoorRs8
namespace Go.Proofs.YtmcnnnmlacpppaaDoor
open Go.RowKit

theorem of_inf {x : Nat} (hf : finB x = false) : ofR x = (none, 5) := by
  have e : ofD x = (dy0, 5) := by unfold ofD; rw [if_pos hf]
  unfold ofR
  rw [e]
  rfl
set_option maxRecDepth 100000 in
set_option maxHeartbeats 4000000 in
theorem nearer_any (n : Bool) (N D kd ku kn kz : Nat) (R : RqB n N D) (S : SdQ n N D kd ku kn kz) (ao bo : Option Addr) (ac bc : Nat) (w : World) (h1 : LS w ao ac (lo N)) (h2 : LS w bo bc (lo D)) (hT : TabW w) :
    Calls Tryd.prog 33 #[.float .f64 (wd n kn), .float .f64 (wd n kd), .float .f64 (wd n ku), .agg #[.bool n, .slice ao (nl N) ac, .slice bo (nl D) bc]] w fun e w' => e = .returned (.bool true) ∧ Below w.heap.size w w' := by
  have AB := B3q.new w (.bool n) (.slice ao (nl N) ac) (.slice bo (nl D) bc) 25
  have hb0 := bal7q w (.cells #[.bool n, .slice ao (nl N) ac, .slice bo (nl D) bc] 25)
  have A1 := h1.below hb0
  have B1 := h2.below hb0
  have hTb : ∀ {w'}, Below w.heap.size w w' → TabW w' := fun h => tabW_below hT h
  have o1 := wd_eq (n := n) S.ld S.lu
  have o2 := wd_eq (n := n) S.le S.ld
  by_cases hk : kd = ku
  · have hkn : kn = kd := by rcases S.near with q | q <;> omega
    rw [decide_eq_true hk] at o1
    rw [decide_eq_true hkn] at o2
    clear S hk hkn
    generalize wd n kn = xn at *
    generalize wd n kd = xd at *
    generalize wd n ku = xu at *
    go_enter Tryd.func33, Tryd.ntmps33
    go_upto_region 1 with fail
    generalize w.alloc (.cells #[.bool n, .slice ao (nl N) ac, .slice bo (nl D) bc] 25) = W0 at *
    go_wp2
    go_ret
    exact ⟨rfl, hb0⟩
  · rw [decide_eq_false hk] at o1
    have dl := (wd_rung (n := n) S.ld).2.2.1
    have ul := (wd_rung (n := n) S.lu).2.2.1
    have c1 := fun W hW => rof_any (wd n kd) dl W hW
    have c2 := fun W hW => rof_any (wd n ku) ul W hW
    cases hfd : finB (wd n kd)
    · rw [of_inf hfd] at c1
      obtain ⟨ou, eu, hou⟩ : ∃ a b, ofR (wd n ku) = (a, b) := ⟨_, _, rfl⟩
      rw [hou] at c2
      unfold GaveR at c1 c2
      simp only at c1 c2
      clear S
      generalize wd n kn = xn at *
      generalize wd n kd = xd at *
      generalize wd n ku = xu at *
      cases ou with
      | none =>
        simp only at c2
        go_enter Tryd.func33, Tryd.ntmps33
        go_upto_region 1 with fail
        generalize w.alloc (.cells #[.bool n, .slice ao (nl N) ac, .slice bo (nl D) bc] 25) = W0 at *
        go_upto_region 4 with (go_at_call 7; refine (c1 _ (hTb hb0)).mono ?_; rintro e w1 ⟨rfl, d1⟩)
        have b1 := bthq (bthq hb0 d1) (bal7q w1 (.cells #[.bool false, .slice none 0 0, .slice none 0 0] 25))
        generalize w1.alloc (.cells #[.bool false, .slice none 0 0, .slice none 0 0] 25) = W1 at *
        go_wp2_with (go_at_call 7; refine (c2 _ (hTb b1)).mono ?_; rintro e w2 ⟨rfl, d2⟩)
        go_ret
        exact ⟨rfl, bthq (bthq b1 d2) (bal7q _ _)⟩
      | some q =>
        obtain ⟨s2, N2, D2⟩ := q
        simp only at c2
        go_enter Tryd.func33, Tryd.ntmps33
        go_upto_region 1 with fail
        generalize w.alloc (.cells #[.bool n, .slice ao (nl N) ac, .slice bo (nl D) bc] 25) = W0 at *
        go_upto_region 4 with (go_at_call 7; refine (c1 _ (hTb hb0)).mono ?_; rintro e w1 ⟨rfl, d1⟩)
        have b1 := bthq (bthq hb0 d1) (bal7q w1 (.cells #[.bool false, .slice none 0 0, .slice none 0 0] 25))
        generalize w1.alloc (.cells #[.bool false, .slice none 0 0, .slice none 0 0] 25) = W1 at *
        go_wp2_with (go_at_call 7; refine (c2 _ (hTb b1)).mono ?_; rintro e w2 ⟨ao2, ac2, bo2, bc2, rfl, p2, q2, d2⟩)
        go_ret
        exact ⟨rfl, bthq (bthq b1 d2) (bal7q _ _)⟩
    · obtain ⟨s1, N1, D1, Q1⟩ := of_about hfd
      rw [Q1.of] at c1
      cases hfu : finB (wd n ku)
      · rw [of_inf hfu] at c2
        unfold GaveR at c1 c2
        simp only at c1 c2
        clear S Q1
        generalize wd n kn = xn at *
        generalize wd n kd = xd at *
        generalize wd n ku = xu at *
        go_enter Tryd.func33, Tryd.ntmps33
        go_upto_region 1 with fail
        generalize w.alloc (.cells #[.bool n, .slice ao (nl N) ac, .slice bo (nl D) bc] 25) = W0 at *
        go_upto_region 4 with (go_at_call 7; refine (c1 _ (hTb hb0)).mono ?_; rintro e w1 ⟨ao1, ac1, bo1, bc1, rfl, p1, q1, d1⟩)
        have b1 := bthq (bthq hb0 d1) (bal7q w1 (.cells #[.bool s1, .slice ao1 (nl N1) ac1, .slice bo1 (nl D1) bc1] 25))
        generalize w1.alloc (.cells #[.bool s1, .slice ao1 (nl N1) ac1, .slice bo1 (nl D1) bc1] 25) = W1 at *
        go_wp2_with (go_at_call 7; refine (c2 _ (hTb b1)).mono ?_; rintro e w2 ⟨rfl, d2⟩)
        go_ret
        exact ⟨rfl, bthq (bthq b1 d2) (bal7q _ _)⟩
      · obtain ⟨s2, N2, D2, Q2⟩ := of_about hfu
        rw [Q2.of] at c2
        have ld := S.ld
        have lu := S.lu
        have hfd' : kd < 9218868437227405312 := of_decide_eq_true ((wd_rung (n := n) S.ld).2.2.2.2.1 ▸ hfd)
        have hfu' : ku < 9218868437227405312 := of_decide_eq_true ((wd_rung (n := n) S.lu).2.2.2.2.1 ▸ hfu)
        obtain ⟨m1, m2⟩ := S.mid hk hfd' hfu'
        have hnr := S.near
        obtain ⟨k3, N3, D3, e3, h3⟩ := sum_some Q1 Q2
        have R3 := nmA_right h3
        have cA := fun ao1 bo1 ao2 bo2 ac1 bc1 ac2 bc2 W a1 b1 a2 b2 hW => raddr_any s1 s2 N1 D1 N2 D2 ao1 bo1 ao2 bo2 ac1 bc1 ac2 bc2 W a1 b1 a2 b2 hW Q1.R Q2.R
        have cB := fun W a1 b1 hW => raddr_any n n N D N D ao bo ao bo ac bc ac bc W a1 b1 a1 b1 hW R R
        rw [h3] at cA
        have hmc := fun k4 N4 D4 e4 (h4 : nmA (smQ n n (N * D) (N * D)).1 (smQ n n (N * D) (N * D)).2 (D * D) = (some (k4, N4, D4), e4)) => mid_cmp (er3 := e3) (er4 := e4) R ld lu Q1 Q2 h3 h4
        have herr : ∀ e4, nmA (smQ n n (N * D) (N * D)).1 (smQ n n (N * D) (N * D)).2 (D * D) = (none, e4) → e4 = 3 := fun e4 h => by
          unfold nmA at h
          rw [if_neg (Nat.mul_ne_zero R.d0 R.d0)] at h
          split at h
          · cases h
          · split at h
            · cases h
            · cases h; rfl
        have hR4 := fun k4 N4 D4 e4 (h4 : nmA (smQ n n (N * D) (N * D)).1 (smQ n n (N * D) (N * D)).2 (D * D) = (some (k4, N4, D4), e4)) => nmA_right h4
        obtain ⟨o4, e4, h4⟩ : ∃ a b, nmA (smQ n n (N * D) (N * D)).1 (smQ n n (N * D) (N * D)).2 (D * D) = (a, b) := ⟨_, _, rfl⟩
        rw [h4] at cB
        simp only [h4] at hmc herr hR4
        clear h4 h3 S Q1 Q2
        unfold GaveR at c1 c2 cA cB
        simp only at c1 c2 cA cB
        have hcd : (kn = kd) = (kn = kd) := rfl
        generalize hxn : wd n kn = xn at *
        generalize hxd : wd n kd = xd at *
        generalize hxu : wd n ku = xu at *
        clear hxn hxd hxu hcd
        go_enter Tryd.func33, Tryd.ntmps33
        go_upto_region 1 with fail
        generalize w.alloc (.cells #[.bool n, .slice ao (nl N) ac, .slice bo (nl D) bc] 25) = W0 at *
        go_upto_region 4 with (go_at_call 7; refine (c1 _ (hTb hb0)).mono ?_; rintro e w1 ⟨ao1, ac1, bo1, bc1, rfl, p1, q1, d1⟩)
        have x1 := bthq d1 (bal7q w1 (.cells #[.bool s1, .slice ao1 (nl N1) ac1, .slice bo1 (nl D1) bc1] 25))
        have X1 := B3q.new w1 (.bool s1) (.slice ao1 (nl N1) ac1) (.slice bo1 (nl D1) bc1) 25
        replace p1 := p1.made (.cells #[.bool s1, .slice ao1 (nl N1) ac1, .slice bo1 (nl D1) bc1] 25)
        replace q1 := q1.made (.cells #[.bool s1, .slice ao1 (nl N1) ac1, .slice bo1 (nl D1) bc1] 25)
        replace AB := AB.below x1
        replace A1 := A1.below x1
        replace B1 := B1.below x1
        have b1 := bthq hb0 x1
        generalize w1.alloc (.cells #[.bool s1, .slice ao1 (nl N1) ac1, .slice bo1 (nl D1) bc1] 25) = W1 at *
        generalize w1.heap.size = g1 at *
        clear x1 d1 c1
        go_upto_region 5 with (go_at_call 7; refine (c2 _ (hTb b1)).mono ?_; rintro e w2 ⟨ao2, ac2, bo2, bc2, rfl, p2, q2, d2⟩)
        have x2 := bthq d2 (bal7q w2 (.cells #[.bool s2, .slice ao2 (nl N2) ac2, .slice bo2 (nl D2) bc2] 25))
        have X2 := B3q.new w2 (.bool s2) (.slice ao2 (nl N2) ac2) (.slice bo2 (nl D2) bc2) 25
        replace p2 := p2.made (.cells #[.bool s2, .slice ao2 (nl N2) ac2, .slice bo2 (nl D2) bc2] 25)
        replace q2 := q2.made (.cells #[.bool s2, .slice ao2 (nl N2) ac2, .slice bo2 (nl D2) bc2] 25)
        replace AB := AB.below x2
        replace A1 := A1.below x2
        replace B1 := B1.below x2
        replace X1 := X1.below x2
        replace p1 := p1.below x2
        replace q1 := q1.below x2
        have b2 := bthq b1 x2
        generalize w2.alloc (.cells #[.bool s2, .slice ao2 (nl N2) ac2, .slice bo2 (nl D2) bc2] 25) = W2 at *
        generalize w2.heap.size = g2 at *
        clear x2 d2 c2 b1
        obtain ⟨y0, y1, y2, _, _, _, _, _⟩ := id X1
        obtain ⟨z0, z1, z2, _, _, _, _, _⟩ := id X2
        go_upto_region 8 with (go_at_call 12; refine (cA _ _ _ _ _ _ _ _ _ p1 q1 p2 q2 (hTb b2)).mono ?_; rintro e w3 ⟨ao3, ac3, bo3, bc3, rfl, p3, q3, d3⟩)
        have x3 := bthq d3 (bal7q w3 (.cells #[.bool k3, .slice ao3 (nl N3) ac3, .slice bo3 (nl D3) bc3] 25))
        have X3 := B3q.new w3 (.bool k3) (.slice ao3 (nl N3) ac3) (.slice bo3 (nl D3) bc3) 25
        replace p3 := p3.made (.cells #[.bool k3, .slice ao3 (nl N3) ac3, .slice bo3 (nl D3) bc3] 25)
        replace q3 := q3.made (.cells #[.bool k3, .slice ao3 (nl N3) ac3, .slice bo3 (nl D3) bc3] 25)
        replace AB := AB.below x3
        replace A1 := A1.below x3
        replace B1 := B1.below x3
        have b3 := bthq b2 x3
        generalize w3.alloc (.cells #[.bool k3, .slice ao3 (nl N3) ac3, .slice bo3 (nl D3) bc3] 25) = W3 at *
        generalize w3.heap.size = g3 at *
        clear x3 d3 cA b2 X1 X2 p1 q1 p2 q2 y0 y1 y2 z0 z1 z2
        obtain ⟨y0, y1, y2, _, _, _, _, _⟩ := id AB
        cases o4 with
        | none =>
          have he := herr e4 rfl
          subst he
          simp only at cB
          go_wp2_with (go_at_call 12; refine (cB _ A1 B1 (hTb b3)).mono ?_; rintro e w4 ⟨rfl, d4⟩)
          go_ret
          exact ⟨rfl, bthq (bthq b3 d4) (bal7q _ _)⟩
        | some q =>
          obtain ⟨k4, N4, D4⟩ := q
          simp only at cB
          have hc := hmc k4 N4 D4 e4 rfl
          have R4 := hR4 k4 N4 D4 e4 rfl
          have cC := fun ao1 bo1 ac1 bc1 W a1 b1 a2 b2 hW => rcmp_any k4 k3 N4 D4 N3 D3 ao1 bo1 ao3 bo3 ac1 bc1 ac3 bc3 W a1 b1 a2 b2 hW R4 R3
          generalize cmR k4 k3 N4 D4 N3 D3 = c at *
          have hcc : c = 0 ∨ (c ≠ 0 ∧ decide (c < 0) = decide (kn = kd)) := by
            generalize pz n (2 * (N * 2 ^ eU)) = T at *
            generalize pz n ((val kd + val ku) * D) = M at *
            unfold sgI at hc
            by_cases t0 : T - M = 0
            · left; rw [hc, if_neg (by omega), if_pos t0]
            · right
              by_cases t1 : T - M < 0
              · rw [if_pos t1] at hc
                have := m1 (by omega)
                subst hc this
                simp
              · rw [if_neg t1, if_neg t0] at hc
                have := m2 (by omega)
                subst hc this
                refine ⟨by decide, ?_⟩
                rw [decide_eq_false (by omega : ¬ (1 : Int) < 0), decide_eq_false (fun h => hk h.symm)]
          clear hc hmc hR4 herr m1 m2 hnr
          go_upto_region 9 with (go_at_call 12; refine (cB _ A1 B1 (hTb b3)).mono ?_; rintro e w4 ⟨ao4, ac4, bo4, bc4, rfl, p4, q4, d4⟩)
          have x4 := bthq d4 (bal7q w4 (.cells #[.bool k4, .slice ao4 (nl N4) ac4, .slice bo4 (nl D4) bc4] 25))
          have X4 := B3q.new w4 (.bool k4) (.slice ao4 (nl N4) ac4) (.slice bo4 (nl D4) bc4) 25
          replace p4 := p4.made (.cells #[.bool k4, .slice ao4 (nl N4) ac4, .slice bo4 (nl D4) bc4] 25)
          replace q4 := q4.made (.cells #[.bool k4, .slice ao4 (nl N4) ac4, .slice bo4 (nl D4) bc4] 25)
          replace X3 := X3.below x4
          replace p3 := p3.below x4
          replace q3 := q3.below x4
          have b4 := bthq b3 x4
          generalize w4.alloc (.cells #[.bool k4, .slice ao4 (nl N4) ac4, .slice bo4 (nl D4) bc4] 25) = W4 at *
          generalize w4.heap.size = g4 at *
          clear x4 d4 cB b3 AB A1 B1 y0 y1 y2
          obtain ⟨y0, y1, y2, _, _, _, _, _⟩ := id X3
          obtain ⟨z0, z1, z2, _, _, _, _, _⟩ := id X4
          rcases hcc with hz | ⟨hz, hd⟩
          · subst hz
            go_wp2_with (go_at_call 27; refine (cC _ _ _ _ _ p4 q4 p3 q3 (hTb b4)).mono ?_; rintro e w5 ⟨rfl, d5⟩)
            go_ret
            exact ⟨rfl, bthq b4 d5⟩
          · have hz' : (c == 0) = false := by rw [beq_eq_false_iff_ne]; exact hz
            rw [← hd] at o2
            clear hd
            by_cases hlt : c < 0
            · rw [decide_eq_true hlt] at o2
              go_wp2_with (go_at_call 27; refine (cC _ _ _ _ _ p4 q4 p3 q3 (hTb b4)).mono ?_; rintro e w5 ⟨rfl, d5⟩)
              go_ret
              exact ⟨rfl, bthq b4 d5⟩
            · rw [decide_eq_false hlt] at o2
              go_wp2_with (go_at_call 27; refine (cC _ _ _ _ _ p4 q4 p3 q3 (hTb b4)).mono ?_; rintro e w5 ⟨rfl, d5⟩)
              go_ret
              exact ⟨end_bool (by simpa using hlt), bthq b4 d5⟩
end Go.Proofs.YtmcnnnmlacpppaaDoor
