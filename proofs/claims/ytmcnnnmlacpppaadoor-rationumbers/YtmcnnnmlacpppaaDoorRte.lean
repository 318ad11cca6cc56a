/- Ratios: Norm. -/
import Derived.Test.YtmcnnnmlacpppaaDoorRtd
namespace Go.Proofs.YtmcnnnmlacpppaaDoor
open Go.RowKit

/-- What Norm tells of a ratio. -/
def nmA (neg : Bool) (N D : Nat) : Option (Bool × Nat × Nat) × Int :=
  if D = 0 then (none, 7) else if N = 0 then (some (false, 0, 1), 0)
  else if nl (N / Nat.gcd N D) ≤ 256 ∧ nl (D / Nat.gcd N D) ≤ 256 then (some (neg, N / Nat.gcd N D, D / Nat.gcd N D), 3) else (none, 3)
theorem bl_quo {a g : Nat} (hd : g ∣ a) (h0 : a ≠ 0) : bl a ≤ bl g + bl (a / g) := by
  obtain ⟨k, rfl⟩ := hd
  have g0 : 0 < g := Nat.pos_of_ne_zero fun h => h0 (by rw [h, Nat.zero_mul])
  rw [Nat.mul_div_cancel_left _ g0]
  refine bl_le_iff.2 ?_
  rw [Nat.pow_add]
  exact Nat.mul_lt_mul'' (bl_le_iff.1 (Nat.le_refl _)) (bl_le_iff.1 (Nat.le_refl _))
/-- Where the divisor has too few bits the answer is too long. -/
theorem too_long {N D : Nat} (hN : N ≠ 0) (hD : D ≠ 0) (h : (bl (Nat.gcd N D) : Int) < ((max (bl N) (bl D) : Nat) : Int) - 16384) : ¬ (nl (N / Nat.gcd N D) ≤ 256 ∧ nl (D / Nat.gcd N D) ≤ 256) := by
  have a := bl_quo (Nat.gcd_dvd_left N D) hN
  have b := bl_quo (Nat.gcd_dvd_right N D) hD
  unfold nl
  omega
set_option maxRecDepth 100000 in
set_option maxHeartbeats 1000000 in
theorem rnorm_any (neg : Bool) (xs ys : List Nat) (ao bo : Option Addr) (cap bcap : Nat) (w : World) (h1 : LS w ao cap xs) (h2 : LS w bo bcap ys) (hL : Lm xs) (hM : Lm ys) (n1 : xs.length ≤ 15000) (n2 : ys.length ≤ 15000) (hT : TabW w) :
    Calls Tryd.prog 15 #[.agg #[.bool neg, .slice ao xs.length cap, .slice bo ys.length bcap]] w (GaveR w (nmA neg (vl xs) (vl ys)).1 (nmA neg (vl xs) (vl ys)).2) := by
  have RB := (B3q.new w (.bool neg) (.slice ao xs.length cap) (.slice bo ys.length bcap) 25).alloc (.cells #[.bool false, .slice none 0 0, .slice none 0 0] 25)
  have OB := B3q.new (w.alloc (.cells #[.bool neg, .slice ao xs.length cap, .slice bo ys.length bcap] 25)) (.bool false) (.slice none 0 0) (.slice none 0 0) 25
  have hsz : (w.alloc (.cells #[.bool neg, .slice ao xs.length cap, .slice bo ys.length bcap] 25)).heap.size = w.heap.size + 1 := by simp
  rw [hsz] at OB
  have hb0 : Below w.heap.size w ((w.alloc (.cells #[.bool neg, .slice ao xs.length cap, .slice bo ys.length bcap] 25)).alloc (.cells #[.bool false, .slice none 0 0, .slice none 0 0] 25)) := ((Below.refl _ _).alloc (Nat.le_refl _) _).alloc (by simp) _
  have L1 := h1.below hb0
  have L2 := h2.below hb0
  have T1 := tabW_below hT hb0
  have kN := nlW_le hL
  have kD := nlW_le hM
  go_enter Tryd.func15, Tryd.ntmps15
  go_upto_region 1 with fail
  generalize (w.alloc (.cells #[.bool neg, .slice ao xs.length cap, .slice bo ys.length bcap] 25)).alloc (.cells #[.bool false, .slice none 0 0, .slice none 0 0] 25) = W0 at *
  clear hsz hT h1 h2
  have t1 : ∀ n, Calls Tryd.prog 43 #[.slice ao xs.length cap] (W0.drewN n) fun e w' => e = .returned (.slice ao (nl (vl xs)) cap) ∧ ∃ k, w' = W0.drewN k := fun n => (trimL_any xs ao cap (W0.drewN n) (L1.below ((Alike.drewN n).below _)) hL (by omega)).mono fun e w' ⟨q1, q2⟩ => ⟨q1, n, q2⟩
  have t2 : ∀ n, Calls Tryd.prog 43 #[.slice bo ys.length bcap] (W0.drewN n) fun e w' => e = .returned (.slice bo (nl (vl ys)) bcap) ∧ ∃ k, w' = W0.drewN k := fun n => (trimL_any ys bo bcap (W0.drewN n) (L2.below ((Alike.drewN n).below _)) hM (by omega)).mono fun e w' ⟨q1, q2⟩ => ⟨q1, n, q2⟩
  have M1 := L1.trim hL
  have M2 := L2.trim hM
  generalize vl xs = N at *
  generalize vl ys = D at *
  obtain ⟨r0, r1, r2, p0, p1, p2, _, plt⟩ := id RB
  go_quiet ((first | (go_at_call_of 43 (Value.slice ao xs.length cap); exact t1 _) | (go_at_call_of 43 (Value.slice bo ys.length bcap); exact t2 _)))
  have A0 := Alike.drewN (w := W0) nq
  generalize W0.drewN nq = W1 at *
  have RB1 := RB.below (A0.below _)
  have OB1 := OB.below (A0.below _)
  have N1 := M1.below (A0.below _)
  have N2 := M2.below (A0.below _)
  have T2 := tabW_below T1 (A0.below _)
  have hb1 := hb0.trans (A0.below _)
  clear RB OB M1 M2 T1 hb0 A0 L1 L2 t1 t2 r0 r1 r2 p0 p1 p2 plt
  obtain ⟨r0, r1, r2, p0, p1, p2, _, plt⟩ := id RB1
  obtain ⟨o0, o1, o2, q0, q1, q2, _, olt⟩ := id OB1
  by_cases hD : D = 0
  · subst hD
    have n0 : nl 0 = 0 := rfl
    have HE : Hid (nmA neg N 0 = (none, 7)) := (show _ = _ by unfold nmA; rw [if_pos rfl])
    go_wp2
    exact bodyPost_ret (v := .tuple #[.agg #[.bool false, .slice none 0 0, .slice none 0 0], .int .i64 7]) (by simp [results, Tryd.results15, go_sem, o0, o1, o2]) rfl (by rw [HE.out]; exact ⟨rfl, below_three hb1 (by omega) _ _ _⟩)
  have pD := nlR_pos hD
  have z1 : ((nl D : Int) == 0) = false := by rw [beq_eq_false_iff_ne]; omega
  by_cases hN : N = 0
  · subst hN
    have n0 : nl 0 = 0 := rfl
    have HE : Hid (nmA neg 0 D = (some (false, 0, 1), 0)) := (show _ = _ by unfold nmA; rw [if_neg hD, if_pos rfl])
    have ci := rint_any 0 (by omega) (by omega) W1
    go_wp2_with (go_at_call 20; refine ci.mono ?_; rintro e w2 ⟨ao1, ac1, bo1, bc1, rfl, hA1, hB1, hb2⟩; have OB2 := OB1.below hb2; obtain ⟨o0', o1', o2', q0', q1', q2', _, _⟩ := id OB2)
    exact bodyPost_ret (v := .tuple #[.agg #[.bool false, .slice ao1 0 ac1, .slice bo1 (nl 1) bc1], .int .i64 0]) (by simp [results, Tryd.results15, go_sem, o0', o1', o2']) rfl (by rw [HE.out]; exact ⟨ao1, ac1, bo1, bc1, rfl, hA1.threeB OB2 _ _ _, hB1.threeB OB2 _ _ _, below_three (hb1.trans (hb2.mono hb1.size)) (by omega) _ _ _⟩)
  have pN := nlR_pos hN
  have z2 : ((nl N : Int) == 0) = false := by rw [beq_eq_false_iff_ne]; omega
  have lN := lo_length N
  have lD := lo_length D
  have cl1 := bitLen_any (lo N) ao cap W1 N1.1 (lo_lm N) (by omega)
  have cl2 := bitLen_any (lo D) bo bcap W1 N2.1 (lo_lm D) (by omega)
  rw [lN, vl_lo] at cl1
  rw [lD, vl_lo] at cl2
  have bN : bl N ≤ 64 * nl N := by unfold nl; omega
  have bD : bl D ≤ 64 * nl D := by unfold nl; omega
  obtain ⟨M, eM⟩ : ∃ M, max (bl N) (bl D) = M := ⟨_, rfl⟩
  have hmx : (if bl N < bl D then (bl D : Int) else (bl N : Int)) = (M : Int) := by split <;> omega
  have cc := common_any (lo N) (lo D) ao bo cap bcap ((M : Int) - 16384) W1 N1.1 N2.1 (lo_lm N) (lo_lm D) (by omega) (by omega) (by rw [vl_lo]; exact hN) (by rw [vl_lo]; exact hD) T2
  rw [lN, lD, vl_lo, vl_lo] at cc
  have m1 : M ≤ 960000 := by omega
  by_cases hsm : ((M : Int) - 16384) ≤ (bl (Nat.gcd N D) : Int)
  · have eC : comA N D ((M : Int) - 16384) = Nat.gcd N D := by unfold comA; rw [if_pos hsm]
    rw [eC] at cc
    have hE : nmA neg N D = (if nl (N / Nat.gcd N D) ≤ 256 ∧ nl (D / Nat.gcd N D) ≤ 256 then (some (neg, N / Nat.gcd N D, D / Nat.gcd N D), 3) else (none, 3)) := by unfold nmA; rw [if_neg hD, if_neg hN]
    have hG0 : Nat.gcd N D ≠ 0 := Nat.ne_of_gt (Nat.gcd_pos_of_pos_left _ (by omega))
    have hGN : Nat.gcd N D ≤ N := Nat.le_of_dvd (by omega) (Nat.gcd_dvd_left N D)
    obtain ⟨G, eG⟩ : ∃ G, Nat.gcd N D = G := ⟨_, rfl⟩
    rw [eG] at cc hE hG0 hGN
    have pG := nlR_pos hG0
    have z3 : ((nl G : Int) == 0) = false := by rw [beq_eq_false_iff_ne]; omega
    have kG := nl_mono hGN
    have lG := lo_length G
    have d1 := fun w' go gc (h : Below W1.heap.size W1 w') (hg : LS w' go gc (lo G)) => ldiv_any (lo N) (lo G) ao go cap gc w' (N1.1.below h) hg (lo_lm N) (lo_lm G) (by omega) (by omega) (by rw [vl_lo]; exact hG0)
    have d2 := fun w' go gc (h : Below W1.heap.size W1 w') (hg : LS w' go gc (lo G)) => ldiv_any (lo D) (lo G) bo go bcap gc w' (N2.1.below h) hg (lo_lm D) (lo_lm G) (by omega) (by omega) (by rw [vl_lo]; exact hG0)
    simp only [vl_lo, lo_length] at d1 d2
    have hq1 := nl_mono (Nat.div_le_self N G)
    have hq2 := nl_mono (Nat.div_le_self D G)
    have HE : Hid _ := hE
    obtain ⟨Q1, eQ1⟩ : ∃ Q1, N / G = Q1 := ⟨_, rfl⟩
    obtain ⟨Q2, eQ2⟩ : ∃ Q2, D / G = Q2 := ⟨_, rfl⟩
    rw [eQ1] at HE hq1
    rw [eQ2] at HE hq2
    simp only [eQ1] at d1
    simp only [eQ2] at d2
    generalize N % G = R1 at d1
    generalize D % G = R2 at d2
    clear hE eC eG eQ1 eQ2 hsm
    go_upto_region 12 with (first | (go_at_call_of 44 (Value.slice ao (nl N) cap); refine cl1.mono ?_; rintro e w' ⟨rfl, hww⟩; subst w') | (go_at_call_of 44 (Value.slice bo (nl D) bcap); refine cl2.mono ?_; rintro e w' ⟨rfl, hww⟩; subst w') | (go_at_call 45; refine cc.mono ?_; rintro e w3 ⟨go, gc, rfl, hG, hb3⟩) | (go_at_call_of 46 (Value.slice ao (nl N) cap); refine (d1 _ _ _ hb3 hG).mono ?_; rintro e w4 ⟨qo, qc, ro, rc, rfl, hQ1, hR1, hb4⟩; have b34 := hb3.trans (hb4.mono hb3.size); have hG2 := hG.below hb4) | (go_at_call_of 46 (Value.slice bo (nl D) bcap); refine (d2 _ _ _ b34 hG2).mono ?_; rintro e w5 ⟨qo2, qc2, ro2, rc2, rfl, hQ2, hR2, hb5⟩; have b35 := b34.trans (hb5.mono b34.size); have hQ1' := hQ1.below hb5))
    have hb5w := hb1.trans (b35.mono hb1.size)
    have RB5 := RB1.below b35
    have OB5 := OB1.below b35
    have ca := answer_any neg Q1 Q2 qo qo2 qc qc2 w5 hQ1' hQ2 (by omega) (by omega)
    clear RB1 OB1 r0 r1 r2 p0 p1 p2 plt o0 o1 o2 q0 q1 q2 olt cl1 cl2 cc d1 d2 N1 N2 T2 hb1 b35 b34 hb5 hb4 hb3 hR1 hR2 hG hG2 hQ1
    obtain ⟨r0, r1, r2, p0, p1, p2, _, plt⟩ := id RB5
    by_cases hc : nl Q1 ≤ 256 ∧ nl Q2 ≤ 256
    · rw [if_pos hc] at ca
      have HE2 : Hid (nmA neg N D = (some (neg, Q1, Q2), 3)) := (show _ = _ by rw [HE.out, if_pos hc])
      clear HE
      go_wp2_with (go_at_call 38; refine ca.mono ?_; rintro e w6 ⟨ao1, ac1, bo1, bc1, rfl, hA1, hB1, hb6⟩; have OB2 := OB5.below hb6; obtain ⟨o0', o1', o2', q0', q1', q2', _, _⟩ := id OB2)
      exact bodyPost_ret (v := .tuple #[.agg #[.bool neg, .slice ao1 (nl Q1) ac1, .slice bo1 (nl Q2) bc1], .int .i64 0]) (by simp [results, Tryd.results15, go_sem, o0', o1', o2']) rfl (by rw [HE2.out]; exact ⟨ao1, ac1, bo1, bc1, rfl, hA1.threeB OB2 _ _ _, hB1.threeB OB2 _ _ _, below_three (hb5w.trans (hb6.mono hb5w.size)) (by omega) _ _ _⟩)
    · rw [if_neg hc] at ca
      have HE2 : Hid (nmA neg N D = (none, 3)) := (show _ = _ by rw [HE.out, if_neg hc])
      clear HE
      go_wp2_with (go_at_call 38; refine ca.mono ?_; rintro e w6 ⟨rfl, hb6⟩; have OB2 := OB5.below hb6; obtain ⟨o0', o1', o2', q0', q1', q2', _, _⟩ := id OB2)
      exact bodyPost_ret (v := .tuple #[.agg #[.bool false, .slice none 0 0, .slice none 0 0], .int .i64 3]) (by simp [results, Tryd.results15, go_sem, o0', o1', o2']) rfl (by rw [HE2.out]; exact ⟨rfl, below_three (hb5w.trans (hb6.mono hb5w.size)) (by omega) _ _ _⟩)
  · have eC : comA N D ((M : Int) - 16384) = 0 := by unfold comA; rw [if_neg hsm]
    rw [eC] at cc
    have n0 : nl 0 = 0 := rfl
    have HE2 : Hid (nmA neg N D = (none, 3)) := (show _ = _ by
      unfold nmA
      rw [if_neg hD, if_neg hN, if_neg (too_long hN hD (by rw [eM]; omega))])
    clear eC hsm
    unfold GaveLW at cc
    rw [n0] at cc
    go_wp2_with (first | (go_at_call_of 44 (Value.slice ao (nl N) cap); refine cl1.mono ?_; rintro e w' ⟨rfl, hww⟩; subst w') | (go_at_call_of 44 (Value.slice bo (nl D) bcap); refine cl2.mono ?_; rintro e w' ⟨rfl, hww⟩; subst w') | (go_at_call 45; refine cc.mono ?_; rintro e w3 ⟨go, gc, rfl, hG, hb3⟩; have OB2 := OB1.below hb3; obtain ⟨o0', o1', o2', q0', q1', q2', _, _⟩ := id OB2))
    exact bodyPost_ret (v := .tuple #[.agg #[.bool false, .slice none 0 0, .slice none 0 0], .int .i64 3]) (by simp [results, Tryd.results15, go_sem, o0', o1', o2']) rfl (by rw [HE2.out]; exact ⟨rfl, below_three (hb1.trans (hb3.mono hb1.size)) (by omega) _ _ _⟩)
end Go.Proofs.YtmcnnnmlacpppaaDoor
