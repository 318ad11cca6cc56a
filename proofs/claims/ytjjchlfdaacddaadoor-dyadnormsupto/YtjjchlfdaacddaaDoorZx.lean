/- DyadNorms, whatever dyad of at most 2^42 limbs it is given: the walk (the library's table lying as its initialiser lays it). -/
import Derived.Test.YtjjchlfdaacddaaDoorYd
import Derived.Test.YtjjchlfdaacddaaDoorZq
import Derived.Deep.RegionHeld3
namespace Go.Proofs.YtjjchlfdaacddaaDoor
open Go.RowKit

theorem sg_none {x : Int} : sgI x = 0 ↔ x = 0 := by
  unfold sgI
  constructor
  · intro h; (repeat' split at h) <;> omega
  · intro h; subst h; rfl
theorem rnd_float {a : Nat} (ha : a < 18446744073709551616) (hf : finB a = true) (h0 : rung a ≠ 0) (m : Int) : rndW ⟨sgn a, [spF a], spE a⟩ m = a := by
  have hs := rSz_self hf h0 (szm (sgn a) m)
  have hv : vl [spF a] = spF a := by simp [vl]
  unfold rndW
  simp only [List.length_singleton, Nat.one_ne_zero, if_false, hv, hs]
  have := rung_of a ha
  exact this.symm
theorem fits_ref {d : Dy} (hl : Lm d.mag) (hr : rightB d = true) : (decide ((ofD (rndW d 0)).2 = 0) && decide (sgI (qd d - qd (ofD (rndW d 0)).1) = 0)) = fitB d := by
  have hlt : rndW d 0 < 18446744073709551616 := by
    have := rndA_lt d 0
    unfold rndA at this
    rwa [if_pos hr] at this
  cases hfit : fitB d
  · rw [Bool.and_eq_false_iff]
    by_cases hf : finB (rndW d 0) = true
    · right
      obtain ⟨q1, q2, q3, q4, q5⟩ := of_qd hf
      rw [decide_eq_false_iff_not, sg_none]
      intro h
      have e := qd_inj hl q3 hr q2 (by omega)
      by_cases h0 : rung (rndW d 0) = 0
      · have hs : spF (rndW d 0) = 0 := by unfold spF; rw [if_pos h0]
        have eo : (ofD (rndW d 0)).1 = dy0 := by unfold ofD; rw [if_neg (by simp [hf]), if_pos hs]
        rw [eo] at e
        rw [e] at hfit
        exact absurd hfit (by decide)
      · have hb := sp_bd hf h0
        have eo : (ofD (rndW d 0)).1 = ⟨sgn (rndW d 0), [spF (rndW d 0)], spE (rndW d 0)⟩ := by unfold ofD; rw [if_neg (by simp [hf]), if_neg hb.1]
        rw [eo] at e
        have := of_fits hf h0
        rw [← e, hfit] at this
        cases this
    · left
      have : (ofD (rndW d 0)).2 = 5 := by unfold ofD; rw [if_pos (by simpa using hf)]
      rw [this]; rfl
  · by_cases hn : d.mag.length = 0
    · have e := right_nil hr hn
      subst e
      have e1 : rndW dy0 0 = 0 := by unfold rndW; rw [if_pos (by decide)]
      have e2 : ofD 0 = (dy0, 0) := by kernel_rfl
      rw [e1, e2]
      simp [sgI]
    · obtain ⟨a, ha, hf, h0, e⟩ := fit_float hfit hn
      have hw := rnd_float ha hf h0 0
      rw [← e] at hw
      rw [hw]
      have hb := sp_bd hf h0
      have eo : ofD a = (d, 0) := by unfold ofD; rw [if_neg (by simp [hf]), if_neg hb.1, ← e]
      rw [eo]
      simp [sgI]
end Go.Proofs.YtjjchlfdaacddaaDoor

namespace Go.Proofs.YtjjchlfdaacddaaDoor
open Go.RowKit

theorem rounded_right (d : Dy) (hL : Lm d.mag) (hrt : rightB d = true) (m : Int) : ∀ W p q, NS W p q (lo (vl d.mag)) → Calls Tryd.prog 50 #[.agg #[.bool d.neg, .slice p (lo (vl d.mag)).length q, .int .i64 d.exp], .int .i8 m] W fun e w' => e = .returned (.float .f64 (rndW d m)) ∧ Below W.heap.size W w' := fun W p q h => by
  by_cases h0 : d.mag.length = 0
  · have e0 : d.mag = [] := List.eq_nil_of_length_eq_zero h0
    have e1 : rndW d m = 0 := by unfold rndW; rw [if_pos h0]
    rw [e1]
    rw [e0] at h ⊢
    exact rounded_none d.neg d.exp p q m W h
  · obtain ⟨v0, hod⟩ := right_ne hrt h0
    have x := right_exp hrt
    have e1 : rndW d m = sw d.neg (rSz (vl d.mag) d.exp (szm d.neg m)) := by unfold rndW sw; rw [if_neg h0]
    rw [e1]
    have := rounded_odd d.neg (lo (vl d.mag)) d.exp p q m W h (lo_lm _) (by have := lo_len hL; omega) x.1 x.2.1 (by rw [vl_lo, low_odd]; exact hod)
    rwa [vl_lo] at this
set_option maxHeartbeats 4000000 in
set_option maxRecDepth 100000 in
theorem dfits_any (d : Dy) (ao : Option Addr) (cap : Nat) (w : World) (hr : NS w ao cap d.mag) (hL : Lm d.mag) :
    Calls Tryd.prog 17 #[.agg #[.bool d.neg, .slice ao d.mag.length cap, .int .i64 d.exp]] w fun e w' => e = .returned (.bool (fitB d)) ∧ Below w.heap.size w w' := by
  have hR := fun W (h : LRow W ao d.mag) => dright_any d ao cap W h hL
  cases hrt : rightB d
  · rw [hrt] at hR
    have HE : Hid (fitB d = false) := (show _ = _ by unfold fitB; rw [hrt]; rfl)
    obtain ⟨neg, xs, ex⟩ := d
    simp only at *
    go_enter Tryd.func17, Tryd.ntmps17
    go_wp2_with (go_at_call 16; refine (hR _ (hr.1.alloc _)).mono ?_; rintro e w1 ⟨rfl, b1⟩)
    go_ret
    exact ⟨retB HE.out.symm, (one_box b1).2⟩
  · rw [hrt] at hR
    have x1 := right_exp hrt
    have hD := fun W (h : NS W ao cap d.mag) => ddyad_any d ao cap W h hL (by omega)
    have hQ := rounded_right d hL hrt 0
    have hlt : rndW d 0 < 18446744073709551616 := by
      have := rndA_lt d 0
      unfold rndA at this
      rwa [if_pos hrt] at this
    have hF := fits_ref hL hrt
    have hO := fun W => dof_any (rndW d 0) hlt W
    have l1 := lo_len hL
    obtain ⟨X, hX⟩ : ∃ X, rndW d 0 = X := ⟨_, rfl⟩
    rw [hX] at hQ hlt hF hO
    cases hf : finB X
    · have e : ofD X = (dy0, 5) := by unfold ofD; rw [if_pos hf]
      rw [e] at hF hO
      have HE : Hid (fitB d = false) := (show _ = _ by rw [← hF]; rfl)
      clear hF e hf
      obtain ⟨neg, xs, ex⟩ := d
      simp only [dy0] at *
      clear hX hrt
      go_enter Tryd.func17, Tryd.ntmps17
      go_upto_region 5 with (first | (go_at_call 16; refine (hR _ (hr.1.alloc _)).mono ?_; rintro e w1 ⟨rfl, b1⟩; obtain ⟨⟨c0, c1, c2⟩, ho1⟩ := one_box b1) | (go_at_call 51; refine (hD _ (hr.below ho1)).mono ?_; rintro e w2 ⟨p, q, rfl, h2, f2, b2⟩) | (go_at_call 50; refine (hQ _ _ _ h2).mono ?_; rintro e w3 ⟨rfl, b3⟩) | (go_at_call 20; refine (hO _).mono ?_; rintro e w4 ⟨p2, q2, rfl, h4, f4, b4⟩))
      have B2 := ho1.trans (b2.mono ho1.size)
      have B3 := B2.trans (b3.mono B2.size)
      have B4 := B3.trans (b4.mono B3.size)
      have B5 := B4.alloc B4.size (.cells #[.bool false, .slice p2 0 q2, .int .i64 0] 24)
      go_quiet (fail)
      go_wp2
      go_ret
      exact ⟨retB HE.out.symm, below_drewN B5 _⟩
    · obtain ⟨q1, q2, q3, q4, q5⟩ := of_qd hf
      obtain ⟨⟨E, k⟩, hE⟩ : ∃ r, ofD X = r := ⟨_, rfl⟩
      rw [hE] at q1 q2 q3 q4 hF hO
      simp only at q1 q2 q3 q4 hF
      subst q1
      have x2 := right_exp q2
      have hDe := fun W o c (h : NS W o c E.mag) => ddyad_any E o c W h q3 (by omega)
      have l2 := lo_len q3
      have hC := fun o1 o2 c1 c2 w' (h1 : NS w' o1 c1 (lo (vl d.mag))) (h2 : NS w' o2 c2 (lo (vl E.mag))) => compare_any ⟨d.neg, lo (vl d.mag), d.exp⟩ ⟨E.neg, lo (vl E.mag), E.exp⟩ o1 o2 c1 c2 w' h1 h2 (lo_lm _) (lo_lm _) (by simp only; omega) (by simp only; omega) (by simp only; omega) (by simp only; omega) (by simp only; omega) (by simp only; omega)
      have qa : qd ⟨d.neg, lo (vl d.mag), d.exp⟩ = qd d := by unfold qd sv; simp only [vl_lo]
      have qb : qd ⟨E.neg, lo (vl E.mag), E.exp⟩ = qd E := by unfold qd sv; simp only [vl_lo]
      rw [qa, qb] at hC
      have HE : Hid ((sgI (qd d - qd E) == 0) = fitB d) := (show _ = _ by rw [← hF, Bool.eq_iff_iff]; simp)
      generalize sgI (qd d - qd E) = g at *
      generalize fitB d = fb at *
      clear hF hE q2 q4 q5 hf hX hrt qa qb
      obtain ⟨neg, xs, ex⟩ := d
      obtain ⟨n2, ys, ey⟩ := E
      simp only at *
      obtain ⟨A, hA⟩ : ∃ A, lo (vl xs) = A := ⟨_, rfl⟩
      obtain ⟨B, hB'⟩ : ∃ B, lo (vl ys) = B := ⟨_, rfl⟩
      rw [hA] at hD hC hQ
      rw [hB'] at hDe hC
      clear hA hB' l1 l2 x1 x2 hL q3
      go_enter Tryd.func17, Tryd.ntmps17
      go_upto_region 5 with (first | (go_at_call 16; refine (hR _ (hr.1.alloc _)).mono ?_; rintro e w1 ⟨rfl, b1⟩; obtain ⟨⟨c0, c1, c2⟩, ho1⟩ := one_box b1) | (go_at_call 51; refine (hD _ (hr.below ho1)).mono ?_; rintro e w2 ⟨p, q, rfl, h2, f2, b2⟩) | (go_at_call 50; refine (hQ _ _ _ h2).mono ?_; rintro e w3 ⟨rfl, b3⟩) | (go_at_call 20; refine (hO _).mono ?_; rintro e w4 ⟨p2, q2, rfl, h4, f4, b4⟩))
      have hB1 := b2.trans (b3.mono b2.size)
      have hB2 := hB1.trans (b4.mono hB1.size)
      have hB3 := hB2.alloc hB2.size (.cells #[.bool n2, .slice p2 ys.length q2, .int .i64 ey] 24)
      obtain ⟨a0, a1, a2⟩ := three_on hB3 ⟨c0, c1, c2⟩
      obtain ⟨⟨y0, y1, y2⟩, yl⟩ := cells3 (Below.refl _ (w4.alloc (.cells #[.bool n2, .slice p2 ys.length q2, .int .i64 ey] 24)))
      have hr5 := hr.below (ho1.trans (hB3.mono ho1.size))
      have hs5 := h4.below ((Below.refl w4.heap.size w4).alloc (Nat.le_refl _) (.cells #[.bool n2, .slice p2 ys.length q2, .int .i64 ey] 24))
      have hB5 := ho1.trans (hB3.mono ho1.size)
      generalize w4.alloc (.cells #[.bool n2, .slice p2 ys.length q2, .int .i64 ey] 24) = v at *
      generalize w4.heap.size = z at *
      clear hB1 hB2 hB3 b1 b2 b3 b4 c0 c1 c2 h2 h4 f2 f4 yl
      have hr6 : NS v.drew ao cap xs := hr5.below ((Below.refl _ _).drew)
      have hs6 : NS v.drew p2 q2 ys := hs5.below ((Below.refl _ _).drew)
      go_region_held3 (fun w' => w'.cell? ⟨w.heap.size, 0, none⟩ = some (.bool neg) ∧ w'.cell? ⟨w.heap.size, 1, none⟩ = some (.slice ao xs.length cap) ∧ w'.cell? ⟨w.heap.size, 2, none⟩ = some (.int .i64 ex) ∧ w'.cell? ⟨z, 0, none⟩ = some (.bool n2) ∧ w'.cell? ⟨z, 1, none⟩ = some (.slice p2 ys.length q2) ∧ w'.cell? ⟨z, 2, none⟩ = some (.int .i64 ey)) (go_keep)
        (first
          | (go_at_call_of 51 (Value.agg #[.bool neg, .slice ao xs.length cap, .int .i64 ex]); refine (hD _ hr6).mono ?_; rintro e wa ⟨oa, ca, rfl, ua, fa, ba⟩; have Ba := undrew ba; obtain ⟨i0, i1, i2⟩ := three_on Ba ⟨a0, a1, a2⟩; obtain ⟨j0, j1, j2⟩ := three_on Ba ⟨y0, y1, y2⟩)
          | (go_at_call 51; refine (hDe _ _ _ (hs6.below ba)).mono ?_; rintro e wb ⟨ob, cb, rfl, ub, fb', bb⟩; obtain ⟨k0, k1, k2⟩ := three_on bb ⟨i0, i1, i2⟩; obtain ⟨l0, l1, l2⟩ := three_on bb ⟨j0, j1, j2⟩)
          | (go_at_call 52; refine (hC _ _ _ _ _ (ua.below bb) ub).mono ?_; rintro e wt ⟨rfl, bt⟩; obtain ⟨m0, m1, m2⟩ := three_on bt ⟨k0, k1, k2⟩; obtain ⟨n0, n1, n3⟩ := three_on bt ⟨l0, l1, l2⟩))
      all_goals go_wp2
      all_goals go_ret
      all_goals
        have C1 := hB5.trans (Ba.mono hB5.size)
        have C2 := C1.trans (bb.mono C1.size)
        exact ⟨retB HE.out, C2.trans (bt.mono C2.size)⟩
end Go.Proofs.YtjjchlfdaacddaaDoor

namespace Go.Proofs.YtjjchlfdaacddaaDoor
open Go.RowKit

/-- Limbs that are older than a block, or none. -/
def Elder (n : Nat) (ao : Option Addr) (d : Dy) : Prop := ∀ p, ao = some p → d.mag.length ≠ 0 → p.block < n
theorem Hd.past {w w1 : World} {g p n : Nat} {d : Dy} {ao : Option Addr} {cap : Nat} (h : Hd w p d ao cap) (hg : w.grownBy w1 (some g)) (hp : p ≠ g) (ho : Elder n ao d) (hn : n ≤ g) : Hd w1 p d ao cap := by
  refine ⟨hg.cell h.c0 (fun e => hp (by injection e)), hg.cell h.c1 (fun e => hp (by injection e)), hg.cell h.c2 (fun e => hp (by injection e)), ?_⟩
  by_cases h0 : d.mag.length = 0
  · exact Or.inl h0
  · exact h.row.far hg (fun a e => by have := ho a e h0; omega)
theorem nrm_sh (m e : Int) : (nrm m e).1.mag.length ≤ 256 := by
  by_cases h : (nrm m e).2 = 0
  · exact (right_exp (nrm_ok h).1).2.2
  · rw [nrm_exp h]; simp [dy0]
theorem normD_sh (d : Dy) : (normD d).1.mag.length ≤ 256 := nrm_sh _ _
set_option maxHeartbeats 4000000 in
set_option maxRecDepth 100000 in
theorem norms_law (d : Dy) (ao : Option Addr) (cap : Nat) (w : World) (hr : NS w ao cap d.mag) (hL : Lm d.mag) (hn : d.mag.length ≤ 4398046511104) (e1 : -9223372036854775808 ≤ d.exp) (e2 : d.exp ≤ 9223372036854775807) (hT : TabW w) :
    Calls Tryd.prog 3 #[.agg #[.bool d.neg, .slice ao d.mag.length cap, .int .i64 d.exp]] w fun e w' => e = .returned (.bool true) ∧ Below w.heap.size w w' := by
  have hS := fun o c w' (h : LRow w' o d.mag) (t : TabW w') => norm_any d o c w' h hL t (by omega)
  have hD := fun w' (h : NS w' ao cap d.mag) => dnorm_any d ao cap w' h hL hn e1 e2
  have hR := fun o c w' (h : LRow w' o d.mag) => right_any d o c w' h hL
  have hF := fun o c w' (h : LRow w' o d.mag) => Fits_any d.neg d.mag d.exp o c w' h hL
  have gR := fun w' (h : LRow w' ao d.mag) => dright_any d ao cap w' h hL
  have gF := fun w' (h : NS w' ao cap d.mag) => dfits_any d ao cap w' h hL
  have hrl := normD_sh d
  obtain ⟨⟨r, rk⟩, hrr⟩ : ∃ r, normD d = r := ⟨_, rfl⟩
  rw [hrr] at hS hD hrl
  simp only at hrl
  obtain ⟨rb, hrb⟩ : ∃ b, rightB d = b := ⟨_, rfl⟩
  obtain ⟨fb, hfb⟩ : ∃ b, fitB d = b := ⟨_, rfl⟩
  rw [hrb] at hR gR
  rw [show (⟨d.neg, d.mag, d.exp⟩ : Dy) = d from rfl, hfb] at hF
  rw [hfb] at gF
  clear hrr hrb hfb
  have hao : Elder w.heap.size ao d := fun p e h0 => by
    rcases hr.1 with h | ⟨b', off, e2, hc⟩
    · exact absurd h h0
    · rw [e] at e2; cases e2; exact World.block_lt_of_cell? w _ (hc 0 (by omega))
  go_enter Tryd.func3, Tryd.ntmps3
  go_upto_region 3 with (go_at_call 8; refine (awake_any _ (tabW_alloc hT _)).mono ?_; rintro e w1 ⟨rfl, hb1⟩)
  obtain ⟨⟨c0, c1, c2⟩, ho1⟩ := one_box hb1
  have Hq : Hd w1 w.heap.size d ao cap := ⟨c0, c1, c2, hr.1.below ho1⟩
  have hs1 : w.heap.size < w1.heap.size := by have h := hb1.size; simp at h; omega
  clear hb1 c0 c1 c2
  go_cut [13, 14, 3] (fun _ _ s5 wx => ∃ P g, s5 = .pointer (some ⟨P, 0, none⟩) ∧ Hd wx P d (some ⟨g, 0, none⟩) (d.mag.length + 12) ∧ Lent wx g d.mag ∧ Hd wx w.heap.size d ao cap ∧ w.heap.size < g ∧ Below w.heap.size w wx)
  case first =>
    as_aux_lemma =>
      have hLd := lentDyad_any d ao cap w1 Hq.row hr.2.1 (by omega)
      obtain ⟨a0, a1, a2, ar⟩ := id Hq
      go_wp2_with (go_at_call 9; refine hLd.mono ?_; rintro e w2 ⟨g, rfl, hl, hg, hb⟩)
      go_meet
      have hb' := hb.alloc hb.size (.cells #[.bool d.neg, .slice (some ⟨g, 0, none⟩) d.mag.length (d.mag.length + 12), .int .i64 d.exp] 24)
      exact ⟨_, g, rfl, Hd.new hl.lrow, hl.alloc _, Hq.below hb', by omega, ho1.trans (hb'.mono ho1.size)⟩
  clear Hq ho1 hs1
  obtain ⟨P, g, rfl, Hp, hl, Hq, hg1, hB⟩ := hcut
  obtain ⟨wq, hwq⟩ : ∃ wq, wq = wc := ⟨_, rfl⟩
  subst hwq
  go_upto_region 4 with fail
  go_cut [15, 16, 17, 18, 4, 5] (fun _ _ _ _ s4 s5 wx => s4 = .bool rb ∧ s5 = .bool fb ∧ Hd wx P d (some ⟨g, 0, none⟩) (d.mag.length + 12) ∧ Lent wx g d.mag ∧ Hd wx w.heap.size d ao cap ∧ Below w.heap.size w wx)
  case first =>
    as_aux_lemma =>
      obtain ⟨a0, a1, a2, ar⟩ := id Hp
      have ar1 : LRow wq.drew (some ⟨g, 0, none⟩) d.mag := ar.below (Below.refl _ _).drew
      go_region_held3 (fun w' => w'.cell? ⟨P, 0, none⟩ = some (.bool d.neg) ∧ w'.cell? ⟨P, 1, none⟩ = some (.slice (some ⟨g, 0, none⟩) d.mag.length (d.mag.length + 12)) ∧ w'.cell? ⟨P, 2, none⟩ = some (.int .i64 d.exp)) (go_keep)
        (first
          | (go_at_call 10; refine (hR _ (d.mag.length + 12) _ ar1).mono ?_; rintro e wa ⟨rfl, ba⟩; have Ba := undrew ba; obtain ⟨i0, i1, i2⟩ := three_on Ba ⟨a0, a1, a2⟩)
          | (go_at_call 11; refine (hF _ (d.mag.length + 12) _ (ar1.below ba)).mono ?_; rintro e wb ⟨rfl, bb⟩; obtain ⟨k0, k1, k2⟩ := three_on bb ⟨i0, i1, i2⟩))
      all_goals go_wp2_with fail
      all_goals go_meet
      all_goals
        have C1 := Ba.trans (bb.mono Ba.size)
        exact ⟨rfl, rfl, Hp.below C1, hl.below C1, Hq.below C1, hB.trans (C1.mono hB.size)⟩
  clear Hp hl Hq hB
  obtain ⟨rfl, rfl, Hp, hl, Hq, hB⟩ := hcut
  obtain ⟨wq, hwq⟩ : ∃ wq, wq = wc := ⟨_, rfl⟩
  subst hwq
  go_upto_region 5 with fail
  go_cut [20, 21, 19, 22, 23, 6, 7] (fun _ _ _ _ _ s6 s7 wx => ∃ Q o c, s6 = .pointer (some ⟨Q, 0, none⟩) ∧ s7 = .int .i64 rk ∧ Hd wx Q r o c ∧ Frs (g + 1) o ∧ g < Q ∧ Hd wx P d (some ⟨g, 0, none⟩) (d.mag.length + 12) ∧ Lent wx g d.mag ∧ Hd wx w.heap.size d ao cap ∧ Below w.heap.size w wx)
  case first =>
    as_aux_lemma =>
      have hc := hS _ (d.mag.length + 12) wq Hp.row (tabW_below hT hB)
      have hlt := hl.lt
      obtain ⟨a0, a1, a2, ar⟩ := id Hp
      go_wp2_with (go_at_call 12; refine hc.mono ?_; rintro e w2 ⟨o, c, rfl, hrow, hfr, hb⟩)
      go_meet
      have hs := hb.size
      have hb' := hb.alloc hb.size (.cells #[.bool r.neg, .slice o r.mag.length c, .int .i64 r.exp] 24)
      exact ⟨_, o, c, rfl, rfl, Hd.new hrow, hfr.mono (by omega), by omega, Hp.below hb', hl.below hb', Hq.below hb', hB.trans (hb'.mono hB.size)⟩
  clear Hp hl Hq hB
  obtain ⟨Q, o, c, rfl, rfl, Hr, hfo, hgq, Hp, hl, Hq, hB⟩ := hcut
  obtain ⟨wq, hwq⟩ : ∃ wq, wq = wc := ⟨_, rfl⟩
  subst hwq
  go_upto_region 6 with fail
  go_cut [24, 25, 26, 8] (fun _ _ _ s8 wx => s8 = .bool true ∧ Hd wx Q r o c ∧ Hd wx P d (some ⟨g, 0, none⟩) (d.mag.length + 12) ∧ Lent wx g d.mag ∧ Hd wx w.heap.size d ao cap ∧ Below w.heap.size w wx)
  case first =>
    as_aux_lemma =>
      have hc := keptDyad_any d ao cap g wq Hq.row hl (by omega)
      obtain ⟨a0, a1, a2, ar⟩ := id Hp
      obtain ⟨b0, b1, b2, br⟩ := id Hq
      go_wp2_with (go_at_call 13; refine hc.mono ?_; rintro e w2 ⟨rfl, hb⟩)
      go_meet
      exact ⟨rfl, Hr.below hb, Hp.below hb, hl.below hb, Hq.below hb, hB.trans (hb.mono hB.size)⟩
  clear Hr Hp hl Hq hB
  obtain ⟨rfl, Hr, Hp, hl, Hq, hB⟩ := hcut
  obtain ⟨wq, hwq⟩ : ∃ wq, wq = wc := ⟨_, rfl⟩
  subst hwq
  go_upto_region 7 with fail
  go_cut [27, 28] (fun _ _ wx => Hd wx Q r o c ∧ Hd wx w.heap.size d ao cap ∧ Below w.heap.size w wx)
  case first =>
    as_aux_lemma =>
      have hc := overDyad_any d g wq hl (by omega)
      obtain ⟨a0, a1, a2, ar⟩ := id Hp
      go_wp2_with (go_at_call 14; refine hc.mono ?_; rintro e w2 ⟨rfl, hb⟩)
      go_meet
      exact ⟨Hr.far hb (by omega) (fun a e => by have h := hfo a e; omega), Hq.past hb (by omega) hao (by omega), below_far hB hb (by omega)⟩
  clear Hr Hp hl Hq hB
  obtain ⟨Hr, Hq, hB⟩ := hcut
  obtain ⟨wq, hwq⟩ : ∃ wq, wq = wc := ⟨_, rfl⟩
  subst hwq
  go_upto_region 8 with fail
  go_cut [30, 31, 29, 32, 33, 9, 10] (fun _ _ _ _ _ s9 s10 wx => ∃ R o' c', s9 = .pointer (some ⟨R, 0, none⟩) ∧ s10 = .int .i64 rk ∧ Hd wx R r o' c' ∧ Hd wx Q r o c ∧ Hd wx w.heap.size d ao cap ∧ Below w.heap.size w wx)
  case first =>
    as_aux_lemma =>
      have hc := hD wq ⟨Hq.row, hr.2⟩
      obtain ⟨a0, a1, a2, ar⟩ := id Hq
      go_wp2_with (go_at_call 15; refine hc.mono ?_; rintro e w2 ⟨o', c', rfl, hrow, hfr, hb⟩)
      go_meet
      have hb' := hb.alloc hb.size (.cells #[.bool r.neg, .slice o' r.mag.length c', .int .i64 r.exp] 24)
      exact ⟨_, o', c', rfl, rfl, Hd.new hrow.1, Hr.below hb', Hq.below hb', hB.trans (hb'.mono hB.size)⟩
  clear Hr Hq hB
  obtain ⟨R, o', c', rfl, rfl, Hs, Hr, Hq, hB⟩ := hcut
  obtain ⟨wq, hwq⟩ : ∃ wq, wq = wc := ⟨_, rfl⟩
  subst hwq
  have hk : (rk == rk) = true := by simp
  have hk2 : (rb == rb) = true := by simp
  have hk3 : (fb == fb) = true := by simp
  have hc := fun W (u : LRow W o r.mag) (v : LRow W o' r.mag) => sameDyad_any r r o o' c c' W u v (by omega)
  rw [eqB_self] at hc
  obtain ⟨a0, a1, a2, ar⟩ := id Hq
  go_wp2_with (first
    | (go_at_call 16; refine (gR _ ar).mono ?_; rintro e w2 ⟨rfl, t1⟩; have Hq1 := Hq.below t1; have Hr1 := Hr.below t1; have Hs1 := Hs.below t1; obtain ⟨b0, b1, b2, br⟩ := id Hq1)
    | (go_at_call 17; refine (gF _ ⟨br, hr.2⟩).mono ?_; rintro e w3 ⟨rfl, t2⟩; have Hr2 := Hr1.below t2; have Hs2 := Hs1.below t2; obtain ⟨d0, d1, d2, dr⟩ := id Hr2; obtain ⟨f0, f1, f2, fr⟩ := id Hs2)
    | (go_at_call 18; refine (hc _ dr fr).mono ?_; rintro e w4 ⟨rfl, t3⟩))
  go_ret
  have B1 := hB.trans (t1.mono hB.size)
  have B2 := B1.trans (t2.mono B1.size)
  exact ⟨rfl, B2.trans (t3.mono B2.size)⟩
end Go.Proofs.YtjjchlfdaacddaaDoor
