/- What Neg and Sign answer, the program's and the reference's; the reference's Sub. -/
import Derived.Test.YtjjchlfdaacddaaDoorMn
import Derived.Test.YtjjchlfdaacddaaDoorEl
import Derived.Test.YtjjchlfdaacddaaDoorZe
namespace Go.Proofs.YtjjchlfdaacddaaDoor
open Go.RowKit

def negD (d : Dy) : Dy × Int := if rightB d then (trn d, 0) else (dy0, 2)
theorem neg_norm {d : Dy} (hL : Lm d.mag) (hr : rightB d = true) : normD ⟨!d.neg, lo (vl d.mag), d.exp⟩ = negD d := by
  unfold negD
  rw [if_pos hr]
  have e : normD ⟨!d.neg, lo (vl d.mag), d.exp⟩ = normD (trn d) := by
    unfold normD
    congr 1
    unfold sv trn
    simp only [vl_lo]
    by_cases h0 : d.mag.length = 0
    · have hm : d.mag = [] := List.eq_nil_of_length_eq_zero h0
      rw [hm]; simp [vl]
    · have h1 : decide (0 < d.mag.length) = true := decide_eq_true (by omega)
      rw [h1]; simp
  rw [e]
  exact nrm_right (d := trn d) hL (trn_right hr)
theorem sg_right {d : Dy} (hr : rightB d = true) : sgD d = sgI (sv d) := by
  unfold sgD
  rcases right_cases hr with h | ⟨h0, _, _, h3, _⟩
  · rw [h]; rfl
  · rw [if_neg h0]
    have hv := vl_ne_last h0 h3
    unfold sgI sv
    cases d.neg <;> simp <;> omega
set_option maxHeartbeats 2000000 in
theorem neg_any (d : Dy) (ao : Option Addr) (cap : Nat) (w : World) (hr : LRow w ao d.mag) (hL : Lm d.mag) :
    Calls Tryd.prog 27 #[.agg #[.bool d.neg, .slice ao d.mag.length cap, .int .i64 d.exp]] w (Gave w (negD d)) := by
  have hR := fun w' (h : LRow w' ao d.mag) => right_any d ao cap w' h hL
  cases hrt : rightB d <;> rw [hrt] at hR
  · have HE : Hid (negD d = (dy0, 2)) := (show _ = _ by unfold negD; rw [if_neg (by rw [hrt]; simp)])
    obtain ⟨neg, xs, ex⟩ := d
    simp only at *
    clear hrt
    go_enter Tryd.func27, Tryd.ntmps27
    go_wp2_with (go_at_call 10; refine (hR _ ((hr.alloc _).alloc _)).mono ?_; rintro e w1 ⟨rfl, hb⟩; obtain ⟨⟨c0, c1, c2⟩, ⟨d0, d1, d2⟩, ⟨g0, g1, g2⟩, _⟩ := box2 hb)
    rw [HE.out]
    exact bodyPost_ret (v := .tuple #[.agg #[.bool false, .slice none 0 0, .int .i64 0], .int .i64 2]) (by simp [results, Tryd.results27, go_sem, d0, d1, d2]) rfl ⟨none, 0, rfl, LRow.nil _ _, Frs.none _, box2_end hb _ _ _⟩
  · have HE : Hid (negD d = (trn d, 0)) := (show _ = _ by unfold negD; rw [if_pos hrt])
    have hx := right_exp hrt
    have hT := fun w' => turned_any d ao cap w'
    have hC := fun w' (h : LRow w' ao d.mag) => copied_any (trn d) ao cap w' h (by show d.mag.length ≤ _; omega)
    rw [HE.out]
    obtain ⟨tn, htn⟩ : ∃ tn, (trn d).neg = tn := ⟨_, rfl⟩
    have ht : trn d = ⟨tn, d.mag, d.exp⟩ := by rw [← htn]; rfl
    rw [ht] at hC ⊢
    rw [htn] at hT
    obtain ⟨neg, xs, ex⟩ := d
    simp only at *
    clear hrt HE htn ht
    go_enter Tryd.func27, Tryd.ntmps27
    go_wp2_with (first
      | (go_at_call 10; refine (hR _ ((hr.alloc _).alloc _)).mono ?_; rintro e w1 ⟨rfl, hb⟩; obtain ⟨⟨c0, c1, c2⟩, ⟨d0, d1, d2⟩, ⟨g0, g1, g2⟩, _⟩ := box2 hb)
      | (go_at_call 59; refine (hT _).mono ?_; rintro e w2 ⟨rfl, hb2⟩; have hb3 := hb.trans (hb2.mono hb.size))
      | (go_at_call 64; refine (hC _ (((hr.alloc _).alloc _).below hb3)).mono ?_; rintro e w3 ⟨ao3, cap3, rfl, r3, fr3, hb4⟩; have hb5 := hb3.trans (hb4.mono hb3.size); clear c0 c1 c2 d0 d1 d2 g0 g1 g2; obtain ⟨⟨c0, c1, c2⟩, ⟨d0, d1, d2⟩, ⟨g0, g1, g2⟩, _⟩ := box2 hb5))
    have hs := hb3.size
    simp at hs
    have hfr2 : Frs (w.heap.size + 2) ao3 := fr3.mono (by omega)
    refine bodyPost_ret (v := .tuple #[.agg #[.bool tn, .slice ao3 xs.length cap3, .int .i64 ex], .int .i64 0]) (by simp [results, Tryd.results27, go_sem, d0, d1, d2]) rfl ⟨ao3, cap3, rfl, ?_, hfr2.mono (by omega), box2_end hb5 _ _ _⟩
    exact ((r3.box hfr2 (by omega) _ _).box hfr2 (by omega) _ _).box hfr2 (by omega) _ _
set_option maxHeartbeats 2000000 in
theorem dneg_any (d : Dy) (ao : Option Addr) (cap : Nat) (w : World) (hr : NS w ao cap d.mag) (hL : Lm d.mag) :
    Calls Tryd.prog 33 #[.agg #[.bool d.neg, .slice ao d.mag.length cap, .int .i64 d.exp]] w (GaveX w (negD d)) := by
  have hR := fun w' (h : LRow w' ao d.mag) => dright_any d ao cap w' h hL
  have hal : ∀ o1 o2, NS ((w.alloc o1).alloc o2) ao cap d.mag := fun o1 o2 => hr.below (((Below.refl _ _).alloc (Nat.le_refl _) o1).alloc (by simp) o2)
  cases hrt : rightB d <;> rw [hrt] at hR
  · have HE : Hid (negD d = (dy0, 2)) := (show _ = _ by unfold negD; rw [if_neg (by rw [hrt]; simp)])
    obtain ⟨neg, xs, ex⟩ := d
    simp only at *
    clear hrt
    go_enter Tryd.func33, Tryd.ntmps33
    go_wp2_with (go_at_call 16; refine (hR _ (hal _ _).1).mono ?_; rintro e w1 ⟨rfl, hb⟩; obtain ⟨⟨c0, c1, c2⟩, ⟨d0, d1, d2⟩, ⟨g0, g1, g2⟩, _⟩ := box2 hb)
    rw [HE.out]
    exact bodyPost_ret (v := .tuple #[.agg #[.bool false, .slice none 0 0, .int .i64 0], .int .i64 2]) (by simp [results, Tryd.results33, go_sem, d0, d1, d2]) rfl ⟨none, 0, rfl, NS.nil _, Frs.none _, box2_end hb _ _ _⟩
  · have hx := right_exp hrt
    have hD := fun w' (h : NS w' ao cap d.mag) => ddyad_any d ao cap w' h hL (by omega)
    have hll := lo_len hL
    have hM := fun o c w' => minus_any ⟨d.neg, lo (vl d.mag), d.exp⟩ o c w'
    have hT := fun o c w' (h : NS w' o c (lo (vl d.mag))) => told_any ⟨!d.neg, lo (vl d.mag), d.exp⟩ o c w' h (lo_lm _) (by simp only; omega) (by simp only; omega) (by simp only; omega)
    rw [neg_norm hL hrt] at hT
    obtain ⟨⟨⟨rn, rm, re⟩, rk⟩, hrr⟩ : ∃ r, negD d = r := ⟨_, rfl⟩
    rw [hrr] at hT ⊢
    obtain ⟨neg, xs, ex⟩ := d
    simp only at *
    obtain ⟨L, hLL⟩ : ∃ L, lo (vl xs) = L := ⟨_, rfl⟩
    rw [hLL] at hT hD hM
    clear hrt hrr hLL
    go_enter Tryd.func33, Tryd.ntmps33
    go_wp2_with (first
      | (go_at_call 16; refine (hR _ (hal _ _).1).mono ?_; rintro e w1 ⟨rfl, hb⟩; obtain ⟨⟨c0, c1, c2⟩, ⟨d0, d1, d2⟩, ⟨g0, g1, g2⟩, _⟩ := box2 hb)
      | (go_at_call 51; refine (hD _ ((hal _ _).below hb)).mono ?_; rintro e w2 ⟨ao2, cap2, rfl, r2, fr2, hb2⟩; have hb3 := hb.trans (hb2.mono hb.size))
      | (go_at_call 68; refine (hM _ _ _).mono ?_; rintro e w3 ⟨rfl, hb4⟩; have hb5 := hb3.trans (hb4.mono hb3.size))
      | (go_at_call 56; refine (hT _ _ _ (r2.below hb4)).mono ?_; rintro e w4 ⟨ao4, cap4, rfl, r4, fr4, hb6⟩; have hb7 := hb5.trans (hb6.mono hb5.size); clear c0 c1 c2 d0 d1 d2 g0 g1 g2; obtain ⟨⟨c0, c1, c2⟩, ⟨d0, d1, d2⟩, ⟨g0, g1, g2⟩, _⟩ := box2 hb7))
    have hs := hb5.size
    simp at hs
    have hfr2 : Frs (w.heap.size + 2) ao4 := fr4.mono (by omega)
    refine bodyPost_ret (v := .tuple #[.agg #[.bool rn, .slice ao4 rm.length cap4, .int .i64 re], .int .i64 rk]) (by simp [results, Tryd.results33, go_sem, d0, d1, d2]) rfl ⟨ao4, cap4, rfl, ?_, hfr2.mono (by omega), box2_end hb7 _ _ _⟩
    exact ((r4.setBox hfr2 (by omega) _ _).setBox hfr2 (by omega) _ _).setBox hfr2 (by omega) _ _
theorem sign_all (d : Dy) (ao : Option Addr) (cap : Nat) (w : World) (hr : LRow w ao d.mag) (hL : Lm d.mag) :
    Calls Tryd.prog 28 #[.agg #[.bool d.neg, .slice ao d.mag.length cap, .int .i64 d.exp]] w fun e w' => e = .returned (.tuple #[.int .i64 (signD d).1, .int .i64 (signD d).2]) ∧ Below w.heap.size w w' := by
  obtain ⟨neg, xs, ex⟩ := d
  unfold signD
  cases hrt : rightB ⟨neg, xs, ex⟩
  · exact Sign_arg neg xs ex ao cap w hr hL hrt
  · have h := Sign_ok neg xs ex ao cap w hr hL hrt
    rw [sg_right hrt] at h
    exact h
set_option maxHeartbeats 1000000 in
theorem dsign_all (d : Dy) (ao : Option Addr) (cap : Nat) (w : World) (hr : NS w ao cap d.mag) (hL : Lm d.mag) :
    Calls Tryd.prog 34 #[.agg #[.bool d.neg, .slice ao d.mag.length cap, .int .i64 d.exp]] w fun e w' => e = .returned (.tuple #[.int .i64 (signD d).1, .int .i64 (signD d).2]) ∧ Below w.heap.size w w' := by
  have hR := fun w' (h : LRow w' ao d.mag) => dright_any d ao cap w' h hL
  have hal : ∀ o1, NS (w.alloc o1) ao cap d.mag := fun o1 => hr.below ((Below.refl _ _).alloc (Nat.le_refl _) o1)
  unfold signD
  cases hrt : rightB d <;> rw [hrt] at hR
  · obtain ⟨neg, xs, ex⟩ := d
    simp only [Bool.false_eq_true, if_false] at *
    clear hrt
    go_enter Tryd.func34, Tryd.ntmps34
    go_wp2_with (go_at_call 16; refine (hR _ (hal _).1).mono ?_; rintro e w1 ⟨rfl, hb⟩; obtain ⟨⟨c0, c1, c2⟩, ho1⟩ := one_box hb)
    go_ret2
    exact ⟨rfl, ho1⟩
  · have hx := right_exp hrt
    have hD := fun w' (h : NS w' ao cap d.mag) => ddyad_any d ao cap w' h hL (by omega)
    have hll := lo_len hL
    have hS := fun o c w' (h : NS w' o c (lo (vl d.mag))) => nsign_any ⟨d.neg, lo (vl d.mag), d.exp⟩ o c w' h (lo_lm _) (by simp only; omega)
    have sa : sv ⟨d.neg, lo (vl d.mag), d.exp⟩ = sv d := by unfold sv; simp only [vl_lo]
    rw [sa] at hS
    simp only [if_true]
    generalize sgI (sv d) = g at *
    obtain ⟨neg, xs, ex⟩ := d
    simp only at *
    obtain ⟨L, hLL⟩ : ∃ L, lo (vl xs) = L := ⟨_, rfl⟩
    rw [hLL] at hD hS
    clear hrt hLL sa
    go_enter Tryd.func34, Tryd.ntmps34
    go_wp2_with (first
      | (go_at_call 16; refine (hR _ (hal _).1).mono ?_; rintro e w1 ⟨rfl, hb⟩; obtain ⟨⟨c0, c1, c2⟩, ho1⟩ := one_box hb)
      | (go_at_call 51; refine (hD _ ((hal _).below hb)).mono ?_; rintro e w2 ⟨ao2, cap2, rfl, r2, fr2, hb2⟩; have ho2 := ho1.trans (hb2.mono ho1.size))
      | (go_at_call 69; refine (hS _ _ _ r2).mono ?_; rintro e w3 ⟨rfl, hb3⟩))
    go_ret2
    exact ⟨rfl, ho2.trans (hb3.mono ho2.size)⟩
end Go.Proofs.YtjjchlfdaacddaaDoor
