/- What the program's Neg and Sign answer of any dyad. -/
import Derived.Test.YtlkmmfmnggejlaaDoorEl
import Derived.Test.YtlkmmfmnggejlaaDoorZp
import Derived.Test.YtlkmmfmnggejlaaDoorZe
namespace Go.Proofs.YtlkmmfmnggejlaaDoor
open Go.RowKit

def scaleD (d : Dy) (n : Int) : Dy × Int :=
  if rightB d = false then (dy0, 2) else if d.mag.length = 0 then (dy0, 0) else if n < -65536 - d.exp ∨ 65536 - d.exp < n then (dy0, 3) else (⟨d.neg, d.mag, d.exp + n⟩, 0)
theorem scale_norm {d : Dy} (hL : Lm d.mag) (hr : rightB d = true) (h0 : d.mag.length ≠ 0) (n : Int) : normD ⟨d.neg, lo (vl d.mag), d.exp + n⟩ = scaleD d n := by
  unfold scaleD
  rw [if_neg (by rw [hr]; simp), if_neg h0]
  rcases right_cases hr with h | ⟨_, h1, h2, h3, h4, h5⟩
  · rw [h] at h0; exact absurd rfl h0
  · have hv := vl_ne_last h0 h3
    have hodd := vl_odd hL h0
    have ht : tz (vl d.mag) = 0 := tz_odd (by omega)
    have hlo := lo_vl hL (Or.inr h3)
    have hb := bl_limbs hL h1
    rw [hlo]
    have hz : ((tz (vl d.mag) : Nat) : Int) = 0 := by rw [ht]; rfl
    by_cases hc : n < -65536 - d.exp ∨ 65536 - d.exp < n
    · rw [if_pos hc]
      exact norm_long (d := ⟨d.neg, d.mag, d.exp + n⟩) hv (by simp only; omega)
    · rw [if_neg hc, norm_fine (d := ⟨d.neg, d.mag, d.exp + n⟩) hv (by simp only; omega)]
      simp [ht, hlo]
set_option maxHeartbeats 1000000 in
theorem scale_any (d : Dy) (n : Int) (ao : Option Addr) (cap : Nat) (w : World) (hr : LRow w ao d.mag) (hL : Lm d.mag) :
    Calls Tryd.prog 31 #[.agg #[.bool d.neg, .slice ao d.mag.length cap, .int .i64 d.exp], .int .i64 n] w (Gave w (scaleD d n)) := by
  have hR := fun w' (h : LRow w' ao d.mag) => right_any d ao cap w' h hL
  cases hrt : rightB d <;> rw [hrt] at hR
  · have HE : Hid (scaleD d n = (dy0, 2)) := (show _ = _ by unfold scaleD; rw [if_pos hrt])
    obtain ⟨neg, xs, ex⟩ := d
    simp only at *
    clear hrt
    go_enter Tryd.func31, Tryd.ntmps31
    go_wp2_with (go_at_call 33; refine (hR _ ((hr.alloc _).alloc _)).mono ?_; rintro e w1 ⟨rfl, hb⟩; obtain ⟨⟨c0, c1, c2⟩, ⟨d0, d1, d2⟩, ⟨g0, g1, g2⟩, _⟩ := box2 hb)
    rw [HE.out]
    exact bodyPost_ret (v := .tuple #[.agg #[.bool false, .slice none 0 0, .int .i64 0], .int .i64 2]) (by simp [results, Tryd.results31, go_sem, d0, d1, d2]) rfl ⟨none, 0, rfl, LRow.nil _ _, Frs.none _, box2_end hb _ _ _⟩
  · have hex := right_exp hrt
    by_cases h0 : d.mag.length = 0
    · have HE : Hid (scaleD d n = (dy0, 0)) := (show _ = _ by unfold scaleD; rw [if_neg (by rw [hrt]; simp), if_pos h0])
      have hz : ((d.mag.length : Int) == 0) = true := by simp; exact List.eq_nil_of_length_eq_zero h0
      obtain ⟨neg, xs, ex⟩ := d
      simp only at *
      clear hrt h0
      go_enter Tryd.func31, Tryd.ntmps31
      go_wp2_with (go_at_call 33; refine (hR _ ((hr.alloc _).alloc _)).mono ?_; rintro e w1 ⟨rfl, hb⟩; obtain ⟨⟨c0, c1, c2⟩, ⟨d0, d1, d2⟩, ⟨g0, g1, g2⟩, _⟩ := box2 hb)
      rw [HE.out]
      exact bodyPost_ret (v := .tuple #[.agg #[.bool false, .slice none 0 0, .int .i64 0], .int .i64 0]) (by simp [results, Tryd.results31, go_sem, d0, d1, d2]) rfl ⟨none, 0, rfl, LRow.nil _ _, Frs.none _, box2_end hb _ _ _⟩
    · have hz : ((d.mag.length : Int) == 0) = false := beq_eq_false_iff_ne.2 (by omega)
      have HE : Hid (scaleD d n = if n < -65536 - d.exp ∨ 65536 - d.exp < n then (dy0, 3) else (⟨d.neg, d.mag, d.exp + n⟩, 0)) := (show _ = _ by unfold scaleD; rw [if_neg (by rw [hrt]; simp), if_neg h0])
      have hC := fun w' (h : LRow w' ao d.mag) => copied_any d ao cap w' h (by omega)
      obtain ⟨neg, xs, ex⟩ := d
      simp only at *
      clear hrt h0
      by_cases q1 : n < -65536 - ex
      · rw [if_pos (Or.inl q1)] at HE
        go_enter Tryd.func31, Tryd.ntmps31
        go_wp2_with (go_at_call 33; refine (hR _ ((hr.alloc _).alloc _)).mono ?_; rintro e w1 ⟨rfl, hb⟩; obtain ⟨⟨c0, c1, c2⟩, ⟨d0, d1, d2⟩, ⟨g0, g1, g2⟩, _⟩ := box2 hb)
        rw [HE.out]
        exact bodyPost_ret (v := .tuple #[.agg #[.bool false, .slice none 0 0, .int .i64 0], .int .i64 3]) (by simp [results, Tryd.results31, go_sem, d0, d1, d2]) rfl ⟨none, 0, rfl, LRow.nil _ _, Frs.none _, box2_end hb _ _ _⟩
      · by_cases q2 : 65536 - ex < n
        · rw [if_pos (Or.inr q2)] at HE
          go_enter Tryd.func31, Tryd.ntmps31
          go_wp2_with (go_at_call 33; refine (hR _ ((hr.alloc _).alloc _)).mono ?_; rintro e w1 ⟨rfl, hb⟩; obtain ⟨⟨c0, c1, c2⟩, ⟨d0, d1, d2⟩, ⟨g0, g1, g2⟩, _⟩ := box2 hb)
          rw [HE.out]
          exact bodyPost_ret (v := .tuple #[.agg #[.bool false, .slice none 0 0, .int .i64 0], .int .i64 3]) (by simp [results, Tryd.results31, go_sem, d0, d1, d2]) rfl ⟨none, 0, rfl, LRow.nil _ _, Frs.none _, box2_end hb _ _ _⟩
        · rw [if_neg (by omega)] at HE
          have qs : -65536 ≤ ex + n ∧ ex + n ≤ 65536 := by omega
          go_enter Tryd.func31, Tryd.ntmps31
          go_wp2_with (first
            | (go_at_call 33; refine (hR _ ((hr.alloc _).alloc _)).mono ?_; rintro e w1 ⟨rfl, hb⟩; obtain ⟨⟨c0, c1, c2⟩, ⟨d0, d1, d2⟩, ⟨g0, g1, g2⟩, _⟩ := box2 hb)
            | (go_at_call 61; refine (hC _ (((hr.alloc _).alloc _).below hb)).mono ?_; rintro e w2 ⟨ao2, cap2, rfl, r2, fr2, hb2⟩; have hb3 := hb.trans (hb2.mono hb.size); clear c0 c1 c2 d0 d1 d2 g0 g1 g2; obtain ⟨⟨c0, c1, c2⟩, ⟨d0, d1, d2⟩, ⟨g0, g1, g2⟩, _⟩ := box2 hb3; have g0 := mark_alloc d0 g0; have g1 := mark_alloc d1 g1; have g2 := mark_alloc d2 g2; have d0 := cell_alloc d0; have d1 := cell_alloc d1; have d2 := cell_alloc d2))
          have hs2 := hb3.size
          simp at hs2
          have hfr2 : Frs (w.heap.size + 2) ao2 := fr2.mono (by have h := hb.size; simp at h; omega)
          rw [HE.out]
          refine bodyPost_ret (v := .tuple #[.agg #[.bool neg, .slice ao2 xs.length cap2, .int .i64 (ex + n)], .int .i64 0]) (by simp [results, Tryd.results31, go_sem, d0, d1, d2]) rfl ⟨ao2, cap2, rfl, ?_, hfr2.mono (by omega), ?_⟩
          · exact (((r2.alloc _).box hfr2 (by omega) _ _).box hfr2 (by omega) _ _).box hfr2 (by omega) _ _
          · have h4 := box2_old hb3
            exact (((h4.alloc h4.size _).setCell (by simp) _).setCell (by simp) _).setCell (by simp) _
end Go.Proofs.YtlkmmfmnggejlaaDoor

namespace Go.Proofs.YtlkmmfmnggejlaaDoor
open Go.RowKit

def negD (d : Dy) : Dy × Int := if rightB d then (trn d, 0) else (dy0, 2)
theorem sg_right {d : Dy} (hr : rightB d = true) : sgD d = sgI (sv d) := by
  unfold sgD
  rcases right_cases hr with h | ⟨h0, _, _, h3, _⟩
  · rw [h]; rfl
  · rw [if_neg h0]
    have hv := vl_ne_last h0 h3
    unfold sgI sv
    cases d.neg <;> simp <;> omega
set_option maxHeartbeats 2000000 in
theorem neg_any (d : Dy) (ao : Option Addr) (cap : Nat) (w : World) (hr : LRow w ao d.mag) (hL : Lm d.mag) :
    Calls Tryd.prog 60 #[.agg #[.bool d.neg, .slice ao d.mag.length cap, .int .i64 d.exp]] w (Gave w (negD d)) := by
  have hR := fun w' (h : LRow w' ao d.mag) => right_any d ao cap w' h hL
  cases hrt : rightB d <;> rw [hrt] at hR
  · have HE : Hid (negD d = (dy0, 2)) := (show _ = _ by unfold negD; rw [if_neg (by rw [hrt]; simp)])
    obtain ⟨neg, xs, ex⟩ := d
    simp only at *
    clear hrt
    go_enter Tryd.func60, Tryd.ntmps60
    go_wp2_with (go_at_call 33; refine (hR _ ((hr.alloc _).alloc _)).mono ?_; rintro e w1 ⟨rfl, hb⟩; obtain ⟨⟨c0, c1, c2⟩, ⟨d0, d1, d2⟩, ⟨g0, g1, g2⟩, _⟩ := box2 hb)
    rw [HE.out]
    exact bodyPost_ret (v := .tuple #[.agg #[.bool false, .slice none 0 0, .int .i64 0], .int .i64 2]) (by simp [results, Tryd.results60, go_sem, d0, d1, d2]) rfl ⟨none, 0, rfl, LRow.nil _ _, Frs.none _, box2_end hb _ _ _⟩
  · have HE : Hid (negD d = (trn d, 0)) := (show _ = _ by unfold negD; rw [if_pos hrt])
    have hx := right_exp hrt
    have hT := fun w' => turned_any d ao cap w'
    have hC := fun w' (h : LRow w' ao d.mag) => copied_any (trn d) ao cap w' h (by show d.mag.length ≤ _; omega)
    rw [HE.out]
    obtain ⟨tn, htn⟩ : ∃ tn, (trn d).neg = tn := ⟨_, rfl⟩
    have ht : trn d = ⟨tn, d.mag, d.exp⟩ := by rw [← htn]; rfl
    rw [ht] at hC ⊢
    rw [htn] at hT
    obtain ⟨neg, xs, ex⟩ := d
    simp only at *
    clear hrt HE htn ht
    go_enter Tryd.func60, Tryd.ntmps60
    go_wp2_with (first
      | (go_at_call 33; refine (hR _ ((hr.alloc _).alloc _)).mono ?_; rintro e w1 ⟨rfl, hb⟩; obtain ⟨⟨c0, c1, c2⟩, ⟨d0, d1, d2⟩, ⟨g0, g1, g2⟩, _⟩ := box2 hb)
      | (go_at_call 93; refine (hT _).mono ?_; rintro e w2 ⟨rfl, hb2⟩; have hb3 := hb.trans (hb2.mono hb.size))
      | (go_at_call 61; refine (hC _ (((hr.alloc _).alloc _).below hb3)).mono ?_; rintro e w3 ⟨ao3, cap3, rfl, r3, fr3, hb4⟩; have hb5 := hb3.trans (hb4.mono hb3.size); clear c0 c1 c2 d0 d1 d2 g0 g1 g2; obtain ⟨⟨c0, c1, c2⟩, ⟨d0, d1, d2⟩, ⟨g0, g1, g2⟩, _⟩ := box2 hb5))
    have hs := hb3.size
    simp at hs
    have hfr2 : Frs (w.heap.size + 2) ao3 := fr3.mono (by omega)
    refine bodyPost_ret (v := .tuple #[.agg #[.bool tn, .slice ao3 xs.length cap3, .int .i64 ex], .int .i64 0]) (by simp [results, Tryd.results60, go_sem, d0, d1, d2]) rfl ⟨ao3, cap3, rfl, ?_, hfr2.mono (by omega), box2_end hb5 _ _ _⟩
    exact ((r3.box hfr2 (by omega) _ _).box hfr2 (by omega) _ _).box hfr2 (by omega) _ _
theorem sign_all (d : Dy) (ao : Option Addr) (cap : Nat) (w : World) (hr : LRow w ao d.mag) (hL : Lm d.mag) :
    Calls Tryd.prog 59 #[.agg #[.bool d.neg, .slice ao d.mag.length cap, .int .i64 d.exp]] w fun e w' => e = .returned (.tuple #[.int .i64 (signD d).1, .int .i64 (signD d).2]) ∧ Below w.heap.size w w' := by
  obtain ⟨neg, xs, ex⟩ := d
  unfold signD
  cases hrt : rightB ⟨neg, xs, ex⟩
  · exact Sign_arg neg xs ex ao cap w hr hL hrt
  · have h := Sign_ok neg xs ex ao cap w hr hL hrt
    rw [sg_right hrt] at h
    exact h
end Go.Proofs.YtlkmmfmnggejlaaDoor
