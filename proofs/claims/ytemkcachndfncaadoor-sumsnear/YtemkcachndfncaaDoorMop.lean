/- What the program's Neg and Sign answer of any dyad. -/
import Derived.Test.YtemkcachndfncaaDoorEl
import Derived.Test.YtemkcachndfncaaDoorZe
namespace Go.Proofs.YtemkcachndfncaaDoor
open Go.RowKit

def negD (d : Dy) : Dy × Int := if rightB d then (trn d, 0) else (dy0, 2)
theorem sg_right {d : Dy} (hr : rightB d = true) : sgD d = sgI (sv d) := by
  unfold sgD
  rcases right_cases hr with h | ⟨h0, _, _, h3, _⟩
  · rw [h]; rfl
  · rw [if_neg h0]
    have hv := vl_ne_last h0 h3
    unfold sgI sv
    cases d.neg <;> simp <;> omega
set_option maxHeartbeats 2000000 in
theorem neg_any (d : Dy) (ao : Option Addr) (cap : Nat) (w : World) (hr : LRow w ao d.mag) (hL : Lm d.mag) :
    Calls Tryd.prog 60 #[.agg #[.bool d.neg, .slice ao d.mag.length cap, .int .i64 d.exp]] w (Gave w (negD d)) := by
  have hR := fun w' (h : LRow w' ao d.mag) => right_any d ao cap w' h hL
  cases hrt : rightB d <;> rw [hrt] at hR
  · have HE : Hid (negD d = (dy0, 2)) := (show _ = _ by unfold negD; rw [if_neg (by rw [hrt]; simp)])
    obtain ⟨neg, xs, ex⟩ := d
    simp only at *
    clear hrt
    go_enter Tryd.func60, Tryd.ntmps60
    go_wp2_with (go_at_call 33; refine (hR _ ((hr.alloc _).alloc _)).mono ?_; rintro e w1 ⟨rfl, hb⟩; obtain ⟨⟨c0, c1, c2⟩, ⟨d0, d1, d2⟩, ⟨g0, g1, g2⟩, _⟩ := box2 hb)
    rw [HE.out]
    exact bodyPost_ret (v := .tuple #[.agg #[.bool false, .slice none 0 0, .int .i64 0], .int .i64 2]) (by simp [results, Tryd.results60, go_sem, d0, d1, d2]) rfl ⟨none, 0, rfl, LRow.nil _ _, Frs.none _, box2_end hb _ _ _⟩
  · have HE : Hid (negD d = (trn d, 0)) := (show _ = _ by unfold negD; rw [if_pos hrt])
    have hx := right_exp hrt
    have hT := fun w' => turned_any d ao cap w'
    have hC := fun w' (h : LRow w' ao d.mag) => copied_any (trn d) ao cap w' h (by show d.mag.length ≤ _; omega)
    rw [HE.out]
    obtain ⟨tn, htn⟩ : ∃ tn, (trn d).neg = tn := ⟨_, rfl⟩
    have ht : trn d = ⟨tn, d.mag, d.exp⟩ := by rw [← htn]; rfl
    rw [ht] at hC ⊢
    rw [htn] at hT
    obtain ⟨neg, xs, ex⟩ := d
    simp only at *
    clear hrt HE htn ht
    go_enter Tryd.func60, Tryd.ntmps60
    go_wp2_with (first
      | (go_at_call 33; refine (hR _ ((hr.alloc _).alloc _)).mono ?_; rintro e w1 ⟨rfl, hb⟩; obtain ⟨⟨c0, c1, c2⟩, ⟨d0, d1, d2⟩, ⟨g0, g1, g2⟩, _⟩ := box2 hb)
      | (go_at_call 93; refine (hT _).mono ?_; rintro e w2 ⟨rfl, hb2⟩; have hb3 := hb.trans (hb2.mono hb.size))
      | (go_at_call 61; refine (hC _ (((hr.alloc _).alloc _).below hb3)).mono ?_; rintro e w3 ⟨ao3, cap3, rfl, r3, fr3, hb4⟩; have hb5 := hb3.trans (hb4.mono hb3.size); clear c0 c1 c2 d0 d1 d2 g0 g1 g2; obtain ⟨⟨c0, c1, c2⟩, ⟨d0, d1, d2⟩, ⟨g0, g1, g2⟩, _⟩ := box2 hb5))
    have hs := hb3.size
    simp at hs
    have hfr2 : Frs (w.heap.size + 2) ao3 := fr3.mono (by omega)
    refine bodyPost_ret (v := .tuple #[.agg #[.bool tn, .slice ao3 xs.length cap3, .int .i64 ex], .int .i64 0]) (by simp [results, Tryd.results60, go_sem, d0, d1, d2]) rfl ⟨ao3, cap3, rfl, ?_, hfr2.mono (by omega), box2_end hb5 _ _ _⟩
    exact ((r3.box hfr2 (by omega) _ _).box hfr2 (by omega) _ _).box hfr2 (by omega) _ _
theorem sign_all (d : Dy) (ao : Option Addr) (cap : Nat) (w : World) (hr : LRow w ao d.mag) (hL : Lm d.mag) :
    Calls Tryd.prog 59 #[.agg #[.bool d.neg, .slice ao d.mag.length cap, .int .i64 d.exp]] w fun e w' => e = .returned (.tuple #[.int .i64 (signD d).1, .int .i64 (signD d).2]) ∧ Below w.heap.size w w' := by
  obtain ⟨neg, xs, ex⟩ := d
  unfold signD
  cases hrt : rightB ⟨neg, xs, ex⟩
  · exact Sign_arg neg xs ex ao cap w hr hL hrt
  · have h := Sign_ok neg xs ex ao cap w hr hL hrt
    rw [sg_right hrt] at h
    exact h
end Go.Proofs.YtemkcachndfncaaDoor
