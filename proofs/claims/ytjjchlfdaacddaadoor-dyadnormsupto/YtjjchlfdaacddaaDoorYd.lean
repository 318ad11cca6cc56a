/- DyadRounds, whatever dyad and way it is given: the walk (the library's table lying as its initialiser lays it). -/
import Derived.Test.YtjjchlfdaacddaaDoorZy
import Derived.Test.YtjjchlfdaacddaaDoorMe
namespace Go.Proofs.YtjjchlfdaacddaaDoor
open Go.RowKit

set_option maxHeartbeats 400000 in
theorem rounded_none (neg : Bool) (ex : Int) (ao : Option Addr) (cap : Nat) (m : Int) (w : World) (hr : NS w ao cap (lo 0)) :
    Calls Tryd.prog 50 #[.agg #[.bool neg, .slice ao (lo 0).length cap, .int .i64 ex], .int .i8 m] w fun e w' => e = .returned (.float .f64 0) ∧ Below w.heap.size w w' := by
  have hZ := fun W (h : NS W ao cap (lo 0)) => zero_any ⟨neg, lo 0, ex⟩ ao cap W h (lo_lm _) (by simp only; rw [lo_zero]; simp)
  simp only [vl_lo] at hZ
  have hz : ((0 : Nat) == 0) = true := rfl
  simp only [hz] at hZ
  go_enter Tryd.func50, Tryd.ntmps50
  go_wp2_with (go_at_call 81; refine (hZ _ (hr.below ((Below.refl _ _).alloc (Nat.le_refl _) _))).mono ?_; rintro e w1 ⟨rfl, b1⟩)
  go_ret
  exact ⟨rfl, (one_box b1).2⟩
/-- What Round answers, of any dyad. -/
def rndA (d : Dy) (m : Int) : Nat × Int := if rightB d then (rndW d m, 0) else (0, 2)
theorem rndA_lt (d : Dy) (m : Int) : (rndA d m).1 < 18446744073709551616 := by
  unfold rndA
  split
  · rename_i h
    unfold rndW
    split
    · simp
    · rename_i h0
      have := rSz_lt (vl d.mag) d.exp (szm d.neg m) (right_ne h h0).1
      simp only
      split <;> omega
  · simp
theorem round_all (d : Dy) (ao : Option Addr) (cap : Nat) (m : Int) (w : World) (hr : LRow w ao d.mag) (hL : Lm d.mag) :
    Calls Tryd.prog 37 #[.agg #[.bool d.neg, .slice ao d.mag.length cap, .int .i64 d.exp], .int .i8 m] w fun e w' => e = .returned (.tuple #[.float .f64 (rndA d m).1, .int .i64 (rndA d m).2]) ∧ Below w.heap.size w w' := by
  unfold rndA
  cases h : rightB d
  · exact Round_arg d.neg d.mag d.exp ao cap m w hr hL h
  · exact Round_ok d.neg d.mag d.exp ao cap m w hr hL h
theorem low_odd {xs : List Nat} : vl xs % 2 = xs.getD 0 0 % 2 := by
  cases xs with
  | nil => simp [vl]
  | cons x r => simp [vl]; omega
set_option maxHeartbeats 1000000 in
set_option maxRecDepth 100000 in
theorem dround_any (d : Dy) (ao : Option Addr) (cap : Nat) (m : Int) (w : World) (hr : NS w ao cap d.mag) (hL : Lm d.mag) :
    Calls Tryd.prog 38 #[.agg #[.bool d.neg, .slice ao d.mag.length cap, .int .i64 d.exp], .int .i8 m] w fun e w' => e = .returned (.tuple #[.float .f64 (rndA d m).1, .int .i64 (rndA d m).2]) ∧ Below w.heap.size w w' := by
  have hR := fun W (h : LRow W ao d.mag) => dright_any d ao cap W h hL
  unfold rndA
  cases hrt : rightB d
  · rw [hrt] at hR
    obtain ⟨neg, xs, ex⟩ := d
    simp only at *
    go_enter Tryd.func38, Tryd.ntmps38
    go_wp2_with (go_at_call 16; refine (hR _ (hr.1.alloc _)).mono ?_; rintro e w1 ⟨rfl, b1⟩)
    go_ret2
    exact ⟨rfl, (one_box b1).2⟩
  · rw [hrt] at hR
    have hD := fun W (h : NS W ao cap d.mag) => ddyad_any d ao cap W h hL (by have := (right_exp hrt).2.2; omega)
    have hQ : ∀ W p q, NS W p q (lo (vl d.mag)) → Calls Tryd.prog 50 #[.agg #[.bool d.neg, .slice p (lo (vl d.mag)).length q, .int .i64 d.exp], .int .i8 m] W fun e w' => e = .returned (.float .f64 (rndW d m)) ∧ Below W.heap.size W w' := fun W p q h => by
      by_cases h0 : d.mag.length = 0
      · have e0 : d.mag = [] := List.eq_nil_of_length_eq_zero h0
        have e1 : rndW d m = 0 := by unfold rndW; rw [if_pos h0]
        rw [e1]
        rw [e0] at h ⊢
        exact rounded_none d.neg d.exp p q m W h
      · obtain ⟨v0, hod⟩ := right_ne hrt h0
        have x := right_exp hrt
        have e1 : rndW d m = sw d.neg (rSz (vl d.mag) d.exp (szm d.neg m)) := by unfold rndW sw; rw [if_neg h0]
        rw [e1]
        have := rounded_odd d.neg (lo (vl d.mag)) d.exp p q m W h (lo_lm _) (by have := lo_len hL; omega) x.1 x.2.1 (by rw [vl_lo, low_odd]; exact hod)
        rwa [vl_lo] at this
    obtain ⟨neg, xs, ex⟩ := d
    simp only at *
    go_enter Tryd.func38, Tryd.ntmps38
    go_wp2_with (first | (go_at_call 16; refine (hR _ (hr.1.alloc _)).mono ?_; rintro e w1 ⟨rfl, b1⟩; obtain ⟨⟨c0, c1, c2⟩, ho1⟩ := one_box b1) | (go_at_call 51; refine (hD _ (hr.below ho1)).mono ?_; rintro e w2 ⟨p, q, rfl, h2, f2, b2⟩) | (go_at_call 50; refine (hQ _ _ _ h2).mono ?_; rintro e w3 ⟨rfl, b3⟩))
    go_ret2
    have B2 := ho1.trans (b2.mono ho1.size)
    exact ⟨rfl, B2.trans (b3.mono B2.size)⟩
set_option maxHeartbeats 4000000 in
set_option maxRecDepth 100000 in
theorem rounds_law (d : Dy) (m : Int) (ao : Option Addr) (cap : Nat) (w : World) (hr : NS w ao cap d.mag) (hL : Lm d.mag) (hn : d.mag.length ≤ 17592186044416) (hT : TabW w) :
    Calls Tryd.prog 7 #[.agg #[.bool d.neg, .slice ao d.mag.length cap, .int .i64 d.exp], .int .i8 m] w fun e w' => e = .returned (.bool true) ∧ Below w.heap.size w w' := by
  have hS := fun o c w' (h : LRow w' o d.mag) => round_all d o c m w' h hL
  have hD := fun w' (h : NS w' ao cap d.mag) => dround_any d ao cap m w' h hL
  have hrl := rndA_lt d m
  obtain ⟨⟨r, rk⟩, hrr⟩ : ∃ r, rndA d m = r := ⟨_, rfl⟩
  rw [hrr] at hS hD hrl
  simp only at hrl hS hD
  have hsf := fun W => samef_any r r hrl hrl W
  rw [same_refl] at hsf
  clear hrr
  go_enter Tryd.func7, Tryd.ntmps7
  go_upto_region 3 with (go_at_call 8; refine (awake_any _ (tabW_alloc hT _)).mono ?_; rintro e w1 ⟨rfl, hb1⟩)
  obtain ⟨⟨c0, c1, c2⟩, ho1⟩ := one_box hb1
  have Hq : Hd w1 w.heap.size d ao cap := ⟨c0, c1, c2, hr.1.below ho1⟩
  clear hb1 c0 c1 c2
  go_cut [12, 13, 5] (fun _ _ s5 wx => ∃ P g, s5 = .pointer (some ⟨P, 0, none⟩) ∧ Hd wx P d (some ⟨g, 0, none⟩) (d.mag.length + 12) ∧ Lent wx g d.mag ∧ Hd wx w.heap.size d ao cap ∧ Below w.heap.size w wx)
  case first =>
    as_aux_lemma =>
      have hLd := lentDyad_any d ao cap w1 Hq.row hr.2.1 hn
      obtain ⟨a0, a1, a2, ar⟩ := id Hq
      go_wp2_with (go_at_call 9; refine hLd.mono ?_; rintro e w2 ⟨g, rfl, hl, hg, hb⟩)
      go_meet
      have hb' := hb.alloc hb.size (.cells #[.bool d.neg, .slice (some ⟨g, 0, none⟩) d.mag.length (d.mag.length + 12), .int .i64 d.exp] 24)
      exact ⟨_, g, rfl, Hd.new hl.lrow, hl.alloc _, Hq.below hb', ho1.trans (hb'.mono ho1.size)⟩
  clear Hq ho1
  obtain ⟨P, g, rfl, Hp, hl, Hq, hB⟩ := hcut
  obtain ⟨wq, hwq⟩ : ∃ wq, wq = wc := ⟨_, rfl⟩
  subst hwq
  go_upto_region 4 with fail
  go_cut [15, 16, 17, 14, 18, 19, 6, 7] (fun _ _ _ _ _ _ s6 s7 wx => s6 = .float .f64 r ∧ s7 = .int .i64 rk ∧ Hd wx P d (some ⟨g, 0, none⟩) (d.mag.length + 12) ∧ Lent wx g d.mag ∧ Hd wx w.heap.size d ao cap ∧ Below w.heap.size w wx)
  case first =>
    as_aux_lemma =>
      have hc := hS _ (d.mag.length + 12) wq Hp.row
      obtain ⟨a0, a1, a2, ar⟩ := id Hp
      go_wp2_with (go_at_call 37; refine hc.mono ?_; rintro e w2 ⟨rfl, hb⟩)
      go_meet
      exact ⟨rfl, rfl, Hp.below hb, hl.below hb, Hq.below hb, hB.trans (hb.mono hB.size)⟩
  clear Hp hl Hq hB
  obtain ⟨rfl, rfl, Hp, hl, Hq, hB⟩ := hcut
  obtain ⟨wq, hwq⟩ : ∃ wq, wq = wc := ⟨_, rfl⟩
  subst hwq
  go_upto_region 5 with fail
  go_cut [21, 22, 23, 20, 24, 25, 8, 9] (fun _ _ _ _ _ _ s6 s7 wx => s6 = .float .f64 r ∧ s7 = .int .i64 rk ∧ Hd wx P d (some ⟨g, 0, none⟩) (d.mag.length + 12) ∧ Lent wx g d.mag ∧ Hd wx w.heap.size d ao cap ∧ Below w.heap.size w wx)
  case first =>
    as_aux_lemma =>
      have hc := hD wq ⟨Hq.row, hr.2⟩
      obtain ⟨a0, a1, a2, ar⟩ := id Hq
      go_wp2_with (go_at_call 38; refine hc.mono ?_; rintro e w2 ⟨rfl, hb⟩)
      go_meet
      exact ⟨rfl, rfl, Hp.below hb, hl.below hb, Hq.below hb, hB.trans (hb.mono hB.size)⟩
  clear Hp hl Hq hB
  obtain ⟨rfl, rfl, Hp, hl, Hq, hB⟩ := hcut
  obtain ⟨wq, hwq⟩ : ∃ wq, wq = wc := ⟨_, rfl⟩
  subst hwq
  have hk : (rk == rk) = true := by simp
  have hc := keptDyad_any d ao cap g wq Hq.row hl hn
  obtain ⟨a0, a1, a2, ar⟩ := id Hp
  obtain ⟨b0, b1, b2, br⟩ := id Hq
  go_wp2_with (first | (go_at_call 13; refine hc.mono ?_; rintro e w2 ⟨rfl, hb⟩) | (go_at_call 39; refine (hsf _).mono ?_; rintro e w3 ⟨rfl, rfl⟩))
  go_ret
  exact ⟨rfl, hB.trans (hb.mono hB.size)⟩
end Go.Proofs.YtjjchlfdaacddaaDoor
