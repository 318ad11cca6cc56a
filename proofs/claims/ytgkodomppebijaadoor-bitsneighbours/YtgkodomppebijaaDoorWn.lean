/- BitsNeighbours answers true, whatever two floats it is given (the library's table lying as its initialiser lays it). -/
import Derived.Test.YtgkodomppebijaaDoorGa
import Derived.Test.YtgkodomppebijaaDoorRl
import Derived.Deep.DeepCutAuto
namespace Go.Proofs.YtgkodomppebijaaDoor
open Go.RowKit

theorem tabW_drew {w : World} (h : TabW w) : TabW w.drew := fun j hj => h j hj
theorem bd {w V : World} (h : Below w.drew.heap.size w.drew V) : Below w.heap.size w V := ((Below.refl w.heap.size w).drew).trans h

theorem nextF_lt (a : Nat) (up : Bool) (ha : a < 18446744073709551616) : nextF a up < 18446744073709551616 := by
  unfold nextF; split
  · exact ha
  · exact atF_lt _
theorem ulpF_lt (a : Nat) : ulpF a < 18446744073709551616 := by
  unfold ulpF
  cases hf : finB a
  · simp
  · have hu := up_lt hf
    have := (pw_ok (e := (up (rung a) : Int) - 1074) (by omega) (by omega)).1
    simp only [if_true]; omega
theorem next_rung {a : Nat} (hf : finB a = true) : nextF (rung a) true = rung a + 1 := by
  have hr : rung a < 9218868437227405312 := by unfold finB at hf; simpa using hf
  unfold nextF
  rw [nan_small (by omega), place_small (by omega)]
  simp only [Bool.false_eq_true, if_false, if_true]
  rw [show min ((rung a : Int) + 1) 9218868437227405312 = ((rung a + 1 : Nat) : Int) by omega, ← at_pos (by omega)]
  omega
theorem far_fin {a : Nat} (hf : finB a = true) (h : rung a + 1 < 9218868437227405312) :
    finB (nextF (rung a) true) = true ∧ floatBits .sub .f64 (nextF (rung a) true) (rung a) = some (ulpF a) := by
  rw [next_rung hf]
  refine ⟨fin_of h, ?_⟩
  rw [sub_next h]
  unfold ulpF; rw [hf]; rfl
theorem far_inf {a : Nat} (hf : finB a = true) (h : ¬ rung a + 1 < 9218868437227405312) : finB (nextF (rung a) true) = false ∧ ulpF a = 8980177656976769024 := by
  have hr : rung a < 9218868437227405312 := by unfold finB at hf; simpa using hf
  have e : rung a = 9218868437227405311 := by omega
  rw [next_rung hf, e]
  refine ⟨by decide, ?_⟩
  unfold ulpF; rw [hf, e]; decide

set_option maxRecDepth 100000 in
set_option maxHeartbeats 1000000 in
theorem law_neigh_nan (a b : Nat) (ha : a < 18446744073709551616) (na : nanB a = true) (w : World) (hT : TabW w) :
    Calls Tryd.prog 8 #[.float .f64 a, .float .f64 b] w fun r w' => r = .returned (.bool true) ∧ Below w.heap.size w w' := by
  have h0 := ord_self a ha
  have h1 : ∀ u, nextF a u = a := fun u => by unfold nextF; rw [na]; rfl
  rw [na] at h0
  go_enter Tryd.func8, Tryd.ntmps8
  go_wp2_with (first | (go_at_call 16; refine (next_any _ _ (by assumption) _).mono ?_; rintro r w' ⟨rfl, rfl⟩) | (go_at_call 22; refine (awake_any _ (by assumption)).mono ?_; rintro r w1 ⟨rfl, hb1⟩))
  go_ret
  exact ⟨rfl, hb1⟩

set_option maxRecDepth 100000 in
set_option maxHeartbeats 2000000 in
theorem law_neigh (a b : Nat) (ha : a < 18446744073709551616) (hb : b < 18446744073709551616) (na : nanB a = false) (w : World) (hT : TabW w) :
    Calls Tryd.prog 8 #[.float .f64 a, .float .f64 b] w fun r w' => r = .returned (.bool true) ∧ Below w.heap.size w w' := by
  have h0 := ord_self a ha
  rw [na] at h0
  have HP : Hid (plc a = place a) := (show plc a = place a by unfold plc; rw [na]; rfl)
  go_enter Tryd.func8, Tryd.ntmps8
  go_upto_region 7 with (first | (go_at_call 16; refine (next_any _ _ (by assumption) _).mono ?_; rintro r w' ⟨rfl, rfl⟩) | (go_at_call 25; refine (place_any _ (by assumption) _).mono ?_; rintro r w' ⟨rfl, rfl⟩))
  go_cut [12, 71] (fun _ s wx => s = .bool false ∧ w' = wx)
  case first =>
    cases nb : nanB b
    · have hl : (FloatKind.f64.format.order a b == some .lt) = decide (plc a < plc b) := by rw [lt_num ha hb na nb, HP.out]; unfold plc; rw [nb]; rfl
      have he : (FloatKind.f64.format.order a b == some .eq) = (plc a == plc b) := by rw [eq_num ha hb na nb, HP.out]; unfold plc; rw [nb]; rfl
      go_wp2_with fail
      all_goals
        go_meet
        exact ⟨rfl, rfl⟩
    · go_wp2_with fail
      go_meet
      exact ⟨rfl, rfl⟩
  case rest =>
    obtain ⟨rfl, rfl⟩ := hcut
    obtain ⟨u1, u2, u3⟩ := next_up na
    obtain ⟨d1, d2, d3⟩ := next_dn na
    have hbd := place_nan na
    have i1 := inf_plus ha na
    have i2 := inf_minus ha na
    have hfp := fin_place (a := a)
    have hrl := rung_lt a
    have hrl2 : rung a < 18446744073709551616 := by omega
    have o00 : (FloatKind.f64.format.order 0 0 != some .eq) = false := by kernel_rfl
    by_cases c1 : place a = 9218868437227405312
    · rw [decide_eq_true (by omega)] at i1
      rw [decide_eq_false (by omega)] at i2
      rw [decide_eq_false (by omega)] at hfp
      have oua := ord_eq u3 ha u2 na (by omega)
      have oda := ord_lt d3 ha d2 na (by omega)
      have hul : ulpF a = 0 := by unfold ulpF; rw [hfp]; rfl
      clear u1 d1 hbd c1 HP hrl
      go_wp2_with (first | (go_at_call 16; refine (next_any _ _ (by assumption) _).mono ?_; rintro r w'' ⟨rfl, hww⟩; subst hww) | (go_at_call 12; refine (isinf_any _ _ (by omega) _).mono ?_; rintro r w'' ⟨rfl, hww⟩; subst hww) | (go_at_call 35; refine (lfin_yes _ (by assumption) (by assumption) _).mono ?_; rintro r w'' ⟨rfl, hww⟩; subst hww) | (go_at_call 35; refine (lfin_no _ (by assumption) (by assumption) _).mono ?_; rintro r w'' ⟨rfl, hww⟩; subst hww) | (go_at_call 14; refine (ulp_any _ (by assumption) _).mono ?_; rintro r w'' ⟨rfl, hww⟩; subst hww) | (go_at_call 37; refine (abs_any _ (by assumption) _).mono ?_; rintro r w'' ⟨rfl, hww⟩; subst hww) | (go_at_call 22; refine (awake_any _ ?_).mono ?_; rotate_left; rintro r w1 ⟨rfl, hb1⟩))
      · go_ret
        first | exact ⟨rfl, hb1⟩ | exact ⟨rfl, bd hb1⟩ | exact ⟨rfl, bd (bd hb1)⟩ | exact ⟨rfl, bd (bd (bd hb1))⟩ | exact ⟨rfl, bd (bd (bd (bd hb1)))⟩ | exact ⟨rfl, bd (bd (bd (bd (bd hb1))))⟩
      · first | exact hT | exact tabW_drew hT | exact tabW_drew (tabW_drew hT) | exact tabW_drew (tabW_drew (tabW_drew hT)) | exact tabW_drew (tabW_drew (tabW_drew (tabW_drew hT))) | exact tabW_drew (tabW_drew (tabW_drew (tabW_drew (tabW_drew hT))))
    · by_cases c2 : place a = -9218868437227405312
      · rw [decide_eq_false (by omega)] at i1
        rw [decide_eq_true (by omega)] at i2
        rw [decide_eq_false (by omega)] at hfp
        have oua := ord_gt u3 ha u2 na (by omega)
        have oda := ord_eq d3 ha d2 na (by omega)
        have hul : ulpF a = 0 := by unfold ulpF; rw [hfp]; rfl
        clear u1 d1 hbd c1 c2 HP hrl
        go_wp2_with (first | (go_at_call 16; refine (next_any _ _ (by assumption) _).mono ?_; rintro r w'' ⟨rfl, hww⟩; subst hww) | (go_at_call 12; refine (isinf_any _ _ (by omega) _).mono ?_; rintro r w'' ⟨rfl, hww⟩; subst hww) | (go_at_call 35; refine (lfin_yes _ (by assumption) (by assumption) _).mono ?_; rintro r w'' ⟨rfl, hww⟩; subst hww) | (go_at_call 35; refine (lfin_no _ (by assumption) (by assumption) _).mono ?_; rintro r w'' ⟨rfl, hww⟩; subst hww) | (go_at_call 14; refine (ulp_any _ (by assumption) _).mono ?_; rintro r w'' ⟨rfl, hww⟩; subst hww) | (go_at_call 37; refine (abs_any _ (by assumption) _).mono ?_; rintro r w'' ⟨rfl, hww⟩; subst hww) | (go_at_call 22; refine (awake_any _ ?_).mono ?_; rotate_left; rintro r w1 ⟨rfl, hb1⟩))
        · go_ret
          first | exact ⟨rfl, hb1⟩ | exact ⟨rfl, bd hb1⟩ | exact ⟨rfl, bd (bd hb1)⟩ | exact ⟨rfl, bd (bd (bd hb1))⟩ | exact ⟨rfl, bd (bd (bd (bd hb1)))⟩ | exact ⟨rfl, bd (bd (bd (bd (bd hb1))))⟩
        · first | exact hT | exact tabW_drew hT | exact tabW_drew (tabW_drew hT) | exact tabW_drew (tabW_drew (tabW_drew hT)) | exact tabW_drew (tabW_drew (tabW_drew (tabW_drew hT))) | exact tabW_drew (tabW_drew (tabW_drew (tabW_drew (tabW_drew hT))))
      · rw [decide_eq_false (by omega)] at i1
        rw [decide_eq_false (by omega)] at i2
        rw [decide_eq_true (by omega)] at hfp
        have oua := ord_gt u3 ha u2 na (by omega)
        have oda := ord_lt d3 ha d2 na (by omega)
        obtain ⟨ud1, ud2, ud3⟩ := next_dn u2
        obtain ⟨du1, du2, du3⟩ := next_up d2
        have ouda := ord_eq ud3 ha ud2 na (by omega)
        have odua := ord_eq du3 ha du2 na (by omega)
        have h0u := ord_self _ u3
        rw [u2] at h0u
        have lf := nextF_lt (rung a) true hrl2
        have luf := ulpF_lt a
        have hsz := fin_place (a := nextF a true)
        have hra : rung a + 1 < 9218868437227405312 ∨ ¬ rung a + 1 < 9218868437227405312 := by omega
        have hpr : place a = (rung a : Int) ∨ place a = -(rung a : Int) := by unfold place; cases sgn a <;> simp
        by_cases c3 : place a = 9218868437227405311
        · rw [decide_eq_false (by omega)] at hsz
          obtain ⟨ff1, ff2⟩ := far_inf hfp (by omega)
          have ou : (FloatKind.f64.format.order 8980177656976769024 8980177656976769024 == some .eq) = true := by kernel_rfl
          clear u1 d1 hbd c1 c2 c3 HP hrl hra hpr ud1 du1
          go_wp2_with (first | (go_at_call 16; refine (next_any _ _ (by assumption) _).mono ?_; rintro r w'' ⟨rfl, hww⟩; subst hww) | (go_at_call 12; refine (isinf_any _ _ (by omega) _).mono ?_; rintro r w'' ⟨rfl, hww⟩; subst hww) | (go_at_call 35; refine (lfin_yes _ (by assumption) (by assumption) _).mono ?_; rintro r w'' ⟨rfl, hww⟩; subst hww) | (go_at_call 35; refine (lfin_no _ (by assumption) (by assumption) _).mono ?_; rintro r w'' ⟨rfl, hww⟩; subst hww) | (go_at_call 14; refine (ulp_any _ (by assumption) _).mono ?_; rintro r w'' ⟨rfl, hww⟩; subst hww) | (go_at_call 37; refine (abs_any _ (by assumption) _).mono ?_; rintro r w'' ⟨rfl, hww⟩; subst hww) | (go_at_call 22; refine (awake_any _ ?_).mono ?_; rotate_left; rintro r w1 ⟨rfl, hb1⟩))
          · go_ret
            first | exact ⟨rfl, hb1⟩ | exact ⟨rfl, bd hb1⟩ | exact ⟨rfl, bd (bd hb1)⟩ | exact ⟨rfl, bd (bd (bd hb1))⟩ | exact ⟨rfl, bd (bd (bd (bd hb1)))⟩
          · first | exact hT | exact tabW_drew hT | exact tabW_drew (tabW_drew hT) | exact tabW_drew (tabW_drew (tabW_drew hT)) | exact tabW_drew (tabW_drew (tabW_drew (tabW_drew hT)))
        · rw [decide_eq_true (by omega)] at hsz
          obtain ⟨h1, h2, m, e1, e2, e3, hm⟩ := mid_all ha hfp hsz
          have q1 := fun w => run_float_arith (P := Tryd.prog) w .quo 22 .f64 _ _ _ e1
          have q2 := fun w => run_float_arith (P := Tryd.prog) w .quo 22 .f64 _ _ _ e2
          have q3 := fun w => run_float_arith (P := Tryd.prog) w .add 22 .f64 _ _ _ e3
          have HM : Hid (103582791429521408 ≤ rung a → m = a ∨ m = nextF a true) := hm
          have HR : Hid (rung a + 1 < 9218868437227405312 ∨ ¬ rung a + 1 < 9218868437227405312) := hra
          clear u1 d1 hbd c1 c2 c3 HP hra hpr ud1 du1 e1 e2 e3 hm
          go_upto_region 13 with (first | (go_at_call 16; refine (next_any _ _ (by assumption) _).mono ?_; rintro r w'' ⟨rfl, hww⟩; subst hww) | (go_at_call 12; refine (isinf_any _ _ (by omega) _).mono ?_; rintro r w'' ⟨rfl, hww⟩; subst hww) | (go_at_call 35; refine (lfin_yes _ (by assumption) (by assumption) _).mono ?_; rintro r w'' ⟨rfl, hww⟩; subst hww) | (go_at_call 35; refine (lfin_no _ (by assumption) (by assumption) _).mono ?_; rintro r w'' ⟨rfl, hww⟩; subst hww) | (go_at_call 14; refine (ulp_any _ (by assumption) _).mono ?_; rintro r w'' ⟨rfl, hww⟩; subst hww) | (go_at_call 37; refine (abs_any _ (by assumption) _).mono ?_; rintro r w'' ⟨rfl, hww⟩; subst hww) | (go_at_call 22; refine (awake_any _ ?_).mono ?_; rotate_left; rintro r w1 ⟨rfl, hb1⟩))
          go_cut [141] (fun s wx => s = .bool false ∧ w'' = wx)
          case first =>
            by_cases hbig : 103582791429521408 ≤ rung a
            · rcases HM.out hbig with rfl | rfl
              · go_wp2_with (first | (go_at_call 16; refine (next_any _ _ (by assumption) _).mono ?_; rintro r w'' ⟨rfl, hww⟩; subst hww) | (go_at_call 12; refine (isinf_any _ _ (by omega) _).mono ?_; rintro r w'' ⟨rfl, hww⟩; subst hww) | (go_at_call 35; refine (lfin_yes _ (by assumption) (by assumption) _).mono ?_; rintro r w'' ⟨rfl, hww⟩; subst hww) | (go_at_call 35; refine (lfin_no _ (by assumption) (by assumption) _).mono ?_; rintro r w'' ⟨rfl, hww⟩; subst hww) | (go_at_call 14; refine (ulp_any _ (by assumption) _).mono ?_; rintro r w'' ⟨rfl, hww⟩; subst hww) | (go_at_call 37; refine (abs_any _ (by assumption) _).mono ?_; rintro r w'' ⟨rfl, hww⟩; subst hww) | (go_at_call 22; refine (awake_any _ ?_).mono ?_; rotate_left; rintro r w1 ⟨rfl, hb1⟩))
                go_meet
                exact ⟨rfl, rfl⟩
              · go_wp2_with (first | (go_at_call 16; refine (next_any _ _ (by assumption) _).mono ?_; rintro r w'' ⟨rfl, hww⟩; subst hww) | (go_at_call 12; refine (isinf_any _ _ (by omega) _).mono ?_; rintro r w'' ⟨rfl, hww⟩; subst hww) | (go_at_call 35; refine (lfin_yes _ (by assumption) (by assumption) _).mono ?_; rintro r w'' ⟨rfl, hww⟩; subst hww) | (go_at_call 35; refine (lfin_no _ (by assumption) (by assumption) _).mono ?_; rintro r w'' ⟨rfl, hww⟩; subst hww) | (go_at_call 14; refine (ulp_any _ (by assumption) _).mono ?_; rintro r w'' ⟨rfl, hww⟩; subst hww) | (go_at_call 37; refine (abs_any _ (by assumption) _).mono ?_; rintro r w'' ⟨rfl, hww⟩; subst hww) | (go_at_call 22; refine (awake_any _ ?_).mono ?_; rotate_left; rintro r w1 ⟨rfl, hb1⟩))
                go_meet
                exact ⟨rfl, rfl⟩
            · have hsm : (FloatKind.f64.format.order (rung a) 103582791429521408 == some .gt || FloatKind.f64.format.order (rung a) 103582791429521408 == some .eq) = false := by
                rw [gt_num hrl2 (by omega) (by rw [nan_rung]; exact na) (nan_small (by omega)), eq_num hrl2 (by omega) (by rw [nan_rung]; exact na) (nan_small (by omega)), place_small hrl, place_small (by omega)]
                simp; omega
              clear hbig
              go_wp2_with (first | (go_at_call 16; refine (next_any _ _ (by assumption) _).mono ?_; rintro r w'' ⟨rfl, hww⟩; subst hww) | (go_at_call 12; refine (isinf_any _ _ (by omega) _).mono ?_; rintro r w'' ⟨rfl, hww⟩; subst hww) | (go_at_call 35; refine (lfin_yes _ (by assumption) (by assumption) _).mono ?_; rintro r w'' ⟨rfl, hww⟩; subst hww) | (go_at_call 35; refine (lfin_no _ (by assumption) (by assumption) _).mono ?_; rintro r w'' ⟨rfl, hww⟩; subst hww) | (go_at_call 14; refine (ulp_any _ (by assumption) _).mono ?_; rintro r w'' ⟨rfl, hww⟩; subst hww) | (go_at_call 37; refine (abs_any _ (by assumption) _).mono ?_; rintro r w'' ⟨rfl, hww⟩; subst hww) | (go_at_call 22; refine (awake_any _ ?_).mono ?_; rotate_left; rintro r w1 ⟨rfl, hb1⟩))
              all_goals
                go_meet
                exact ⟨rfl, rfl⟩
          case rest =>
            obtain ⟨rfl, rfl⟩ := hcut
            clear q1 q2 q3 HM
            rcases HR.out with hf | hf
            · obtain ⟨ff1, ff2⟩ := far_fin hfp hf
              have q4 := fun w => run_float_arith (P := Tryd.prog) w .sub 22 .f64 _ _ _ ff2
              have nu : nanB (ulpF a) = false := by
                unfold ulpF; rw [hfp]; simp only [if_true]
                have hu := up_lt hfp
                exact nan_small (Nat.le_of_lt (pw_ok (e := (up (rung a) : Int) - 1074) (by omega) (by omega)).1)
              have ou := ord_eq luf luf nu nu rfl
              clear hf HR ff2 nu
              go_wp2_with (first | (go_at_call 16; refine (next_any _ _ (by assumption) _).mono ?_; rintro r w'' ⟨rfl, hww⟩; subst hww) | (go_at_call 12; refine (isinf_any _ _ (by omega) _).mono ?_; rintro r w'' ⟨rfl, hww⟩; subst hww) | (go_at_call 35; refine (lfin_yes _ (by assumption) (by assumption) _).mono ?_; rintro r w'' ⟨rfl, hww⟩; subst hww) | (go_at_call 35; refine (lfin_no _ (by assumption) (by assumption) _).mono ?_; rintro r w'' ⟨rfl, hww⟩; subst hww) | (go_at_call 14; refine (ulp_any _ (by assumption) _).mono ?_; rintro r w'' ⟨rfl, hww⟩; subst hww) | (go_at_call 37; refine (abs_any _ (by assumption) _).mono ?_; rintro r w'' ⟨rfl, hww⟩; subst hww) | (go_at_call 22; refine (awake_any _ ?_).mono ?_; rotate_left; rintro r w1 ⟨rfl, hb1⟩))
              · go_ret
                first | exact ⟨rfl, hb1⟩ | exact ⟨rfl, bd hb1⟩ | exact ⟨rfl, bd (bd hb1)⟩
              · first | exact hT | exact tabW_drew hT | exact tabW_drew (tabW_drew hT)
            · obtain ⟨ff1, ff2⟩ := far_inf hfp hf
              have ou : (FloatKind.f64.format.order 8980177656976769024 8980177656976769024 == some .eq) = true := by kernel_rfl
              clear hf HR
              go_wp2_with (first | (go_at_call 16; refine (next_any _ _ (by assumption) _).mono ?_; rintro r w'' ⟨rfl, hww⟩; subst hww) | (go_at_call 12; refine (isinf_any _ _ (by omega) _).mono ?_; rintro r w'' ⟨rfl, hww⟩; subst hww) | (go_at_call 35; refine (lfin_yes _ (by assumption) (by assumption) _).mono ?_; rintro r w'' ⟨rfl, hww⟩; subst hww) | (go_at_call 35; refine (lfin_no _ (by assumption) (by assumption) _).mono ?_; rintro r w'' ⟨rfl, hww⟩; subst hww) | (go_at_call 14; refine (ulp_any _ (by assumption) _).mono ?_; rintro r w'' ⟨rfl, hww⟩; subst hww) | (go_at_call 37; refine (abs_any _ (by assumption) _).mono ?_; rintro r w'' ⟨rfl, hww⟩; subst hww) | (go_at_call 22; refine (awake_any _ ?_).mono ?_; rotate_left; rintro r w1 ⟨rfl, hb1⟩))
              · go_ret
                first | exact ⟨rfl, hb1⟩ | exact ⟨rfl, bd hb1⟩ | exact ⟨rfl, bd (bd hb1)⟩ | exact ⟨rfl, bd (bd (bd hb1))⟩ | exact ⟨rfl, bd (bd (bd (bd hb1)))⟩
              · first | exact hT | exact tabW_drew hT | exact tabW_drew (tabW_drew hT) | exact tabW_drew (tabW_drew (tabW_drew hT)) | exact tabW_drew (tabW_drew (tabW_drew (tabW_drew hT)))
end Go.Proofs.YtgkodomppebijaaDoor
