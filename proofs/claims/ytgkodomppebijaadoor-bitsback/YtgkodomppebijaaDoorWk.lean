/- BitsBack answers true, whatever float, place and parts it is given (the library's table lying as its initialiser lays it). -/
import Derived.Test.YtgkodomppebijaaDoorFb
import Derived.Test.YtgkodomppebijaaDoorRn
import Derived.Deep.DeepCutAuto
import Derived.Deep.QuietTactic
import Derived.BigQuiet
namespace Go.Proofs.YtgkodomppebijaaDoor
open Go.RowKit

theorem tabW_drew {w : World} (h : TabW w) : TabW w.drew := fun j hj => h j hj
theorem bd {w V : World} (h : Below w.drew.heap.size w.drew V) : Below w.heap.size w V := ((Below.refl w.heap.size w).drew).trans h
theorem plc_at {a : Nat} : -9218868437227405312 ≤ plc a ∧ plc a ≤ 9218868437227405312 := by
  unfold plc
  cases na : nanB a
  · exact place_nan na
  · simp
theorem nan_zero : nanB 0 = false := by decide
theorem place_zero : place 0 = 0 := by decide

set_option maxRecDepth 100000 in
set_option maxHeartbeats 6000000 in
theorem law_back (a : Nat) (pl : Int) (n : Bool) (f : Nat) (e : Int) (ha : a < 18446744073709551616) (hp1 : -9223372036854775808 ≤ pl) (hp2 : pl ≤ 9223372036854775807) (hf : f < 18446744073709551616) (w : World) (hT : TabW w) :
    Calls Tryd.prog 7 #[.float .f64 a, .int .i64 pl, .agg #[.bool n, .int .u64 f, .int .i64 e]] w fun r w' => r = .returned (.bool true) ∧ Below w.heap.size w w' := by
  have hpb := plc_at (a := a)
  have hab : atB (plc a) = true := atB_in hpb
  have laf := atF_lt (plc a)
  have lap := atF_lt pl
  have s0 := same_refl 0
  have saa := same_refl a
  go_enter Tryd.func7, Tryd.ntmps7
  go_upto_region 3 with (first | (go_at_call 25; refine (place_any _ (by assumption) _).mono ?_; rintro r w' ⟨rfl, hww⟩; subst hww) | (go_at_call 10; refine (at_any _ (by omega) (by omega) _).mono ?_; rintro r w' ⟨rfl, hww⟩; subst hww))
  go_cut [7, 8, 9, 10, 70] (fun _ _ _ _ s wx => s = .bool false ∧ w.alloc (.cells #[.bool n, .int .u64 f, .int .i64 e] 29) = wx)
  case first =>
    as_aux_lemma =>
      cases na : nanB a
      · have oaa := ord_eq ha ha na na rfl
        have hpl : plc a = place a := by unfold plc; rw [na]; rfl
        by_cases hz : place a = 0
        · have oa0 := ord_eq ha (show 0 < 18446744073709551616 by omega) na nan_zero (by rw [place_zero]; exact hz)
          have hat : atF (plc a) = 0 := by rw [hpl, hz]; decide
          clear hpl hz hpb
          go_wp2_with (first | (go_at_call 13; refine (samef_any _ _ (by first | assumption | omega) (by first | assumption | omega) _).mono ?_; rintro r w' ⟨rfl, hww⟩; subst hww))
          go_meet
          exact ⟨rfl, rfl⟩
        · have hne : FloatKind.f64.format.order a 0 = some .lt ∨ FloatKind.f64.format.order a 0 = some .gt := by
            rcases (show place a < 0 ∨ 0 < place a by omega) with h | h
            · left; exact ord_lt ha (show 0 < 18446744073709551616 by omega) na nan_zero (by rw [place_zero]; exact h)
            · right; exact ord_gt ha (show 0 < 18446744073709551616 by omega) na nan_zero (by rw [place_zero]; exact h)
          have hat : atF (plc a) = a := by rw [hpl]; exact at_place ha na hz
          clear hpl hz hpb
          rcases hne with oa0 | oa0
          all_goals
            go_wp2_with (first | (go_at_call 13; refine (samef_any _ _ (by first | assumption | omega) (by first | assumption | omega) _).mono ?_; rintro r w' ⟨rfl, hww⟩; subst hww))
            go_meet
            exact ⟨rfl, rfl⟩
      · have oaa := ord_nan ha ha (Or.inl na)
        clear hpb
        go_wp2_with fail
        go_meet
        exact ⟨rfl, rfl⟩
  case rest =>
    obtain ⟨rfl, rfl⟩ := hcut
    clear hab laf hpb
    go_upto_region 7 with (first | (go_at_call 25; refine (place_any _ (by assumption) _).mono ?_; rintro r w' ⟨rfl, hww⟩; subst hww) | (go_at_call 10; refine (at_any _ (by assumption) (by assumption) _).mono ?_; rintro r w' ⟨rfl, hww⟩; subst hww))
    go_cut [11, 12, 13, 14, 107] (fun _ _ _ _ s wx => s = .bool false ∧ w.alloc (.cells #[.bool n, .int .u64 f, .int .i64 e] 29) = wx)
    case first =>
      as_aux_lemma =>
        by_cases hin : -9218868437227405312 ≤ pl ∧ pl ≤ 9218868437227405312
        · obtain ⟨q1, q2, q3⟩ := place_at hin
          have b1 := atB_in hin
          have b2 : (plc (atF pl) != pl) = false := by unfold plc; rw [q2, q1]; simp
          clear q1 q3 hin hp1 hp2
          go_wp2_with fail
          go_meet
          exact ⟨rfl, rfl⟩
        · have b1 := atB_out (p := pl) (by omega)
          have b2 : atF pl = 0 := by unfold atF; rw [b1]; rfl
          by_cases h3 : pl < -9218868437227405312
          · clear hin hp1 hp2
            have h4 : ¬ -9218868437227405312 ≤ pl := by omega
            clear h3
            go_wp2_with (first | (go_at_call 13; refine (samef_any _ _ (by first | assumption | omega) (by first | assumption | omega) _).mono ?_; rintro r w' ⟨rfl, hww⟩; subst hww))
            go_meet
            exact ⟨rfl, rfl⟩
          · have h4 : -9218868437227405312 ≤ pl := by omega
            have h5 : ¬ pl ≤ 9218868437227405312 := by omega
            clear hin hp1 hp2 h3
            go_wp2_with (first | (go_at_call 13; refine (samef_any _ _ (by first | assumption | omega) (by first | assumption | omega) _).mono ?_; rintro r w' ⟨rfl, hww⟩; subst hww))
            go_meet
            exact ⟨rfl, rfl⟩
    case rest =>
      obtain ⟨rfl, rfl⟩ := hcut
      clear hp1 hp2 lap
      have hT0 := tabW_below hT ((Below.refl _ _).alloc (Nat.le_refl _) (.cells #[.bool n, .int .u64 f, .int .i64 e] 29))
      cases hfin : finB a
      · as_aux_lemma =>
          go_upto_region 24 with (first | (go_at_call 23; refine (split_inf _ (by assumption) (by assumption) _).mono ?_; rintro r w1 ⟨rfl, hb1⟩) | (go_at_call 35; refine (lfin_no _ (by assumption) (by assumption) _).mono ?_; rintro r w' ⟨rfl, hww⟩; subst hww))
          obtain ⟨⟨x0, x1, x2⟩, xs⟩ := cells3 hb1
          have hB1 := below3 hb1
          have hBX := (hB1.alloc hB1.size (.cells #[.bool false, .int .u64 0, .int .i64 0] 29)).drew
          have hBQ := ((Below.refl w1.heap.size w1).alloc (Nat.le_refl _) (.cells #[.bool false, .int .u64 0, .int .i64 0] 29)).drew
          clear hb1 hB1 hT0
          go_upto_region 25 with (first | (go_at_call 11; refine (join_any _ _ _ (by assumption) _).mono ?_; rintro r w5 ⟨rfl, hb5⟩))
          have hBJ := hBX.trans (hb5.mono hBX.size)
          have hTJ := tabW_below hT hBJ
          have y := cells_on hb5 (cells_on hBQ ⟨x0, x1, x2⟩)
          obtain ⟨y0, y1, y2⟩ := y
          have lJ := joinF_lt n f e
          clear x0 x1 x2 hBQ
          cases hk : okP f e
          · as_aux_lemma =>
              have hj := joinF_no hk n
              have f0 : finB 0 = true := by decide
              rw [hj] at lJ
              go_upto_region 26 with (first | (go_at_call 23; refine (split_fin _ (by assumption) (by assumption) _ (by assumption)).mono ?_; rintro r w6 ⟨rfl, hb6⟩))
              have hBS := (hBJ.trans (hb6.mono hBJ.size))
              have hBT := hBS.alloc hBS.size (.cells #[.bool (sgn 0), .int .u64 (spF 0), .int .i64 (spE 0)] 29)
              have hTT := tabW_below hT hBT
              clear hb5 hb6 hBX hBJ hTJ
              go_wp2_with (first | (go_at_call 13; refine (samef_any _ _ (by first | assumption | omega) (by first | assumption | omega) _).mono ?_; rintro r w' ⟨rfl, hww⟩; subst hww) | (go_at_call 22; refine (awake_any _ (by assumption)).mono ?_; rintro r w7 ⟨rfl, hb7⟩))
              go_ret
              exact ⟨rfl, hBT.trans (hb7.mono hBT.size)⟩
          · as_aux_lemma =>
              obtain ⟨g1, g2, g3, g4⟩ := split_join (n := n) hk
              have g3' : (spF (joinF n f e) : Int) = (f : Int) := by rw [g3]
              go_upto_region 26 with (first | (go_at_call 23; refine (split_fin _ (by assumption) (by assumption) _ (by assumption)).mono ?_; rintro r w6 ⟨rfl, hb6⟩))
              have hz6 := cells_on hb6 ⟨y0, y1, y2⟩
              obtain ⟨z0, z1, z2⟩ := hz6
              have hBS := (hBJ.trans (hb6.mono hBJ.size))
              have hBT := hBS.alloc hBS.size (.cells #[.bool n, .int .u64 f, .int .i64 e] 29)
              have hTT := tabW_below hT hBT
              have hlt : w.heap.size < w6.heap.size := World.block_lt_of_cell? w6 _ z0
              clear hb5 hb6 hBX hBJ hTJ y0 y1 y2
              go_wp2_with (first | (go_at_call 13; refine (samef_any _ _ (by first | assumption | omega) (by first | assumption | omega) _).mono ?_; rintro r w' ⟨rfl, hww⟩; subst hww) | (go_at_call 22; refine (awake_any _ (by assumption)).mono ?_; rintro r w7 ⟨rfl, hb7⟩))
              go_ret
              exact ⟨rfl, hBT.trans (hb7.mono hBT.size)⟩
      · obtain ⟨hk0, hj0⟩ := join_split ha hfin
        have hsf : spF a < 18446744073709551616 := by
          by_cases h0 : rung a = 0
          · unfold spF; rw [if_pos h0]; omega
          · have := (sp_ok hfin h0).2.1; omega
        go_upto_region 14 with (first | (go_at_call 23; refine (split_fin _ (by assumption) (by assumption) _ (by assumption)).mono ?_; rintro r w1 ⟨rfl, hb1⟩) | (go_at_call 35; refine (lfin_yes _ (by assumption) (by assumption) _).mono ?_; rintro r w' ⟨rfl, hww⟩; subst hww) | (go_at_call 11; refine (join_any _ _ _ (by assumption) _).mono ?_; rintro r w2 ⟨rfl, hb2⟩))
        obtain ⟨c1, xs⟩ := cells3 hb1
        obtain ⟨⟨y0, y1, y2⟩, ys⟩ := cells3 hb2
        obtain ⟨x0, x1, x2⟩ := cells_on (below3 hb2) c1
        have hB1 := below3 hb1
        have hB2 := hB1.trans ((below3 hb2).mono hB1.size)
        clear c1 hb1 hb2 hB1 hT0 hk0 hj0 xs ys
        by_cases hr0 : rung a = 0
        · as_aux_lemma =>
            have e1 : spF a = 0 := by unfold spF; rw [if_pos hr0]
            have e2 : spE a = 0 := by unfold spE; rw [if_pos hr0]
            rw [e1] at y1
            rw [e2] at y2
            have hof : floatOfInt .f64 0 = 0 := by kernel_rfl
            have na := finB_nan hfin
            have hpa : place a = 0 := by unfold place; rw [hr0]; simp
            have oa0 := ord_eq ha (show 0 < 18446744073709551616 by omega) na nan_zero (by rw [place_zero]; exact hpa)
            have o0a := ord_eq (show 0 < 18446744073709551616 by omega) ha nan_zero na (by rw [place_zero]; exact hpa.symm)
            clear hpa hr0 e1 e2
            go_wp2
            go_loop [19, 20] (fun sv ev => sv = .float .f64 0 ∧ ev = .int .i64 0) (fun _ _ => 0)
            case atStart => exact ⟨rfl, rfl⟩
            case round =>
              obtain ⟨rfl, rfl⟩ := hrel
              go_wp2
              go_loop [19, 20] (fun sv ev => sv = .float .f64 0 ∧ ev = .int .i64 0) (fun _ _ => 0)
              case atStart => exact ⟨rfl, rfl⟩
              case round =>
                obtain ⟨rfl, rfl⟩ := hrel
                cases hs : sgn a
                all_goals
                  go_wp2
                  go_quiet ((first | (go_at_call 13; exact Calls.quiet_of_same (samef_any _ _ (by assumption) (by assumption) _)) | (go_at_call 36; exact Calls.quiet_of_same (signbit_any _ (by assumption) _))))
                  go_upto_region 24 with fail
                  have hBX := below_drewN hB2 nq
                  have hBQ := below_drewN (Below.refl w2.heap.size w2) nq
                  clear hof hB2
                  go_upto_region 25 with (first | (go_at_call 11; refine (join_any _ _ _ (by assumption) _).mono ?_; rintro r w5 ⟨rfl, hb5⟩))
                  have hBJ := hBX.trans (hb5.mono hBX.size)
                  have hTJ := tabW_below hT hBJ
                  have y := cells_on hb5 (cells_on hBQ ⟨x0, x1, x2⟩)
                  obtain ⟨y0, y1, y2⟩ := y
                  have lJ := joinF_lt n f e
                  clear x0 x1 x2 hBQ
                  cases hk : okP f e
                  · as_aux_lemma =>
                      have hj := joinF_no hk n
                      have f0 : finB 0 = true := by decide
                      rw [hj] at lJ
                      go_upto_region 26 with (first | (go_at_call 23; refine (split_fin _ (by assumption) (by assumption) _ (by assumption)).mono ?_; rintro r w6 ⟨rfl, hb6⟩))
                      have hBS := (hBJ.trans (hb6.mono hBJ.size))
                      have hBT := hBS.alloc hBS.size (.cells #[.bool (sgn 0), .int .u64 (spF 0), .int .i64 (spE 0)] 29)
                      have hTT := tabW_below hT hBT
                      clear hb5 hb6 hBX hBJ hTJ
                      go_wp2_with (first | (go_at_call 13; refine (samef_any _ _ (by first | assumption | omega) (by first | assumption | omega) _).mono ?_; rintro r w' ⟨rfl, hww⟩; subst hww) | (go_at_call 22; refine (awake_any _ (by assumption)).mono ?_; rintro r w7 ⟨rfl, hb7⟩))
                      go_ret
                      exact ⟨rfl, hBT.trans (hb7.mono hBT.size)⟩
                  · as_aux_lemma =>
                      obtain ⟨g1, g2, g3, g4⟩ := split_join (n := n) hk
                      have g3' : (spF (joinF n f e) : Int) = (f : Int) := by rw [g3]
                      go_upto_region 26 with (first | (go_at_call 23; refine (split_fin _ (by assumption) (by assumption) _ (by assumption)).mono ?_; rintro r w6 ⟨rfl, hb6⟩))
                      have hz6 := cells_on hb6 ⟨y0, y1, y2⟩
                      obtain ⟨z0, z1, z2⟩ := hz6
                      have hBS := (hBJ.trans (hb6.mono hBJ.size))
                      have hBT := hBS.alloc hBS.size (.cells #[.bool n, .int .u64 f, .int .i64 e] 29)
                      have hTT := tabW_below hT hBT
                      have hlt : w.heap.size < w6.heap.size := World.block_lt_of_cell? w6 _ z0
                      clear hb5 hb6 hBX hBJ hTJ y0 y1 y2
                      go_wp2_with (first | (go_at_call 13; refine (samef_any _ _ (by first | assumption | omega) (by first | assumption | omega) _).mono ?_; rintro r w' ⟨rfl, hww⟩; subst hww) | (go_at_call 22; refine (awake_any _ (by assumption)).mono ?_; rintro r w7 ⟨rfl, hb7⟩))
                      go_ret
                      exact ⟨rfl, hBT.trans (hb7.mono hBT.size)⟩
        · obtain ⟨o1, o2, o3, o4, o5⟩ := sp_ok hfin hr0
          have hF0 : spF a ≠ 0 := by omega
          have hof : floatOfInt .f64 (spF a : Int) = jR (spF a) 0 := by
            rw [ofInt_eq hF0 o2, ← (jR_zero hF0 o2).1]
          have hrl : rung a < 9218868437227405312 := by unfold finB at hfin; simpa using hfin
          have O5 : Hid (jR (spF a) (spE a) = rung a) := o5
          have O1 : Hid (spF a % 2 = 1) := o1
          have O2 : Hid (spF a < 9007199254740992) := o2
          clear o5 o1 o2
          go_wp2
          go_loop [19, 20] (fun sv ev => ∃ x : Int, ev = .int .i64 x ∧ sv = .float .f64 (jR (spF a) (spE a - x)) ∧ (0 ≤ x ∧ x ≤ spE a ∨ x = spE a ∧ spE a ≤ 0)) (fun _ ev => (intOf ev).toNat)
          case atStart => exact ⟨spE a, rfl, by rw [Int.sub_self], by omega⟩
          case round =>
            obtain ⟨x, rfl, rfl, hx⟩ := hrel
            by_cases hx0 : 0 < x
            · have hst := dbl_step (f := spF a) (k := spE a - x) hF0 O2.out (by omega) (by have := jR_mono (f := spF a) (e := spE a - x + 1) (k := spE a) hF0 O2.out (by omega) (by omega); rw [O5.out] at this; omega)
              have hm := fun w => run_float_arith (P := Tryd.prog) w .mul 22 .f64 _ _ _ hst
              have HX : Hid (0 ≤ x ∧ x ≤ spE a ∨ x = spE a ∧ spE a ≤ 0) := hx
              have hxb : x ≤ 1023 := by omega
              clear hst hx
              go_wp2
              go_round
              case rel => exact ⟨x - 1, by go_num, by rw [show spE a - (x - 1) = spE a - x + 1 by omega], by have := HX.out; omega⟩
              case measure => simp [intOf]; omega
            · have hx1 : x ≤ 0 := by omega
              have hx2 : -1074 ≤ x := by omega
              have hx3 : x = 0 ∨ spE a ≤ x := by omega
              clear hx
              go_wp2
              go_loop [19, 20] (fun sv ev => ∃ y : Int, ev = .int .i64 y ∧ sv = .float .f64 (jR (spF a) (spE a - y)) ∧ y ≤ 0 ∧ -1074 ≤ y ∧ (y = 0 ∨ spE a ≤ y)) (fun _ ev => (-(intOf ev)).toNat)
              case atStart => exact ⟨x, rfl, rfl, hx1, hx2, hx3⟩
              case round =>
                obtain ⟨y, rfl, rfl, g1, g2, g3⟩ := hrel
                clear hx1 hx2 hx3
                by_cases hy0 : y < 0
                · have hst := hlf_step (f := spF a) (k := spE a - y - 1) hF0 O2.out (by omega) (by omega)
                  rw [show spE a - y - 1 + 1 = spE a - y by omega] at hst
                  have hm := fun w => run_float_arith (P := Tryd.prog) w .quo 22 .f64 _ _ _ hst
                  have hy2 : -2000 < y := by omega
                  have HG : Hid (y = 0 ∨ spE a ≤ y) := g3
                  clear hst g3
                  go_wp2
                  go_round
                  case rel => exact ⟨y + 1, by go_num, by rw [show spE a - (y + 1) = spE a - y - 1 by omega], by omega, by omega, by have := HG.out; omega⟩
                  case measure => simp [intOf]; omega
                · have hy1 : y = 0 := by omega
                  subst hy1
                  have hje : jR (spF a) (spE a) = rung a := O5.out
                  have c0 : ((spF a : Int) % 2 == 0) = false := by have := O1.out; simp; omega
                  clear g1 g2 g3 hy0
                  obtain ⟨n1, n2, n3⟩ := neg_place ha
                  have na := finB_nan hfin
                  have hpr : place (rung a) = rung a := place_small (by omega)
                  have nr : nanB (rung a) = false := nan_small (by omega)
                  have lr : rung a < 18446744073709551616 := by omega
                  have hu : ∀ b, Op.unary .neg (.float .f64 b) = pure (.float .f64 (Op.negFloat .f64 b)) := fun _ => rfl
                  cases hs : sgn a
                  · as_aux_lemma =>
                      have hpa : place a = rung a := by unfold place; rw [hs]; rfl
                      have b1 : (FloatKind.f64.format.order (rung a) a != some .eq) = false := by rw [ord_eq lr ha nr na (by omega)]; rfl
                      clear hpa n1 n2 n3 hpr nr
                      go_wp2
                      go_quiet ((first | (go_at_call 13; exact Calls.quiet_of_same (samef_any _ _ (by assumption) (by assumption) _)) | (go_at_call 36; exact Calls.quiet_of_same (signbit_any _ (by assumption) _))))
                      go_upto_region 24 with fail
                      have hBX := below_drewN hB2 nq
                      have hBQ := below_drewN (Below.refl w2.heap.size w2) nq
                      clear hof hB2
                      go_upto_region 25 with (first | (go_at_call 11; refine (join_any _ _ _ (by assumption) _).mono ?_; rintro r w5 ⟨rfl, hb5⟩))
                      have hBJ := hBX.trans (hb5.mono hBX.size)
                      have hTJ := tabW_below hT hBJ
                      have y := cells_on hb5 (cells_on hBQ ⟨x0, x1, x2⟩)
                      obtain ⟨y0, y1, y2⟩ := y
                      have lJ := joinF_lt n f e
                      clear x0 x1 x2 hBQ
                      cases hk : okP f e
                      · as_aux_lemma =>
                          have hj := joinF_no hk n
                          have f0 : finB 0 = true := by decide
                          rw [hj] at lJ
                          go_upto_region 26 with (first | (go_at_call 23; refine (split_fin _ (by assumption) (by assumption) _ (by assumption)).mono ?_; rintro r w6 ⟨rfl, hb6⟩))
                          have hBS := (hBJ.trans (hb6.mono hBJ.size))
                          have hBT := hBS.alloc hBS.size (.cells #[.bool (sgn 0), .int .u64 (spF 0), .int .i64 (spE 0)] 29)
                          have hTT := tabW_below hT hBT
                          clear hb5 hb6 hBX hBJ hTJ
                          go_wp2_with (first | (go_at_call 13; refine (samef_any _ _ (by first | assumption | omega) (by first | assumption | omega) _).mono ?_; rintro r w' ⟨rfl, hww⟩; subst hww) | (go_at_call 22; refine (awake_any _ (by assumption)).mono ?_; rintro r w7 ⟨rfl, hb7⟩))
                          go_ret
                          exact ⟨rfl, hBT.trans (hb7.mono hBT.size)⟩
                      · as_aux_lemma =>
                          obtain ⟨g1, g2, g3, g4⟩ := split_join (n := n) hk
                          have g3' : (spF (joinF n f e) : Int) = (f : Int) := by rw [g3]
                          go_upto_region 26 with (first | (go_at_call 23; refine (split_fin _ (by assumption) (by assumption) _ (by assumption)).mono ?_; rintro r w6 ⟨rfl, hb6⟩))
                          have hz6 := cells_on hb6 ⟨y0, y1, y2⟩
                          obtain ⟨z0, z1, z2⟩ := hz6
                          have hBS := (hBJ.trans (hb6.mono hBJ.size))
                          have hBT := hBS.alloc hBS.size (.cells #[.bool n, .int .u64 f, .int .i64 e] 29)
                          have hTT := tabW_below hT hBT
                          have hlt : w.heap.size < w6.heap.size := World.block_lt_of_cell? w6 _ z0
                          clear hb5 hb6 hBX hBJ hTJ y0 y1 y2
                          go_wp2_with (first | (go_at_call 13; refine (samef_any _ _ (by first | assumption | omega) (by first | assumption | omega) _).mono ?_; rintro r w' ⟨rfl, hww⟩; subst hww) | (go_at_call 22; refine (awake_any _ (by assumption)).mono ?_; rintro r w7 ⟨rfl, hb7⟩))
                          go_ret
                          exact ⟨rfl, hBT.trans (hb7.mono hBT.size)⟩
                  · as_aux_lemma =>
                      have hpa : place a = -(rung a : Int) := by unfold place; rw [hs]; rfl
                      have b1 : (FloatKind.f64.format.order (rung a) a != some .eq) = true := by rw [ord_gt lr ha nr na (by omega)]; rfl
                      have b2 : (FloatKind.f64.format.order (rung a) (Op.negFloat .f64 a) != some .eq) = false := by rw [ord_eq lr n3 nr (n2.trans na) (by omega)]; rfl
                      clear hpa n1 n2 n3 hpr nr
                      go_wp2
                      go_quiet ((first | (go_at_call 13; exact Calls.quiet_of_same (samef_any _ _ (by assumption) (by assumption) _)) | (go_at_call 36; exact Calls.quiet_of_same (signbit_any _ (by assumption) _))))
                      go_upto_region 24 with fail
                      have hBX := below_drewN hB2 nq
                      have hBQ := below_drewN (Below.refl w2.heap.size w2) nq
                      clear hof hB2
                      go_upto_region 25 with (first | (go_at_call 11; refine (join_any _ _ _ (by assumption) _).mono ?_; rintro r w5 ⟨rfl, hb5⟩))
                      have hBJ := hBX.trans (hb5.mono hBX.size)
                      have hTJ := tabW_below hT hBJ
                      have y := cells_on hb5 (cells_on hBQ ⟨x0, x1, x2⟩)
                      obtain ⟨y0, y1, y2⟩ := y
                      have lJ := joinF_lt n f e
                      clear x0 x1 x2 hBQ
                      cases hk : okP f e
                      · as_aux_lemma =>
                          have hj := joinF_no hk n
                          have f0 : finB 0 = true := by decide
                          rw [hj] at lJ
                          go_upto_region 26 with (first | (go_at_call 23; refine (split_fin _ (by assumption) (by assumption) _ (by assumption)).mono ?_; rintro r w6 ⟨rfl, hb6⟩))
                          have hBS := (hBJ.trans (hb6.mono hBJ.size))
                          have hBT := hBS.alloc hBS.size (.cells #[.bool (sgn 0), .int .u64 (spF 0), .int .i64 (spE 0)] 29)
                          have hTT := tabW_below hT hBT
                          clear hb5 hb6 hBX hBJ hTJ
                          go_wp2_with (first | (go_at_call 13; refine (samef_any _ _ (by first | assumption | omega) (by first | assumption | omega) _).mono ?_; rintro r w' ⟨rfl, hww⟩; subst hww) | (go_at_call 22; refine (awake_any _ (by assumption)).mono ?_; rintro r w7 ⟨rfl, hb7⟩))
                          go_ret
                          exact ⟨rfl, hBT.trans (hb7.mono hBT.size)⟩
                      · as_aux_lemma =>
                          obtain ⟨g1, g2, g3, g4⟩ := split_join (n := n) hk
                          have g3' : (spF (joinF n f e) : Int) = (f : Int) := by rw [g3]
                          go_upto_region 26 with (first | (go_at_call 23; refine (split_fin _ (by assumption) (by assumption) _ (by assumption)).mono ?_; rintro r w6 ⟨rfl, hb6⟩))
                          have hz6 := cells_on hb6 ⟨y0, y1, y2⟩
                          obtain ⟨z0, z1, z2⟩ := hz6
                          have hBS := (hBJ.trans (hb6.mono hBJ.size))
                          have hBT := hBS.alloc hBS.size (.cells #[.bool n, .int .u64 f, .int .i64 e] 29)
                          have hTT := tabW_below hT hBT
                          have hlt : w.heap.size < w6.heap.size := World.block_lt_of_cell? w6 _ z0
                          clear hb5 hb6 hBX hBJ hTJ y0 y1 y2
                          go_wp2_with (first | (go_at_call 13; refine (samef_any _ _ (by first | assumption | omega) (by first | assumption | omega) _).mono ?_; rintro r w' ⟨rfl, hww⟩; subst hww) | (go_at_call 22; refine (awake_any _ (by assumption)).mono ?_; rintro r w7 ⟨rfl, hb7⟩))
                          go_ret
                          exact ⟨rfl, hBT.trans (hb7.mono hBT.size)⟩
end Go.Proofs.YtgkodomppebijaaDoor
