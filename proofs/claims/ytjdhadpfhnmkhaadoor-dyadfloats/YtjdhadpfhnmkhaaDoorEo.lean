/- That DyadFloats answers true: the walk. -/
import Derived.Test.YtjdhadpfhnmkhaaDoorZq
namespace Go.Proofs.YtjdhadpfhnmkhaaDoor
open Go.RowKit

set_option maxHeartbeats 2000000 in
set_option maxRecDepth 100000 in
theorem floats_some (a : Nat) (ha : a < 18446744073709551616) (m : Int) (sg : Bool) (sf : Nat) (se : Int) (w : World) (hT : TabW w) (hf : finB a = true) (hsf : sf < 18446744073709551616)
    (hof : ofD a = (⟨sg, [sf], se⟩, 0)) (hR : rightB ⟨sg, [sf], se⟩ = true) (hrd : rndW ⟨sg, [sf], se⟩ m = a) (hfit : fitB ⟨sg, [sf], se⟩ = true)
    (o1 : (FloatKind.f64.format.order a 0 == some .eq) = false) (o2 : (FloatKind.f64.format.order a 0 == some .gt) = (!sg)) (o3 : (FloatKind.f64.format.order a 0 == some .lt) = sg) :
    Calls Tryd.prog 5 #[.float .f64 a, .int .i8 m] w fun e w' => e = .returned (.bool true) ∧ Below w.heap.size w w' := by
  have cof := fun w' hT' => Of_any a ha w' hT'
  rw [hof] at cof
  have crd := fun ao cap w' hr' => Round_ok sg [sf] se ao cap m w' hr' (lm1 hsf) hR
  rw [hrd] at crd
  have csg := fun ao cap w' hr' => Sign_ok sg [sf] se ao cap w' hr' (lm1 hsf) hR
  have cft := fun ao cap w' hr' => Fits_any sg [sf] se ao cap w' hr' (lm1 hsf)
  rw [hfit] at cft
  have crt := fun ao cap w' hr' => right_any ⟨sg, [sf], se⟩ ao cap w' hr' (lm1 hsf)
  rw [hR] at crt
  have csf := fun w' => samef_any a a ha ha w'
  have hsm : sameB a a = true := by unfold sameB; cases nanB a <;> simp
  rw [hsm] at csf
  have esg : sgD ⟨sg, [sf], se⟩ = if sg then -1 else 1 := by unfold sgD; rw [if_neg (by simp)]
  rw [esg] at csg
  simp only [List.length_singleton] at cof crd csg cft crt
  clear hof hrd hfit hR esg hsm
  cases sg
  all_goals
    simp only [Bool.not_false, Bool.not_true, Bool.false_eq_true, if_true, if_false] at o2 o3 csg
    go_enter Tryd.func5, Tryd.ntmps5
    go_wp2_with (first
      | (go_at_call 7; refine (awake_any _ hT).mono ?_; rintro e w1 ⟨rfl, hb1⟩)
      | (go_at_call 16; refine (cof _ (tabW_below hT hb1)).mono ?_; rintro e w2 ⟨ao, cap, rfl, hr2, _, hb2⟩)
      | (go_at_call 17; refine (fin_yes a ha hf _).mono ?_; rintro e w' ⟨rfl, hww⟩; subst hww)
      | (go_at_call 18; refine (crd ao cap _ (hr2.alloc _)).mono ?_; rintro e w3 ⟨rfl, hb3⟩; obtain ⟨⟨c0, c1, c2⟩, ho3⟩ := one_box hb3; have hr3 := hr2.below ho3)
      | (go_at_call 19; refine (csf _).mono ?_; rintro e w' ⟨rfl, hww⟩; subst hww)
      | (go_at_call 15; refine (csg ao cap _ hr3).mono ?_; rintro e w4 ⟨rfl, hb4⟩; obtain ⟨d0, d1, d2⟩ := three_on hb4 ⟨c0, c1, c2⟩; have hr4 := hr3.below hb4)
      | (go_at_call 20; refine (cft ao cap _ hr4).mono ?_; rintro e w5 ⟨rfl, hb5⟩; obtain ⟨e0, e1, e2⟩ := three_on hb5 ⟨d0, d1, d2⟩; have hr5 := hr4.below hb5)
      | (go_at_call 21; refine (crt ao cap _ hr5).mono ?_; rintro e w6 ⟨rfl, hb6⟩))
    go_ret
    have hB2 := hb1.trans (hb2.mono hb1.size)
    have hB3 := hB2.trans (ho3.mono hB2.size)
    have hB4 := hB3.trans (hb4.mono hB3.size)
    have hB5 := hB4.trans (hb5.mono hB4.size)
    exact ⟨rfl, hB5.trans (hb6.mono hB5.size)⟩

set_option maxHeartbeats 2000000 in
set_option maxRecDepth 100000 in
theorem floats_nought (a : Nat) (ha : a < 18446744073709551616) (m : Int) (w : World) (hT : TabW w) (hf : finB a = true) (hof : ofD a = (dy0, 0))
    (o1 : (FloatKind.f64.format.order a 0 == some .eq) = true) (o2 : (FloatKind.f64.format.order a 0 == some .gt) = false) (o3 : (FloatKind.f64.format.order a 0 == some .lt) = false) :
    Calls Tryd.prog 5 #[.float .f64 a, .int .i8 m] w fun e w' => e = .returned (.bool true) ∧ Below w.heap.size w w' := by
  have hL : Lm [] := fun x hx => by simp at hx
  have cof := fun w' hT' => Of_any a ha w' hT'
  rw [hof] at cof
  have crd := fun ao cap w' => Round_ok false [] 0 ao cap m w' (LRow.nil w' ao) hL rfl
  rw [show rndW ⟨false, [], 0⟩ m = 0 from rfl] at crd
  have csg := fun ao cap w' => Sign_ok false [] 0 ao cap w' (LRow.nil w' ao) hL rfl
  rw [show sgD ⟨false, [], 0⟩ = 0 from rfl] at csg
  have cft := fun ao cap w' => Fits_any false [] 0 ao cap w' (LRow.nil w' ao) hL
  rw [show fitB ⟨false, [], 0⟩ = true by kernel_rfl] at cft
  have crt := fun ao cap w' => right_any ⟨false, [], 0⟩ ao cap w' (LRow.nil w' ao) hL
  rw [show rightB ⟨false, [], 0⟩ = true from rfl] at crt
  have csf := fun w' => samef_any 0 0 (by omega) (by omega) w'
  rw [show sameB 0 0 = true by decide] at csf
  simp only [dy0, List.length_nil] at cof crd csg cft crt
  clear hof
  go_enter Tryd.func5, Tryd.ntmps5
  go_wp2_with (first
    | (go_at_call 7; refine (awake_any _ hT).mono ?_; rintro e w1 ⟨rfl, hb1⟩)
    | (go_at_call 16; refine (cof _ (tabW_below hT hb1)).mono ?_; rintro e w2 ⟨ao, cap, rfl, hr2, _, hb2⟩)
    | (go_at_call 17; refine (fin_yes a ha hf _).mono ?_; rintro e w' ⟨rfl, hww⟩; subst hww)
    | (go_at_call 18; refine (crd ao cap _).mono ?_; rintro e w3 ⟨rfl, hb3⟩; obtain ⟨⟨c0, c1, c2⟩, ho3⟩ := one_box hb3)
    | (go_at_call 19; refine (csf _).mono ?_; rintro e w' ⟨rfl, hww⟩; subst hww)
    | (go_at_call 15; refine (csg ao cap _).mono ?_; rintro e w4 ⟨rfl, hb4⟩; obtain ⟨d0, d1, d2⟩ := three_on hb4 ⟨c0, c1, c2⟩)
    | (go_at_call 20; refine (cft ao cap _).mono ?_; rintro e w5 ⟨rfl, hb5⟩; obtain ⟨e0, e1, e2⟩ := three_on hb5 ⟨d0, d1, d2⟩)
    | (go_at_call 21; refine (crt ao cap _).mono ?_; rintro e w6 ⟨rfl, hb6⟩))
  go_ret
  have hB2 := hb1.trans (hb2.mono hb1.size)
  have hB3 := hB2.trans (ho3.mono hB2.size)
  have hB4 := hB3.trans (hb4.mono hB3.size)
  have hB5 := hB4.trans (hb5.mono hB4.size)
  exact ⟨rfl, hB5.trans (hb6.mono hB5.size)⟩

set_option maxHeartbeats 2000000 in
set_option maxRecDepth 100000 in
theorem floats_inf (a : Nat) (ha : a < 18446744073709551616) (m : Int) (w : World) (hT : TabW w) (hf : finB a = false) :
    Calls Tryd.prog 5 #[.float .f64 a, .int .i8 m] w fun e w' => e = .returned (.bool true) ∧ Below w.heap.size w w' := by
  have cof := fun w' hT' => Of_any a ha w' hT'
  rw [show ofD a = (dy0, 5) by unfold ofD; rw [if_pos hf]] at cof
  have csd := fun ao cap w' => sameDyad_any dy0 dy0 ao none cap 0 w' (LRow.nil w' ao) (LRow.nil w' none) (by simp [dy0])
  rw [eqB_self] at csd
  simp only [dy0, List.length_nil] at cof csd
  go_enter Tryd.func5, Tryd.ntmps5
  go_wp2_with (first
    | (go_at_call 7; refine (awake_any _ hT).mono ?_; rintro e w1 ⟨rfl, hb1⟩)
    | (go_at_call 16; refine (cof _ (tabW_below hT hb1)).mono ?_; rintro e w2 ⟨ao, cap, rfl, hr2, _, hb2⟩)
    | (go_at_call 17; refine (fin_no a ha hf _).mono ?_; rintro e w' ⟨rfl, hww⟩; subst hww)
    | (go_at_call 13; refine (csd ao cap _).mono ?_; rintro e w3 ⟨rfl, hb3⟩))
  go_ret
  have hB2 := hb1.trans (hb2.mono hb1.size)
  have hB3 := (hB2.alloc hB2.size (.cells #[.bool false, .slice ao 0 cap, .int .i64 0] 24)).drew
  exact ⟨rfl, hB3.trans (hb3.mono hB3.size)⟩

theorem floats_law (a : Nat) (m : Int) (ha : a < 18446744073709551616) (w : World) (hT : TabW w) :
    Calls Tryd.prog 5 #[.float .f64 a, .int .i8 m] w fun e w' => e = .returned (.bool true) ∧ Below w.heap.size w w' := by
  cases hf : finB a
  · exact floats_inf a ha m w hT hf
  · by_cases h0 : rung a = 0
    · obtain ⟨o1, o2, o3⟩ := ord_nought ha hf h0
      exact floats_nought a ha m w hT hf (of_nought hf h0) o1 o2 o3
    · obtain ⟨o1, o2, o3⟩ := ord_some ha hf h0
      have := (sp_bd hf h0).2.1
      exact floats_some a ha m (sgn a) (spF a) (spE a) w hT hf (by omega) (of_some hf h0) (of_right hf h0) (of_round ha hf h0 m) (of_fits hf h0) o1 o2 o3
end Go.Proofs.YtjdhadpfhnmkhaaDoor
