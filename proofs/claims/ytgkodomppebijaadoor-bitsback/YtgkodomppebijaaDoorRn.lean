/- The document's Split of any float, and that BitsTells answers true whatever float it is given (the library's table lying as its initialiser lays it). -/
import Derived.Test.YtgkodomppebijaaDoorRm
import Derived.Deep.DeepCutAuto
namespace Go.Proofs.YtgkodomppebijaaDoor
open Go.RowKit

set_option maxRecDepth 100000 in
set_option maxHeartbeats 1000000 in
theorem rsplit_zero (a : Nat) (ha : a < 18446744073709551616) (hf : finB a = true) (hx : ¬ (0 : Int) < (expo a : Int)) (hz2 : (frc a : Int) = 0) (w : World) :
    Calls Tryd.prog 24 #[.float .f64 a] w fun e w' => e = .returned (.tuple #[.agg #[.bool (sgn a), .int .u64 0, .int .i64 0], .bool true]) ∧ Below w.heap.size w w' := by
  go_enter Tryd.func24, Tryd.ntmps24
  go_wp2_with (first | (go_at_call 48; refine (rfinite_any _ (by assumption) _).mono ?_; rintro e w' ⟨rfl, rfl⟩) | (go_at_call 49; refine (fields_any _ (by assumption) _).mono ?_; rintro e w' ⟨rfl, rfl⟩))
  go_loopg [] 0 (fun g wr => (w.alloc (.cells #[.bool false, .int .u64 0, .int .i64 0] 29)).alloc (.cells #[.bool (sgn a), .int .u64 0, .int .i64 0] 29) = wr)
  case atStart => rfl
  case round =>
    subst hrel
    go_wp2
    refine bodyPost_ret (v := .tuple #[.agg #[.bool (sgn a), .int .u64 0, .int .i64 0], .bool true]) ?_ rfl ⟨rfl, ((Below.refl _ _).alloc (Nat.le_refl _) _).alloc (by simp) _⟩
    simp [results, Tryd.results24, go_sem]

theorem rsplit_fin (a : Nat) (ha : a < 18446744073709551616) (hf : finB a = true) (w : World) :
    Calls Tryd.prog 24 #[.float .f64 a] w fun e w' => e = .returned (.tuple #[.agg #[.bool (sgn a), .int .u64 (spF a), .int .i64 (spE a)], .bool true]) ∧ Below w.heap.size w w' := by
  have hx := expo_rung ha
  by_cases hr : rung a = 0
  · have e1 : spF a = 0 := by unfold spF; rw [if_pos hr]
    have e2 : spE a = 0 := by unfold spE; rw [if_pos hr]
    rw [e1, e2]
    have hfr : frc a = 0 := by unfold frc; rw [hr]
    exact rsplit_zero a ha hf (by rw [hx, hr]; simp) (by rw [hfr]; rfl) w
  · by_cases h1 : rung a < 4503599627370496
    · refine rsplit_sub a ha hf (by rw [hx, Nat.div_eq_of_lt h1]; simp) hr ?_ ?_ w
      · unfold mg frc; rw [if_pos h1, Nat.mod_eq_of_lt h1]
      · unfold up; rw [if_pos h1]; rfl
    · refine rsplit_norm a ha hf (by rw [hx]; omega) hr ?_ ?_ w
      · unfold mg frc; rw [if_neg h1]; omega
      · unfold up; rw [if_neg h1, hx]; omega

theorem nextF_lt (a : Nat) (up : Bool) (ha : a < 18446744073709551616) : nextF a up < 18446744073709551616 := by
  unfold nextF; split
  · exact ha
  · exact atF_lt _
theorem ulpF_lt (a : Nat) : ulpF a < 18446744073709551616 := by
  unfold ulpF
  cases hf : finB a
  · simp
  · have hu := up_lt hf
    have := (pw_ok (e := (up (rung a) : Int) - 1074) (by omega) (by omega)).1
    simp only [if_true]; omega

/-- Three cells that have just been laid, in a later world. -/
theorem cells3 {W V : World} {c0 c1 c2 : Value} {t : TypeId} (hb : Below (W.alloc (.cells #[c0, c1, c2] t)).heap.size (W.alloc (.cells #[c0, c1, c2] t)) V) :
    (V.cell? ⟨W.heap.size, 0, none⟩ = some c0 ∧ V.cell? ⟨W.heap.size, 1, none⟩ = some c1 ∧ V.cell? ⟨W.heap.size, 2, none⟩ = some c2) ∧ W.heap.size < V.heap.size := by
  have hs := hb.size
  simp at hs
  have h := fun (o : Nat) => hb.cell (p := ⟨W.heap.size, o, none⟩) (by simp)
  refine ⟨⟨?_, ?_, ?_⟩, by omega⟩
  · rw [h]; simp [go_sem]
  · rw [h]; simp [go_sem]
  · rw [h]; simp [go_sem]
theorem below3 {W V : World} {o : Obj} (hb : Below (W.alloc o).heap.size (W.alloc o) V) : Below W.heap.size W V :=
  ((Below.refl _ _).alloc (Nat.le_refl _) _).trans (hb.mono (by simp))
theorem cells_on {W V : World} {c0 c1 c2 : Value} {b : Nat} (hb : Below W.heap.size W V) (h : W.cell? ⟨b, 0, none⟩ = some c0 ∧ W.cell? ⟨b, 1, none⟩ = some c1 ∧ W.cell? ⟨b, 2, none⟩ = some c2) :
    V.cell? ⟨b, 0, none⟩ = some c0 ∧ V.cell? ⟨b, 1, none⟩ = some c1 ∧ V.cell? ⟨b, 2, none⟩ = some c2 := by
  have hlt := World.block_lt_of_cell? W _ h.1
  have g := fun (o : Nat) => hb.cell (p := ⟨b, o, none⟩) hlt
  exact ⟨by rw [g]; exact h.1, by rw [g]; exact h.2.1, by rw [g]; exact h.2.2⟩

set_option maxRecDepth 100000 in
set_option maxHeartbeats 1000000 in
theorem law_tells (a : Nat) (ha : a < 18446744073709551616) (w : World) (hT : TabW w) :
    Calls Tryd.prog 4 #[.float .f64 a] w fun r w' => r = .returned (.bool true) ∧ Below w.heap.size w w' := by
  have s1 := same_refl (ulpF a)
  have l1 := ulpF_lt a
  cases hf : finB a
  · go_enter Tryd.func4, Tryd.ntmps4
    go_upto_region 7 with (first | (go_at_call 23; refine (split_inf _ (by assumption) (by assumption) _).mono ?_; rintro r w1 ⟨rfl, hb1⟩) | (go_at_call 24; refine (rsplit_inf _ (by assumption) (by assumption) _).mono ?_; rintro r w2 ⟨rfl, hb2⟩) | (go_at_call 25; refine (place_any _ (by assumption) _).mono ?_; rintro r w' ⟨rfl, rfl⟩) | (go_at_call 26; refine (rplace_any _ (by assumption) _).mono ?_; rintro r w' ⟨rfl, rfl⟩) | (go_at_call 14; refine (ulp_any _ (by assumption) _).mono ?_; rintro r w' ⟨rfl, rfl⟩) | (go_at_call 27; refine (rulp_any _ (by assumption) _).mono ?_; rintro r w3 ⟨rfl, hb3⟩))
    have hz := cells3 hb2
    have hy := cells3 hb3
    have hB := below3 hb3
    have hx := cells_on hB hz.1
    obtain ⟨⟨y0, y1, y2⟩, _⟩ := hy
    obtain ⟨x0, x1, x2⟩ := hx
    have hA : Below w.heap.size w w3 := (hb1.trans ((below3 hb2).mono hb1.size)).trans (hB.mono (Nat.le_trans hb1.size (Nat.le_of_lt hz.2)))
    have hT3 := tabW_below hT hA
    clear hz hB hb2 hb3 hb1 hT
    go_wp2_with (first | (go_at_call 13; refine (samef_any _ _ (by assumption) (by assumption) _).mono ?_; rintro r w' ⟨rfl, rfl⟩) | (go_at_call 21; refine (kind_any _ (by assumption) _).mono ?_; rintro r w' ⟨rfl, rfl⟩) | (go_at_call 28; refine (rkind_any _ (by assumption) _).mono ?_; rintro r w' ⟨rfl, rfl⟩))
    have n1 := nextF_lt a false ha
    have n2 := nextF_lt a true ha
    have m1 := same_refl (nextF a false)
    have m2 := same_refl (nextF a true)
    go_loopg [16, 85] 2 (fun g _ c wr => ∃ k : Nat, k ≤ 2 ∧ g = 2 - k ∧ c = .int .i64 k ∧ w'.alloc (.cells #[.bool false, .bool true] 4) = wr)
    case atStart => exact ⟨0, by omega, rfl, rfl, rfl⟩
    case round =>
      obtain ⟨k, hk, hg, rfl, rfl⟩ := hrel
      have HG : Hid (gk = 2 - k) := hg
      clear hg
      rcases (show k = 0 ∨ k = 1 ∨ k = 2 by omega) with rfl | rfl | rfl
      · go_wp2_with (first | (go_at_call 13; refine (samef_any _ _ (by assumption) (by assumption) _).mono ?_; rintro r w'' ⟨rfl, hww⟩; subst hww) | (go_at_call 16; refine (next_any _ _ (by assumption) _).mono ?_; rintro r w'' ⟨rfl, hww⟩; subst hww) | (go_at_call 29; refine (rnext_any _ _ (by assumption) _).mono ?_; rintro r w'' ⟨rfl, hww⟩; subst hww))
        go_roundg 1
        case measure => rw [HG.out]; omega
        case rel => exact ⟨1, by omega, rfl, rfl, rfl⟩
      · go_wp2_with (first | (go_at_call 13; refine (samef_any _ _ (by assumption) (by assumption) _).mono ?_; rintro r w'' ⟨rfl, hww⟩; subst hww) | (go_at_call 16; refine (next_any _ _ (by assumption) _).mono ?_; rintro r w'' ⟨rfl, hww⟩; subst hww) | (go_at_call 29; refine (rnext_any _ _ (by assumption) _).mono ?_; rintro r w'' ⟨rfl, hww⟩; subst hww))
        go_roundg 0
        case measure => rw [HG.out]; omega
        case rel => exact ⟨2, by omega, rfl, rfl, rfl⟩
      · have hC := hA.alloc hA.size (.cells #[.bool false, .bool true] 4)
        have hT4 := tabW_below hT3 ((Below.refl _ _).alloc (Nat.le_refl _) (.cells #[.bool false, .bool true] 4))
        go_wp2_with (first | (go_at_call 22; refine (awake_any _ (by assumption)).mono ?_; rintro r w4 ⟨rfl, hb4⟩))
        go_ret
        exact ⟨rfl, hC.trans (hb4.mono hC.size)⟩
  · go_enter Tryd.func4, Tryd.ntmps4
    go_upto_region 7 with (first | (go_at_call 23; refine (split_fin _ (by assumption) (by assumption) _ (by assumption)).mono ?_; rintro r w1 ⟨rfl, hb1⟩) | (go_at_call 24; refine (rsplit_fin _ (by assumption) (by assumption) _).mono ?_; rintro r w2 ⟨rfl, hb2⟩) | (go_at_call 25; refine (place_any _ (by assumption) _).mono ?_; rintro r w' ⟨rfl, rfl⟩) | (go_at_call 26; refine (rplace_any _ (by assumption) _).mono ?_; rintro r w' ⟨rfl, rfl⟩) | (go_at_call 14; refine (ulp_any _ (by assumption) _).mono ?_; rintro r w' ⟨rfl, rfl⟩) | (go_at_call 27; refine (rulp_any _ (by assumption) _).mono ?_; rintro r w3 ⟨rfl, hb3⟩))
    have hz := cells3 hb2
    have hy := cells3 hb3
    have hB := below3 hb3
    have hx := cells_on hB hz.1
    obtain ⟨⟨y0, y1, y2⟩, _⟩ := hy
    obtain ⟨x0, x1, x2⟩ := hx
    have hA : Below w.heap.size w w3 := (hb1.trans ((below3 hb2).mono hb1.size)).trans (hB.mono (Nat.le_trans hb1.size (Nat.le_of_lt hz.2)))
    have hT3 := tabW_below hT hA
    clear hz hB hb2 hb3 hb1 hT
    go_wp2_with (first | (go_at_call 13; refine (samef_any _ _ (by assumption) (by assumption) _).mono ?_; rintro r w' ⟨rfl, rfl⟩) | (go_at_call 21; refine (kind_any _ (by assumption) _).mono ?_; rintro r w' ⟨rfl, rfl⟩) | (go_at_call 28; refine (rkind_any _ (by assumption) _).mono ?_; rintro r w' ⟨rfl, rfl⟩))
    have n1 := nextF_lt a false ha
    have n2 := nextF_lt a true ha
    have m1 := same_refl (nextF a false)
    have m2 := same_refl (nextF a true)
    go_loopg [16, 85] 2 (fun g _ c wr => ∃ k : Nat, k ≤ 2 ∧ g = 2 - k ∧ c = .int .i64 k ∧ w'.alloc (.cells #[.bool false, .bool true] 4) = wr)
    case atStart => exact ⟨0, by omega, rfl, rfl, rfl⟩
    case round =>
      obtain ⟨k, hk, hg, rfl, rfl⟩ := hrel
      have HG : Hid (gk = 2 - k) := hg
      clear hg
      rcases (show k = 0 ∨ k = 1 ∨ k = 2 by omega) with rfl | rfl | rfl
      · go_wp2_with (first | (go_at_call 13; refine (samef_any _ _ (by assumption) (by assumption) _).mono ?_; rintro r w'' ⟨rfl, hww⟩; subst hww) | (go_at_call 16; refine (next_any _ _ (by assumption) _).mono ?_; rintro r w'' ⟨rfl, hww⟩; subst hww) | (go_at_call 29; refine (rnext_any _ _ (by assumption) _).mono ?_; rintro r w'' ⟨rfl, hww⟩; subst hww))
        go_roundg 1
        case measure => rw [HG.out]; omega
        case rel => exact ⟨1, by omega, rfl, rfl, rfl⟩
      · go_wp2_with (first | (go_at_call 13; refine (samef_any _ _ (by assumption) (by assumption) _).mono ?_; rintro r w'' ⟨rfl, hww⟩; subst hww) | (go_at_call 16; refine (next_any _ _ (by assumption) _).mono ?_; rintro r w'' ⟨rfl, hww⟩; subst hww) | (go_at_call 29; refine (rnext_any _ _ (by assumption) _).mono ?_; rintro r w'' ⟨rfl, hww⟩; subst hww))
        go_roundg 0
        case measure => rw [HG.out]; omega
        case rel => exact ⟨2, by omega, rfl, rfl, rfl⟩
      · have hC := hA.alloc hA.size (.cells #[.bool false, .bool true] 4)
        have hT4 := tabW_below hT3 ((Below.refl _ _).alloc (Nat.le_refl _) (.cells #[.bool false, .bool true] 4))
        go_wp2_with (first | (go_at_call 22; refine (awake_any _ (by assumption)).mono ?_; rintro r w4 ⟨rfl, hb4⟩))
        go_ret
        exact ⟨rfl, hC.trans (hb4.mono hC.size)⟩
end Go.Proofs.YtgkodomppebijaaDoor
