/- What the document's Order and Between compute, and that BitsTwo answers true whatever two floats it is given (the library's table lying as its initialiser lays it). -/
import Derived.Test.YtgkodomppebijaaDoorRa
namespace Go.Proofs.YtgkodomppebijaaDoor
open Go.RowKit

set_option maxHeartbeats 400000 in
theorem rorder_any (a b : Nat) (ha : a < 18446744073709551616) (hb : b < 18446744073709551616) (w : World) :
    Calls Tryd.prog 34 #[.float .f64 a, .float .f64 b] w fun e w' => e = .returned (.int .i64 (ordF a b)) ∧ w' = w := by
  cases na : nanB a <;> cases nb : nanB b
  · have HP : Hid (plc a = place a) := (show plc a = place a by unfold plc; rw [na]; rfl)
    have HQ : Hid (plc b = place b) := (show plc b = place b by unfold plc; rw [nb]; rfl)
    by_cases h1 : plc a < plc b
    · have HE : Hid (ordF a b = -1) := (show ordF a b = -1 by unfold ordF; rw [na, nb]; rw [HP.out, HQ.out] at h1; simp [h1])
      have b1 : (plc a != plc b) = true := by simp; omega
      go_enter Tryd.func34, Tryd.ntmps34
      go_wp2_with (first | (go_at_call 50; refine (rnan_any _ (by assumption) _).mono ?_; rintro e w' ⟨rfl, rfl⟩) | (go_at_call 26; refine (rplace_any _ (by assumption) _).mono ?_; rintro e w' ⟨rfl, rfl⟩))
      go_ret
      exact ⟨end_int HE.out.symm, rfl⟩
    · by_cases h2 : plc b < plc a
      · have HE : Hid (ordF a b = 1) := (show ordF a b = 1 by unfold ordF; rw [na, nb]; rw [HP.out, HQ.out] at h1 h2; simp [h1, h2])
        have b1 : (plc a != plc b) = true := by simp; omega
        go_enter Tryd.func34, Tryd.ntmps34
        go_wp2_with (first | (go_at_call 50; refine (rnan_any _ (by assumption) _).mono ?_; rintro e w' ⟨rfl, rfl⟩) | (go_at_call 26; refine (rplace_any _ (by assumption) _).mono ?_; rintro e w' ⟨rfl, rfl⟩))
        go_ret
        exact ⟨end_int HE.out.symm, rfl⟩
      · have HE : Hid (ordF a b = ordS (sgn a) (sgn b)) := (show ordF a b = ordS (sgn a) (sgn b) by unfold ordF; rw [na, nb]; rw [HP.out, HQ.out] at h1 h2; simp [h1, h2])
        have b1 : (plc a != plc b) = false := by simp; omega
        clear h1 h2
        cases sa : sgn a <;> cases sb : sgn b
        all_goals
          go_enter Tryd.func34, Tryd.ntmps34
          go_wp2_with (first | (go_at_call 50; refine (rnan_any _ (by assumption) _).mono ?_; rintro e w' ⟨rfl, rfl⟩) | (go_at_call 26; refine (rplace_any _ (by assumption) _).mono ?_; rintro e w' ⟨rfl, rfl⟩) | (go_at_call 49; refine (fields_any _ (by assumption) _).mono ?_; rintro e w' ⟨rfl, rfl⟩))
          go_ret
          exact ⟨end_int (by rw [HE.out, sa, sb]; rfl), rfl⟩
  all_goals
    have HE : Hid (ordF a b = if nanB a && nanB b then 0 else if nanB a then 1 else -1) := (show _ = _ by unfold ordF; simp [na, nb])
    go_enter Tryd.func34, Tryd.ntmps34
    go_wp2_with (first | (go_at_call 50; refine (rnan_any _ (by assumption) _).mono ?_; rintro e w' ⟨rfl, rfl⟩))
    go_ret
    exact ⟨end_int (by rw [HE.out, na, nb]; rfl), rfl⟩

set_option maxHeartbeats 400000 in
theorem rbetween_any (a b : Nat) (ha : a < 18446744073709551616) (hb : b < 18446744073709551616) (w : World) :
    Calls Tryd.prog 32 #[.float .f64 a, .float .f64 b] w fun e w' => e = .returned (.tuple #[.int .u64 (btwN a b), .bool (btwB a b)]) ∧ w' = w := by
  cases na : nanB a <;> cases nb : nanB b
  · have h3 := place_nan na
    have h4 := place_nan nb
    have HP : Hid (plc a = place a) := (show plc a = place a by unfold plc; rw [na]; rfl)
    have HQ : Hid (plc b = place b) := (show plc b = place b by unfold plc; rw [nb]; rfl)
    rw [← HP.out] at h3
    rw [← HQ.out] at h4
    by_cases h1 : plc a ≤ plc b
    · have HB : Hid (btwB a b = true) := (show btwB a b = true by unfold btwB; rw [na, nb]; rw [HP.out, HQ.out] at h1; simpa using h1)
      have HE : Hid (btwN a b = plc b - plc a) := (show btwN a b = plc b - plc a by unfold btwN; rw [HB.out, HP.out, HQ.out]; rfl)
      by_cases h5 : 0 ≤ plc a
      · go_enter Tryd.func32, Tryd.ntmps32
        go_wp2_with (go_at_call 26; refine (rplace_any _ (by assumption) _).mono ?_; rintro e w' ⟨rfl, rfl⟩)
        go_ret2
        exact ⟨end_ib (by rw [HE.out]) HB.out.symm, rfl⟩
      · by_cases h6 : plc b < 0
        · go_enter Tryd.func32, Tryd.ntmps32
          go_wp2_with (go_at_call 26; refine (rplace_any _ (by assumption) _).mono ?_; rintro e w' ⟨rfl, rfl⟩)
          go_ret2
          exact ⟨end_ib (by rw [HE.out]) HB.out.symm, rfl⟩
        · go_enter Tryd.func32, Tryd.ntmps32
          go_wp2_with (go_at_call 26; refine (rplace_any _ (by assumption) _).mono ?_; rintro e w' ⟨rfl, rfl⟩)
          go_ret2
          exact ⟨end_ib (by rw [HE.out]; omega) HB.out.symm, rfl⟩
    · have HB : Hid (btwB a b = false) := (show btwB a b = false by unfold btwB; rw [na, nb]; rw [HP.out, HQ.out] at h1; simpa using h1)
      have HE : Hid (btwN a b = 0) := (show btwN a b = 0 by unfold btwN; rw [HB.out]; rfl)
      go_enter Tryd.func32, Tryd.ntmps32
      go_wp2_with (go_at_call 26; refine (rplace_any _ (by assumption) _).mono ?_; rintro e w' ⟨rfl, rfl⟩)
      go_ret2
      exact ⟨end_ib HE.out.symm HB.out.symm, rfl⟩
  all_goals
    have HB : Hid (btwB a b = false) := (show btwB a b = false by unfold btwB; rw [na, nb]; rfl)
    have HE : Hid (btwN a b = 0) := (show btwN a b = 0 by unfold btwN; rw [HB.out]; rfl)
    go_enter Tryd.func32, Tryd.ntmps32
    go_wp2_with (go_at_call 26; refine (rplace_any _ (by assumption) _).mono ?_; rintro e w' ⟨rfl, rfl⟩)
    go_ret2
    exact ⟨end_ib HE.out.symm HB.out.symm, rfl⟩

set_option maxRecDepth 100000 in
set_option maxHeartbeats 1000000 in
theorem law_two (a b : Nat) (ha : a < 18446744073709551616) (hb : b < 18446744073709551616) (w : World) (hT : TabW w) :
    Calls Tryd.prog 6 #[.float .f64 a, .float .f64 b] w fun e w' => e = .returned (.bool true) ∧ Below w.heap.size w w' := by
  go_enter Tryd.func6, Tryd.ntmps6
  go_wp2_with (first | (go_at_call 17; refine (order_any _ _ (by assumption) (by assumption) _).mono ?_; rintro e w' ⟨rfl, rfl⟩) | (go_at_call 18; refine (same_any _ _ (by assumption) (by assumption) _).mono ?_; rintro e w' ⟨rfl, rfl⟩) | (go_at_call 15; refine (between_any _ _ (by assumption) (by assumption) _).mono ?_; rintro e w' ⟨rfl, rfl⟩) | (go_at_call 34; refine (rorder_any _ _ (by assumption) (by assumption) _).mono ?_; rintro e w' ⟨rfl, rfl⟩) | (go_at_call 33; refine (rsame_any _ _ (by assumption) (by assumption) _).mono ?_; rintro e w' ⟨rfl, rfl⟩) | (go_at_call 32; refine (rbetween_any _ _ (by assumption) (by assumption) _).mono ?_; rintro e w' ⟨rfl, rfl⟩) | (go_at_call 22; refine (awake_any _ (by assumption)).mono ?_; rintro e w1 ⟨rfl, hb1⟩))
  go_ret
  exact ⟨rfl, hb1⟩
end Go.Proofs.YtgkodomppebijaaDoor
