/- What the document's Order and Between compute, and that BitsTwo answers true whatever two floats it is given (the library's table lying as its initialiser lays it). -/
import Derived.Test.YtajcfdcmbiffbaaGreatDoorZr
namespace Go.Proofs.YtajcfdcmbiffbaaGreatDoor
open Go.RowKit

set_option maxHeartbeats 400000 in
theorem rorder_any (a b : Nat) (ha : a < 18446744073709551616) (hb : b < 18446744073709551616) (w : World) :
    Calls Tryz.prog 39 #[.float .f64 a, .float .f64 b] w fun e w' => e = .returned (.int .i64 (ordF a b)) ∧ w' = w := by
  cases na : nanB a <;> cases nb : nanB b
  · have HP : Hid (plc a = place a) := (show plc a = place a by unfold plc; rw [na]; rfl)
    have HQ : Hid (plc b = place b) := (show plc b = place b by unfold plc; rw [nb]; rfl)
    by_cases h1 : plc a < plc b
    · have HE : Hid (ordF a b = -1) := (show ordF a b = -1 by unfold ordF; rw [na, nb]; rw [HP.out, HQ.out] at h1; simp [h1])
      have b1 : (plc a != plc b) = true := by simp; omega
      go_enter Tryz.func39, Tryz.ntmps39
      go_wp2_with (first | (go_at_call 52; refine (rnan_any _ (by assumption) _).mono ?_; rintro e w' ⟨rfl, rfl⟩) | (go_at_call 53; refine (rplace_any _ (by assumption) _).mono ?_; rintro e w' ⟨rfl, rfl⟩))
      go_ret
      exact ⟨end_int HE.out.symm, rfl⟩
    · by_cases h2 : plc b < plc a
      · have HE : Hid (ordF a b = 1) := (show ordF a b = 1 by unfold ordF; rw [na, nb]; rw [HP.out, HQ.out] at h1 h2; simp [h1, h2])
        have b1 : (plc a != plc b) = true := by simp; omega
        go_enter Tryz.func39, Tryz.ntmps39
        go_wp2_with (first | (go_at_call 52; refine (rnan_any _ (by assumption) _).mono ?_; rintro e w' ⟨rfl, rfl⟩) | (go_at_call 53; refine (rplace_any _ (by assumption) _).mono ?_; rintro e w' ⟨rfl, rfl⟩))
        go_ret
        exact ⟨end_int HE.out.symm, rfl⟩
      · have HE : Hid (ordF a b = ordS (sgn a) (sgn b)) := (show ordF a b = ordS (sgn a) (sgn b) by unfold ordF; rw [na, nb]; rw [HP.out, HQ.out] at h1 h2; simp [h1, h2])
        have b1 : (plc a != plc b) = false := by simp; omega
        clear h1 h2
        cases sa : sgn a <;> cases sb : sgn b
        all_goals
          go_enter Tryz.func39, Tryz.ntmps39
          go_wp2_with (first | (go_at_call 52; refine (rnan_any _ (by assumption) _).mono ?_; rintro e w' ⟨rfl, rfl⟩) | (go_at_call 53; refine (rplace_any _ (by assumption) _).mono ?_; rintro e w' ⟨rfl, rfl⟩) | (go_at_call 54; refine (fields_any _ (by assumption) _).mono ?_; rintro e w' ⟨rfl, rfl⟩))
          go_ret
          exact ⟨end_int (by rw [HE.out, sa, sb]; rfl), rfl⟩
  all_goals
    have HE : Hid (ordF a b = if nanB a && nanB b then 0 else if nanB a then 1 else -1) := (show _ = _ by unfold ordF; simp [na, nb])
    go_enter Tryz.func39, Tryz.ntmps39
    go_wp2_with (first | (go_at_call 52; refine (rnan_any _ (by assumption) _).mono ?_; rintro e w' ⟨rfl, rfl⟩))
    go_ret
    exact ⟨end_int (by rw [HE.out, na, nb]; rfl), rfl⟩

end Go.Proofs.YtajcfdcmbiffbaaGreatDoor
