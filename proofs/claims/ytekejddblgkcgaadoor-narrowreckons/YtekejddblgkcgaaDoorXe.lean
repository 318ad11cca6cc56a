/- What narrow's place, at, Next and To answer (To: where what the conversion gives is known), call by call. -/
import Derived.Test.YtekejddblgkcgaaDoorXd
namespace Go.Proofs.YtekejddblgkcgaaDoor
open Go.RowKit

theorem end_i32 {a b : Int} (h : a = b) : Ending.returned (.int .i32 a) = .returned (.int .i32 b) := by subst h; rfl
theorem s_place_bd {a : Nat} (h : S.nanB a = false) : -2139095040 ≤ S.place a ∧ S.place a ≤ 2139095040 := by
  have := s_nan_le h
  unfold S.place
  split <;> omega
/-- The narrow float at a place. -/
def sAt (p : Int) : Nat := if p < 0 then 2147483648 + (-p).toNat else p.toNat
def sNext (a : Nat) (up : Bool) : Nat := if S.nanB a then a else sAt (if up then min (S.place a) 2139095039 + 1 else max (S.place a) (-2139095039) - 1)
theorem s_at_ok {p : Int} (h : -2139095040 ≤ p ∧ p ≤ 2139095040) : S.place (sAt p) = p ∧ S.nanB (sAt p) = false ∧ sAt p < 4294967296 := by
  unfold sAt
  by_cases hp : p < 0
  · rw [if_pos hp]
    refine ⟨?_, ?_, by omega⟩
    · unfold S.place S.sgn S.rung; simp; omega
    · unfold S.nanB S.rung; simp; omega
  · rw [if_neg hp]
    have e : S.rung p.toNat = p.toNat := by unfold S.rung; omega
    have e2 : S.sgn p.toNat = false := by unfold S.sgn; simp; omega
    refine ⟨?_, ?_, by omega⟩
    · unfold S.place; rw [e, e2]; simp; omega
    · unfold S.nanB; rw [e]; simp; omega
theorem s_next_up {a : Nat} (h : S.nanB a = false) : S.place (sNext a true) = min (S.place a) 2139095039 + 1 ∧ S.nanB (sNext a true) = false ∧ sNext a true < 4294967296 := by
  have hb := s_place_bd h
  have e : sNext a true = sAt (min (S.place a) 2139095039 + 1) := by unfold sNext; rw [h]; rfl
  rw [e]; exact s_at_ok (by omega)
theorem s_next_dn {a : Nat} (h : S.nanB a = false) : S.place (sNext a false) = max (S.place a) (-2139095039) - 1 ∧ S.nanB (sNext a false) = false ∧ sNext a false < 4294967296 := by
  have hb := s_place_bd h
  have e : sNext a false = sAt (max (S.place a) (-2139095039) - 1) := by unfold sNext; rw [h]; rfl
  rw [e]; exact s_at_ok (by omega)
theorem s_next_ok {a : Nat} (h : S.nanB a = false) (up : Bool) : S.nanB (sNext a up) = false ∧ sNext a up < 4294967296 := by
  cases up
  · exact (s_next_dn h).2
  · exact (s_next_up h).2
set_option maxHeartbeats 400000 in
theorem n_place_any (a : Nat) (ha : a < 4294967296) (hn : S.nanB a = false) (w : World) :
    Calls Tryd.prog 45 #[.float .f32 a] w fun e w' => e = .returned (.int .i32 (S.place a)) ∧ w' = w := by
  have fa := run_sbits a
  have hr := s_nan_le hn
  have h1 := s_and_sign a ha
  have h2 := s_andNot_sign a ha
  have hw := s_rung_of a ha
  cases hs : S.sgn a
  · rw [hs] at h1 hw
    have HE : Hid (S.place a = (a : Int)) := (show S.place a = (a : Int) by unfold S.place; rw [hs]; simp at hw ⊢; omega)
    have h3 : (a : Int) < 2147483648 := by simp at hw; omega
    clear hs hw h2
    go_enter Tryd.func45, Tryd.ntmps45
    go_wp2
    go_ret
    exact ⟨end_i32 HE.out.symm, rfl⟩
  · rw [hs] at h1
    have HE : Hid (S.place a = -(S.rung a : Int)) := (show S.place a = -(S.rung a : Int) by unfold S.place; rw [hs]; simp)
    clear hs hw
    go_enter Tryd.func45, Tryd.ntmps45
    go_wp2
    go_ret
    exact ⟨end_i32 (by rw [HE.out]), rfl⟩
set_option maxHeartbeats 400000 in
theorem n_at_any (p : Int) (h1 : -2139095040 ≤ p) (h2 : p ≤ 2139095040) (w : World) :
    Calls Tryd.prog 42 #[.int .i32 p] w fun e w' => e = .returned (.float .f32 (sAt p)) ∧ w' = w := by
  have ff := run_sfrom
  by_cases hp : p < 0
  · have ho := s_or_sign (n := (-p).toNat) (by omega)
    rw [show (((-p).toNat : Nat) : Int) = -p by omega] at ho
    have HE : Hid (sAt p = 2147483648 + (-p).toNat) := (show sAt p = 2147483648 + (-p).toNat by unfold sAt; rw [if_pos hp])
    go_enter Tryd.func42, Tryd.ntmps42
    go_wp2
    go_ret
    exact ⟨end_flt32 (by rw [HE.out]; omega), rfl⟩
  · have HE : Hid (sAt p = p.toNat) := (show sAt p = p.toNat by unfold sAt; rw [if_neg hp])
    have hp' : 0 ≤ p := by omega
    clear hp
    go_enter Tryd.func42, Tryd.ntmps42
    go_wp2
    go_ret
    exact ⟨end_flt32 (by rw [HE.out]), rfl⟩
set_option maxHeartbeats 400000 in
theorem n_next_num (a : Nat) (up : Bool) (ha : a < 4294967296) (hn : S.nanB a = false) (w : World) :
    Calls Tryd.prog 25 #[.float .f32 a, .bool up] w fun e w' => e = .returned (.float .f32 (sNext a up)) ∧ w' = w := by
  have hb := s_place_bd hn
  cases up
  · have HE : Hid (sNext a false = sAt (max (S.place a) (-2139095039) - 1)) := (show sNext a false = sAt (max (S.place a) (-2139095039) - 1) by unfold sNext; rw [hn]; rfl)
    go_enter Tryd.func25, Tryd.ntmps25
    go_wp2_with (first | (go_at_call 44; refine (n_isnan_no a ha hn _).mono ?_; rintro e w' ⟨rfl, rfl⟩) | (go_at_call 45; refine (n_place_any a ha hn _).mono ?_; rintro e w' ⟨rfl, rfl⟩) | (go_at_call 42; refine (n_at_any _ (by omega) (by omega) _).mono ?_; rintro e w' ⟨rfl, rfl⟩))
    all_goals
      go_ret
      exact ⟨end_flt32 (by rw [HE.out]; congr 1; omega), rfl⟩
  · have HE : Hid (sNext a true = sAt (min (S.place a) 2139095039 + 1)) := (show sNext a true = sAt (min (S.place a) 2139095039 + 1) by unfold sNext; rw [hn]; rfl)
    go_enter Tryd.func25, Tryd.ntmps25
    go_wp2_with (first | (go_at_call 44; refine (n_isnan_no a ha hn _).mono ?_; rintro e w' ⟨rfl, rfl⟩) | (go_at_call 45; refine (n_place_any a ha hn _).mono ?_; rintro e w' ⟨rfl, rfl⟩) | (go_at_call 42; refine (n_at_any _ (by omega) (by omega) _).mono ?_; rintro e w' ⟨rfl, rfl⟩))
    all_goals
      go_ret
      exact ⟨end_flt32 (by rw [HE.out]; congr 1; omega), rfl⟩
set_option maxHeartbeats 400000 in
theorem n_next_nan (a : Nat) (up : Bool) (ha : a < 4294967296) (hn : S.nanB a = true) (w : World) :
    Calls Tryd.prog 25 #[.float .f32 a, .bool up] w fun e w' => e = .returned (.float .f32 a) ∧ w' = w.drew := by
  cases up <;>
  · go_enter Tryd.func25, Tryd.ntmps25
    go_wp2_with (go_at_call 44; refine (n_isnan_yes a ha hn _).mono ?_; rintro e w' ⟨rfl, rfl⟩)
    go_ret
    exact ⟨rfl, rfl⟩
end Go.Proofs.YtekejddblgkcgaaDoor
