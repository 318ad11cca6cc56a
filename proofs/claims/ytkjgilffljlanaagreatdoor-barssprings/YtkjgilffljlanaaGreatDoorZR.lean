/- The document's Split of any float, and that BitsTells answers true whatever float it is given (the library's table lying as its initialiser lays it). -/
import Derived.Test.YtkjgilffljlanaaGreatDoorK1
import Derived.Test.YtkjgilffljlanaaGreatDoorZg
import Derived.Test.YtkjgilffljlanaaGreatDoorU1
import Derived.Deep.QuietTactic
import Derived.BigQuiet
import Derived.Deep.LoopGhost
import Derived.Deep.DeepCutAuto
namespace Go.Proofs.YtkjgilffljlanaaGreatDoor
open Go.RowKit
theorem end_bii {k l : IntKind} {a a' : Bool} {b b' c c' : Int} (h : a = a') (g : b = b') (f : c = c') : Ending.returned (.tuple #[.bool a, .int k b, .int l c]) = .returned (.tuple #[.bool a', .int k b', .int l c']) := by subst h; subst g; subst f; rfl
theorem sgn_div {a : Nat} (ha : a < 18446744073709551616) : ((a : Int) / 9223372036854775808 == 1) = sgn a := by
 unfold sgn; rw [Bool.eq_iff_iff]; simp; omega
theorem expo_int {a : Nat} : (a : Int) / 4503599627370496 % 2048 = (expo a : Int) := by unfold expo; omega
theorem frc_int {a : Nat} : (a : Int) % 4503599627370496 = (frc a : Int) := by unfold frc rung; omega
theorem rung_ef {a : Nat} (ha : a < 18446744073709551616) : rung a = expo a * 4503599627370496 + frc a := by unfold frc; rw [expo_rung ha]; omega
theorem expo_lt (a : Nat) : expo a < 2048 := by unfold expo; omega
theorem frc_lt (a : Nat) : frc a < 4503599627370496 := by unfold frc; omega
set_option maxHeartbeats 400000 in
theorem fields_any (a : Nat) (ha : a < 18446744073709551616) (w : World) :
  Calls Tryz.prog 147 #[.float .f64 a] w fun e w' => e = .returned (.tuple #[.bool (sgn a), .int .i64 (expo a), .int .u64 (frc a)]) ∧ w' = w := by
 have fa := run_fbits a
 go_enter Tryz.func147, Tryz.ntmps147
 go_wp2
 go_ret3
 exact ⟨end_bii (sgn_div ha) expo_int frc_int, rfl⟩
def kindF (a : Nat) : Int := if expo a = 2047 then (if frc a = 0 then 3 else 4) else if expo a = 0 then (if frc a = 0 then 0 else 1) else 2
theorem kind_nan {a : Nat} (ha : a < 18446744073709551616) : (kindF a == 4) = nanB a := by
 have h1 := rung_ef ha
 have h2 := expo_lt a
 have h3 := frc_lt a
 unfold kindF nanB
 rw [Bool.eq_iff_iff]
 simp only [beq_iff_eq, decide_eq_true_eq]
 (repeat' split) <;> omega
set_option maxHeartbeats 400000 in
theorem rkind_any (a : Nat) (ha : a < 18446744073709551616) (w : World) :
  Calls Tryz.prog 160 #[.float .f64 a] w fun e w' => e = .returned (.int .i64 (kindF a)) ∧ w' = w := by
 have he := expo_lt a
 by_cases h1 : expo a = 2047
 ·have b1 : ((expo a : Int) == 2047) = true := by simp; omega
  by_cases h2 : frc a = 0
  ·have b2 : ((frc a : Int) != 0) = false := by simp; omega
   have HE : Hid (kindF a = 3) := (show kindF a = 3 by unfold kindF; rw [if_pos h1, if_pos h2])
   clear h1 h2
   go_enter Tryz.func160, Tryz.ntmps160
   go_wp2_with (go_at_call 147; refine (fields_any _ (by assumption) _).mono ?_; rintro e w' ⟨rfl, rfl⟩)
   go_ret
   exact ⟨end_int HE.out.symm, rfl⟩
  ·have b2 : ((frc a : Int) != 0) = true := by simp; omega
   have HE : Hid (kindF a = 4) := (show kindF a = 4 by unfold kindF; rw [if_pos h1, if_neg h2])
   clear h1 h2
   go_enter Tryz.func160, Tryz.ntmps160
   go_wp2_with (go_at_call 147; refine (fields_any _ (by assumption) _).mono ?_; rintro e w' ⟨rfl, rfl⟩)
   go_ret
   exact ⟨end_int HE.out.symm, rfl⟩
 ·have b1 : ((expo a : Int) == 2047) = false := by simp; omega
  by_cases h3 : expo a = 0
  ·have b3 : ¬ (0 < (expo a : Int)) := by omega
   by_cases h2 : frc a = 0
   ·have b2 : ((frc a : Int) != 0) = false := by simp; omega
    have HE : Hid (kindF a = 0) := (show kindF a = 0 by unfold kindF; rw [if_neg h1, if_pos h3, if_pos h2])
    clear h1 h2 h3
    go_enter Tryz.func160, Tryz.ntmps160
    go_wp2_with (go_at_call 147; refine (fields_any _ (by assumption) _).mono ?_; rintro e w' ⟨rfl, rfl⟩)
    go_ret
    exact ⟨end_int HE.out.symm, rfl⟩
   ·have b2 : ((frc a : Int) != 0) = true := by simp; omega
    have HE : Hid (kindF a = 1) := (show kindF a = 1 by unfold kindF; rw [if_neg h1, if_pos h3, if_neg h2])
    clear h1 h2 h3
    go_enter Tryz.func160, Tryz.ntmps160
    go_wp2_with (go_at_call 147; refine (fields_any _ (by assumption) _).mono ?_; rintro e w' ⟨rfl, rfl⟩)
    go_ret
    exact ⟨end_int HE.out.symm, rfl⟩
  ·have b3 : (0 < (expo a : Int)) := by omega
   have HE : Hid (kindF a = 2) := (show kindF a = 2 by unfold kindF; rw [if_neg h1, if_neg h3])
   clear h1 h3
   go_enter Tryz.func160, Tryz.ntmps160
   go_wp2_with (go_at_call 147; refine (fields_any _ (by assumption) _).mono ?_; rintro e w' ⟨rfl, rfl⟩)
   go_ret
   exact ⟨end_int HE.out.symm, rfl⟩
set_option maxHeartbeats 400000 in
theorem rnan_any (a : Nat) (ha : a < 18446744073709551616) (w : World) :
  Calls Tryz.prog 145 #[.float .f64 a] w fun e w' => e = .returned (.bool (nanB a)) ∧ w' = w := by
 go_enter Tryz.func145, Tryz.ntmps145
 go_wp2_with (go_at_call 160; refine (rkind_any _ (by assumption) _).mono ?_; rintro e w' ⟨rfl, rfl⟩)
 go_ret
 exact ⟨end_bool (kind_nan ha), rfl⟩
set_option maxHeartbeats 400000 in
theorem rplace_any (a : Nat) (ha : a < 18446744073709551616) (w : World) :
  Calls Tryz.prog 146 #[.float .f64 a] w fun e w' => e = .returned (.tuple #[.int .i64 (plc a), .bool (!nanB a)]) ∧ w' = w := by
 have he := expo_lt a
 have hf := frc_lt a
 cases na : nanB a
 ·cases sa : sgn a
  all_goals
   have HE : Hid (plc a = if sgn a then -(rung a : Int) else (rung a : Int)) := (show plc a = _ by unfold plc; rw [na]; rfl)
   have HR : Hid (rung a = expo a * 4503599627370496 + frc a) := rung_ef ha
   go_enter Tryz.func146, Tryz.ntmps146
   go_wp2_with (first | (go_at_call 145; refine (rnan_any _ (by assumption) _).mono ?_; rintro e w' ⟨rfl, rfl⟩) | (go_at_call 147; refine (fields_any _ (by assumption) _).mono ?_; rintro e w' ⟨rfl, rfl⟩))
   go_ret2
   have h1 := HE.out
   rw [sa] at h1
   exact ⟨end_ib (by rw [h1, HR.out]; simp only [if_true, if_false, Bool.false_eq_true]; omega) rfl, rfl⟩
 ·have HE : Hid (plc a = 0) := (show plc a = 0 by unfold plc; rw [na]; rfl)
  go_enter Tryz.func146, Tryz.ntmps146
  go_wp2_with (go_at_call 145; refine (rnan_any _ (by assumption) _).mono ?_; rintro e w' ⟨rfl, rfl⟩)
  go_ret2
  exact ⟨end_ib HE.out.symm rfl, rfl⟩
set_option maxHeartbeats 400000 in
theorem rorder_any (a b : Nat) (ha : a < 18446744073709551616) (hb : b < 18446744073709551616) (w : World) :
  Calls Tryz.prog 121 #[.float .f64 a, .float .f64 b] w fun e w' => e = .returned (.int .i64 (ordF a b)) ∧ w' = w := by
 cases na : nanB a <;> cases nb : nanB b
 ·have HP : Hid (plc a = place a) := (show plc a = place a by unfold plc; rw [na]; rfl)
  have HQ : Hid (plc b = place b) := (show plc b = place b by unfold plc; rw [nb]; rfl)
  by_cases h1 : plc a < plc b
  ·have HE : Hid (ordF a b = -1) := (show ordF a b = -1 by unfold ordF; rw [na, nb]; rw [HP.out, HQ.out] at h1; simp [h1])
   have b1 : (plc a != plc b) = true := by simp; omega
   go_enter Tryz.func121, Tryz.ntmps121
   go_wp2_with (first | (go_at_call 145; refine (rnan_any _ (by assumption) _).mono ?_; rintro e w' ⟨rfl, rfl⟩) | (go_at_call 146; refine (rplace_any _ (by assumption) _).mono ?_; rintro e w' ⟨rfl, rfl⟩))
   go_ret
   exact ⟨end_int HE.out.symm, rfl⟩
  ·by_cases h2 : plc b < plc a
   ·have HE : Hid (ordF a b = 1) := (show ordF a b = 1 by unfold ordF; rw [na, nb]; rw [HP.out, HQ.out] at h1 h2; simp [h1, h2])
    have b1 : (plc a != plc b) = true := by simp; omega
    go_enter Tryz.func121, Tryz.ntmps121
    go_wp2_with (first | (go_at_call 145; refine (rnan_any _ (by assumption) _).mono ?_; rintro e w' ⟨rfl, rfl⟩) | (go_at_call 146; refine (rplace_any _ (by assumption) _).mono ?_; rintro e w' ⟨rfl, rfl⟩))
    go_ret
    exact ⟨end_int HE.out.symm, rfl⟩
   ·have HE : Hid (ordF a b = ordS (sgn a) (sgn b)) := (show ordF a b = ordS (sgn a) (sgn b) by unfold ordF; rw [na, nb]; rw [HP.out, HQ.out] at h1 h2; simp [h1, h2])
    have b1 : (plc a != plc b) = false := by simp; omega
    clear h1 h2
    cases sa : sgn a <;> cases sb : sgn b
    all_goals
     go_enter Tryz.func121, Tryz.ntmps121
     go_wp2_with (first | (go_at_call 145; refine (rnan_any _ (by assumption) _).mono ?_; rintro e w' ⟨rfl, rfl⟩) | (go_at_call 146; refine (rplace_any _ (by assumption) _).mono ?_; rintro e w' ⟨rfl, rfl⟩) | (go_at_call 147; refine (fields_any _ (by assumption) _).mono ?_; rintro e w' ⟨rfl, rfl⟩))
     go_ret
     exact ⟨end_int (by rw [HE.out, sa, sb]; rfl), rfl⟩
 all_goals
  have HE : Hid (ordF a b = if nanB a && nanB b then 0 else if nanB a then 1 else -1) := (show _ = _ by unfold ordF; simp [na, nb])
  go_enter Tryz.func121, Tryz.ntmps121
  go_wp2_with (first | (go_at_call 145; refine (rnan_any _ (by assumption) _).mono ?_; rintro e w' ⟨rfl, rfl⟩))
  go_ret
  exact ⟨end_int (by rw [HE.out, na, nb]; rfl), rfl⟩
theorem nextF_lt (a : Nat) (up : Bool) (ha : a < 18446744073709551616) : nextF a up < 18446744073709551616 := by
 unfold nextF; split
 ·exact ha
 ·exact atF_lt _
end Go.Proofs.YtkjgilffljlanaaGreatDoor
