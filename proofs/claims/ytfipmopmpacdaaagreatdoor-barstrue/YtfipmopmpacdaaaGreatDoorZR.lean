/- What the document's Order and Between compute, and that BitsTwo answers true whatever two floats it is given (the library's table lying as its initialiser lays it). -/
import Derived.Test.YtfipmopmpacdaaaGreatDoorK1
import Derived.Test.YtfipmopmpacdaaaGreatDoorZg
import Derived.Deep.QuietTactic
import Derived.BigQuiet
import Derived.Deep.LoopGhost
import Derived.Deep.DeepCutAuto
namespace Go.Proofs.YtfipmopmpacdaaaGreatDoor
open Go.RowKit
theorem end_bii {k l : IntKind} {a a' : Bool} {b b' c c' : Int} (h : a = a') (g : b = b') (f : c = c') : Ending.returned (.tuple #[.bool a, .int k b, .int l c]) = .returned (.tuple #[.bool a', .int k b', .int l c']) := by subst h; subst g; subst f; rfl
theorem sgn_div {a : Nat} (ha : a < 18446744073709551616) : ((a : Int) / 9223372036854775808 == 1) = sgn a := by
 unfold sgn; rw [Bool.eq_iff_iff]; simp; omega
theorem expo_int {a : Nat} : (a : Int) / 4503599627370496 % 2048 = (expo a : Int) := by unfold expo; omega
theorem frc_int {a : Nat} : (a : Int) % 4503599627370496 = (frc a : Int) := by unfold frc rung; omega
theorem rung_ef {a : Nat} (ha : a < 18446744073709551616) : rung a = expo a * 4503599627370496 + frc a := by unfold frc; rw [expo_rung ha]; omega
theorem expo_lt (a : Nat) : expo a < 2048 := by unfold expo; omega
theorem frc_lt (a : Nat) : frc a < 4503599627370496 := by unfold frc; omega
set_option maxHeartbeats 400000 in
theorem fields_any (a : Nat) (ha : a < 18446744073709551616) (w : World) :
  Calls Tryz.prog 64 #[.float .f64 a] w fun e w' => e = .returned (.tuple #[.bool (sgn a), .int .i64 (expo a), .int .u64 (frc a)]) ∧ w' = w := by
 have fa := run_fbits a
 go_enter Tryz.func64, Tryz.ntmps64
 go_wp2
 go_ret3
 exact ⟨end_bii (sgn_div ha) expo_int frc_int, rfl⟩
def kindF (a : Nat) : Int := if expo a = 2047 then (if frc a = 0 then 3 else 4) else if expo a = 0 then (if frc a = 0 then 0 else 1) else 2
theorem kind_fin {a : Nat} (ha : a < 18446744073709551616) : decide (kindF a < 3) = finB a := by
 have h1 := rung_ef ha
 have h2 := expo_lt a
 have h3 := frc_lt a
 unfold kindF finB
 rw [decide_eq_decide]
 (repeat' split) <;> omega
set_option maxHeartbeats 400000 in
theorem rkind_any (a : Nat) (ha : a < 18446744073709551616) (w : World) :
  Calls Tryz.prog 80 #[.float .f64 a] w fun e w' => e = .returned (.int .i64 (kindF a)) ∧ w' = w := by
 have he := expo_lt a
 by_cases h1 : expo a = 2047
 ·have b1 : ((expo a : Int) == 2047) = true := by simp; omega
  by_cases h2 : frc a = 0
  ·have b2 : ((frc a : Int) != 0) = false := by simp; omega
   have HE : Hid (kindF a = 3) := (show kindF a = 3 by unfold kindF; rw [if_pos h1, if_pos h2])
   clear h1 h2
   go_enter Tryz.func80, Tryz.ntmps80
   go_wp2_with (go_at_call 64; refine (fields_any _ (by assumption) _).mono ?_; rintro e w' ⟨rfl, rfl⟩)
   go_ret
   exact ⟨end_int HE.out.symm, rfl⟩
  ·have b2 : ((frc a : Int) != 0) = true := by simp; omega
   have HE : Hid (kindF a = 4) := (show kindF a = 4 by unfold kindF; rw [if_pos h1, if_neg h2])
   clear h1 h2
   go_enter Tryz.func80, Tryz.ntmps80
   go_wp2_with (go_at_call 64; refine (fields_any _ (by assumption) _).mono ?_; rintro e w' ⟨rfl, rfl⟩)
   go_ret
   exact ⟨end_int HE.out.symm, rfl⟩
 ·have b1 : ((expo a : Int) == 2047) = false := by simp; omega
  by_cases h3 : expo a = 0
  ·have b3 : ¬ (0 < (expo a : Int)) := by omega
   by_cases h2 : frc a = 0
   ·have b2 : ((frc a : Int) != 0) = false := by simp; omega
    have HE : Hid (kindF a = 0) := (show kindF a = 0 by unfold kindF; rw [if_neg h1, if_pos h3, if_pos h2])
    clear h1 h2 h3
    go_enter Tryz.func80, Tryz.ntmps80
    go_wp2_with (go_at_call 64; refine (fields_any _ (by assumption) _).mono ?_; rintro e w' ⟨rfl, rfl⟩)
    go_ret
    exact ⟨end_int HE.out.symm, rfl⟩
   ·have b2 : ((frc a : Int) != 0) = true := by simp; omega
    have HE : Hid (kindF a = 1) := (show kindF a = 1 by unfold kindF; rw [if_neg h1, if_pos h3, if_neg h2])
    clear h1 h2 h3
    go_enter Tryz.func80, Tryz.ntmps80
    go_wp2_with (go_at_call 64; refine (fields_any _ (by assumption) _).mono ?_; rintro e w' ⟨rfl, rfl⟩)
    go_ret
    exact ⟨end_int HE.out.symm, rfl⟩
  ·have b3 : (0 < (expo a : Int)) := by omega
   have HE : Hid (kindF a = 2) := (show kindF a = 2 by unfold kindF; rw [if_neg h1, if_neg h3])
   clear h1 h3
   go_enter Tryz.func80, Tryz.ntmps80
   go_wp2_with (go_at_call 64; refine (fields_any _ (by assumption) _).mono ?_; rintro e w' ⟨rfl, rfl⟩)
   go_ret
   exact ⟨end_int HE.out.symm, rfl⟩
set_option maxHeartbeats 400000 in
theorem rfinite_any (a : Nat) (ha : a < 18446744073709551616) (w : World) :
  Calls Tryz.prog 63 #[.float .f64 a] w fun e w' => e = .returned (.bool (finB a)) ∧ w' = w := by
 go_enter Tryz.func63, Tryz.ntmps63
 go_wp2_with (go_at_call 80; refine (rkind_any _ (by assumption) _).mono ?_; rintro e w' ⟨rfl, rfl⟩)
 go_ret
 exact ⟨end_bool (kind_fin ha), rfl⟩
theorem odd_unique {m k q z : Nat} (hm : m % 2 = 1) (h : m * 2 ^ k = 2 ^ z * (2 * q + 1)) : k = z ∧ m = 2 * q + 1 := by
 have key : ∀ {x y i j : Nat}, x % 2 = 1 → x * 2 ^ i = y * 2 ^ j → j ≤ i → y % 2 = 1 → i = j ∧ x = y := by
  intro x y i j hx he hji hy
  obtain ⟨d, rfl⟩ : ∃ d, i = j + d := ⟨i - j, by omega⟩
  rw [Nat.pow_add, Nat.mul_comm (2 ^ j), ← Nat.mul_assoc] at he
  have he' := Nat.eq_of_mul_eq_mul_right (Nat.two_pow_pos j) he
  cases d with
  | zero => simp at he'; exact ⟨rfl, he'⟩
  | succ d => rw [Nat.pow_succ, ← Nat.mul_assoc] at he'; omega
 rw [Nat.mul_comm (2 ^ z)] at h
 by_cases hkz : z ≤ k
 ·exact key hm h hkz (by omega)
 ·have := key (by omega) h.symm (by omega) hm
  exact ⟨this.1.symm, this.2.symm⟩
theorem split_end {a m k : Nat} (h0 : rung a ≠ 0) (hm : m % 2 = 1) (h : m * 2 ^ k = mg (rung a)) : spZ a = k ∧ spF a = m := by
 have hlt := mg_lt (rung a)
 have hne := mg_ne h0
 obtain ⟨q, hq, hz⟩ := Lib.ctzFrom_spec 64 (mg (rung a)) (by omega) (by omega)
 have e : spZ a = Lib.ctzFrom 64 (mg (rung a)) := by unfold spZ Lib.ctz; rw [if_neg hne]
 rw [← e] at hq
 obtain ⟨h1, h2⟩ := odd_unique hm (h.trans hq)
 refine ⟨h1.symm, ?_⟩
 unfold spF
 rw [if_neg h0, ← h1, ← h, Nat.mul_div_cancel _ (Nat.two_pow_pos _)]
theorem half_bd {a g k : Nat} (h : g * 2 ^ k = mg (rung a)) (h0 : rung a ≠ 0) : 0 < g ∧ g < 9007199254740992 ∧ k < 53 := by
 have h1 := mg_lt (rung a)
 have h2 := mg_ne h0
 have hp := Nat.two_pow_pos k
 have hg : 0 < g := by
  rcases Nat.eq_zero_or_pos g with e | e
  ·rw [e] at h; omega
  ·exact e
 have hle : g ≤ g * 2 ^ k := Nat.le_mul_of_pos_right _ hp
 refine ⟨hg, by omega, ?_⟩
 have h3 : 2 ^ k ≤ g * 2 ^ k := Nat.le_mul_of_pos_left _ hg
 have h4 : 2 ^ k < 2 ^ 53 := by omega
 exact (Nat.pow_lt_pow_iff_right (by omega)).1 h4
set_option maxRecDepth 100000 in
set_option maxHeartbeats 1000000 in
theorem rsplit_norm (a : Nat) (ha : a < 18446744073709551616) (hf : finB a = true) (hx : (0 : Int) < (expo a : Int)) (hr : rung a ≠ 0) (hmg : mg (rung a) = frc a + 4503599627370496) (hup : (up (rung a) : Int) = expo a - 1) (w : World) :
  Calls Tryz.prog 39 #[.float .f64 a] w fun e w' => e = .returned (.tuple #[.agg #[.bool (sgn a), .int .u64 (spF a), .int .i64 (spE a)], .bool true]) ∧ Below w.heap.size w w' := by
 have he := expo_lt a
 have hfr := frc_lt a
 have b1 : ((frc a : Int) + 4503599627370496 == 0) = false := by simp; omega
 have HR : Hid (rung a ≠ 0) := hr
 have HM : Hid (mg (rung a) = frc a + 4503599627370496) := hmg
 have HU : Hid ((up (rung a) : Int) = expo a - 1) := hup
 clear hr hmg hup
 go_enter Tryz.func39, Tryz.ntmps39
 go_wp2_with (first | (go_at_call 63; refine (rfinite_any _ (by assumption) _).mono ?_; rintro e w' ⟨rfl, rfl⟩) | (go_at_call 64; refine (fields_any _ (by assumption) _).mono ?_; rintro e w' ⟨rfl, rfl⟩))
 go_loopg [] (frc a + 4503599627370496) (fun g wr => ∃ (k : Nat) (m x : Int), (w.alloc (.cells #[.bool false, .int .u64 0, .int .i64 0] 96)).alloc (.cells #[.bool (sgn a), .int .u64 m, .int .i64 x] 96) = wr ∧ m = (g : Int) ∧ Aside (g * 2 ^ k = mg (rung a) ∧ x = (up (rung a) : Int) - 1074 + k))
 case atStart => exact ⟨0, _, _, rfl, by omega, ⟨by rw [HM.out]; simp, by rw [HU.out]; simp; omega⟩⟩
 case round =>
  obtain ⟨k, m, x, rfl, hmg, hA⟩ := hrel
  have hbd := half_bd (a := a) hA.out.1 HR.out
  have hf1 := up_lt hf
  have hx1 : -1074 ≤ x ∧ x < 2100 := by have := hA.out.2; omega
  have hm0 : 0 < m := by omega
  have hm1 : m < 9007199254740992 := by omega
  have c0 : (m != 0) = true := by simp; omega
  have HG : Hid (m = (gk : Int)) := hmg
  have HB : Hid (0 < gk ∧ gk < 9007199254740992 ∧ k < 53) := hbd
  clear hbd hmg hf1
  by_cases hev : m % 2 = 0
  ·have c1 : (m % 2 == 0) = true := by simp; omega
   have HV : Hid (m % 2 = 0) := hev
   clear hev
   go_wp2
   go_roundg (gk / 2)
   case measure => have := HB.out; omega
   case rel =>
    refine ⟨k + 1, _, _, rfl, by have := HG.out; have := HV.out; omega, ⟨?_, by have := hA.out.2; omega⟩⟩
    have h1 := hA.out.1
    have h2 : gk = 2 * (gk / 2) := by have := HG.out; have := HV.out; omega
    rw [← h1, Nat.pow_succ, Nat.mul_comm (2 ^ k), ← Nat.mul_assoc, Nat.mul_comm (gk / 2), ← h2]
  ·have c1 : (m % 2 == 0) = false := by simp; omega
   obtain ⟨e1, e2⟩ := split_end (a := a) (m := gk) (k := k) HR.out (by have := HG.out; omega) hA.out.1
   have HF : Hid ((spF a : Int) = m) := (show _ = _ by rw [e2]; exact HG.out.symm)
   have HE : Hid (spE a = x) := (show spE a = x by unfold spE; rw [if_neg HR.out, e1]; exact hA.out.2.symm)
   clear hev e1 e2
   go_wp2
   refine bodyPost_ret (v := .tuple #[.agg #[.bool (sgn a), .int .u64 (spF a), .int .i64 (spE a)], .bool true]) ?_ rfl ⟨rfl, ((Below.refl _ _).alloc (Nat.le_refl _) _).alloc (by simp) _⟩
   rw [HF.out, HE.out]
   simp [results, Tryz.results39, go_sem]
set_option maxRecDepth 100000 in
set_option maxHeartbeats 1000000 in
theorem rsplit_sub (a : Nat) (ha : a < 18446744073709551616) (hf : finB a = true) (hx : ¬ (0 : Int) < (expo a : Int)) (hr : rung a ≠ 0) (hmg : mg (rung a) = frc a) (hup : (up (rung a) : Int) = 0) (w : World) :
  Calls Tryz.prog 39 #[.float .f64 a] w fun e w' => e = .returned (.tuple #[.agg #[.bool (sgn a), .int .u64 (spF a), .int .i64 (spE a)], .bool true]) ∧ Below w.heap.size w w' := by
 have he := expo_lt a
 have hfr := frc_lt a
 have b1 : ((frc a : Int) == 0) = false := by have := mg_ne hr; simp; omega
 have HR : Hid (rung a ≠ 0) := hr
 have HM : Hid (mg (rung a) = frc a) := hmg
 have HU : Hid ((up (rung a) : Int) = 0) := hup
 clear hr hmg hup
 go_enter Tryz.func39, Tryz.ntmps39
 go_wp2_with (first | (go_at_call 63; refine (rfinite_any _ (by assumption) _).mono ?_; rintro e w' ⟨rfl, rfl⟩) | (go_at_call 64; refine (fields_any _ (by assumption) _).mono ?_; rintro e w' ⟨rfl, rfl⟩))
 go_loopg [] (frc a) (fun g wr => ∃ (k : Nat) (m x : Int), (w.alloc (.cells #[.bool false, .int .u64 0, .int .i64 0] 96)).alloc (.cells #[.bool (sgn a), .int .u64 m, .int .i64 x] 96) = wr ∧ m = (g : Int) ∧ Aside (g * 2 ^ k = mg (rung a) ∧ x = (up (rung a) : Int) - 1074 + k))
 case atStart => exact ⟨0, _, _, rfl, by rfl, ⟨by rw [HM.out]; simp, by rw [HU.out]; simp⟩⟩
 case round =>
  obtain ⟨k, m, x, rfl, hmg, hA⟩ := hrel
  have hbd := half_bd (a := a) hA.out.1 HR.out
  have hf1 := up_lt hf
  have hx1 : -1074 ≤ x ∧ x < 2100 := by have := hA.out.2; omega
  have hm0 : 0 < m := by omega
  have hm1 : m < 9007199254740992 := by omega
  have c0 : (m != 0) = true := by simp; omega
  have HG : Hid (m = (gk : Int)) := hmg
  have HB : Hid (0 < gk ∧ gk < 9007199254740992 ∧ k < 53) := hbd
  clear hbd hmg hf1
  by_cases hev : m % 2 = 0
  ·have c1 : (m % 2 == 0) = true := by simp; omega
   have HV : Hid (m % 2 = 0) := hev
   clear hev
   go_wp2
   go_roundg (gk / 2)
   case measure => have := HB.out; omega
   case rel =>
    refine ⟨k + 1, _, _, rfl, by have := HG.out; have := HV.out; omega, ⟨?_, by have := hA.out.2; omega⟩⟩
    have h1 := hA.out.1
    have h2 : gk = 2 * (gk / 2) := by have := HG.out; have := HV.out; omega
    rw [← h1, Nat.pow_succ, Nat.mul_comm (2 ^ k), ← Nat.mul_assoc, Nat.mul_comm (gk / 2), ← h2]
  ·have c1 : (m % 2 == 0) = false := by simp; omega
   obtain ⟨e1, e2⟩ := split_end (a := a) (m := gk) (k := k) HR.out (by have := HG.out; omega) hA.out.1
   have HF : Hid ((spF a : Int) = m) := (show _ = _ by rw [e2]; exact HG.out.symm)
   have HE : Hid (spE a = x) := (show spE a = x by unfold spE; rw [if_neg HR.out, e1]; exact hA.out.2.symm)
   clear hev e1 e2
   go_wp2
   refine bodyPost_ret (v := .tuple #[.agg #[.bool (sgn a), .int .u64 (spF a), .int .i64 (spE a)], .bool true]) ?_ rfl ⟨rfl, ((Below.refl _ _).alloc (Nat.le_refl _) _).alloc (by simp) _⟩
   rw [HF.out, HE.out]
   simp [results, Tryz.results39, go_sem]
set_option maxRecDepth 100000 in
set_option maxHeartbeats 1000000 in
theorem rsplit_zero (a : Nat) (ha : a < 18446744073709551616) (hf : finB a = true) (hx : ¬ (0 : Int) < (expo a : Int)) (hz2 : (frc a : Int) = 0) (w : World) :
  Calls Tryz.prog 39 #[.float .f64 a] w fun e w' => e = .returned (.tuple #[.agg #[.bool (sgn a), .int .u64 0, .int .i64 0], .bool true]) ∧ Below w.heap.size w w' := by
 go_enter Tryz.func39, Tryz.ntmps39
 go_wp2_with (first | (go_at_call 63; refine (rfinite_any _ (by assumption) _).mono ?_; rintro e w' ⟨rfl, rfl⟩) | (go_at_call 64; refine (fields_any _ (by assumption) _).mono ?_; rintro e w' ⟨rfl, rfl⟩))
 go_loopg [] 0 (fun g wr => (w.alloc (.cells #[.bool false, .int .u64 0, .int .i64 0] 96)).alloc (.cells #[.bool (sgn a), .int .u64 0, .int .i64 0] 96) = wr)
 case atStart => rfl
 case round =>
  subst hrel
  go_wp2
  refine bodyPost_ret (v := .tuple #[.agg #[.bool (sgn a), .int .u64 0, .int .i64 0], .bool true]) ?_ rfl ⟨rfl, ((Below.refl _ _).alloc (Nat.le_refl _) _).alloc (by simp) _⟩
  simp [results, Tryz.results39, go_sem]
theorem rsplit_fin (a : Nat) (ha : a < 18446744073709551616) (hf : finB a = true) (w : World) :
  Calls Tryz.prog 39 #[.float .f64 a] w fun e w' => e = .returned (.tuple #[.agg #[.bool (sgn a), .int .u64 (spF a), .int .i64 (spE a)], .bool true]) ∧ Below w.heap.size w w' := by
 have hx := expo_rung ha
 by_cases hr : rung a = 0
 ·have e1 : spF a = 0 := by unfold spF; rw [if_pos hr]
  have e2 : spE a = 0 := by unfold spE; rw [if_pos hr]
  rw [e1, e2]
  have hfr : frc a = 0 := by unfold frc; rw [hr]
  exact rsplit_zero a ha hf (by rw [hx, hr]; simp) (by rw [hfr]; rfl) w
 ·by_cases h1 : rung a < 4503599627370496
  ·refine rsplit_sub a ha hf (by rw [hx, Nat.div_eq_of_lt h1]; simp) hr ?_ ?_ w
   ·unfold mg frc; rw [if_pos h1, Nat.mod_eq_of_lt h1]
   ·unfold up; rw [if_pos h1]; rfl
  ·refine rsplit_norm a ha hf (by rw [hx]; omega) hr ?_ ?_ w
   ·unfold mg frc; rw [if_neg h1]; omega
   ·unfold up; rw [if_neg h1, hx]; omega
theorem nextF_lt (a : Nat) (up : Bool) (ha : a < 18446744073709551616) : nextF a up < 18446744073709551616 := by
 unfold nextF; split
 ·exact ha
 ·exact atF_lt _
end Go.Proofs.YtfipmopmpacdaaaGreatDoor
