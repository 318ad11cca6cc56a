/- What TrailingZeros64 and Split answer, where the library's table lies as its initialiser lays it; and that the fixed answers of 'awake' are so. -/
import Derived.Test.YtbfefoidpgbjaaaGreatDoorRows
import Derived.Test.YtbfefoidpgbjaaaGreatDoorZf
namespace Go.Proofs.YtbfefoidpgbjaaaGreatDoor
open Go.RowKit
theorem run_fbits (a : Nat) (w : World) : (callFunc 34 #[.float .f64 a]).run Tryz.prog w = .ok (.value (.int .u64 a)) w := by
 rw [run_callFunc_extern (e := Extern.MathFloatBits.float64bits) Tryz.func34 (by kernel_rfl) (by kernel_rfl) (by kernel_rfl) (by kernel_rfl)]
 rfl
theorem run_ffrom (n : Int) (w : World) : (callFunc 77 #[.int .u64 n]).run Tryz.prog w = .ok (.value (.float .f64 n.toNat)) w := by
 rw [run_callFunc_extern (e := Extern.MathFloatBits.float64frombits) Tryz.func77 (by kernel_rfl) (by kernel_rfl) (by kernel_rfl) (by kernel_rfl)]
 rfl
set_option maxHeartbeats 400000 in
theorem isnan_any (a : Nat) (ha : a < 18446744073709551616) (w : World) :
  Calls Tryz.prog 73 #[.float .f64 a] w fun e w' => e = .returned (.bool (nanB a)) ∧ w' = w := by
 go_enter Tryz.func73, Tryz.ntmps73
 go_wp2
 go_ret
 exact ⟨end_bool (ord_self a ha), rfl⟩
set_option maxHeartbeats 400000 in
theorem signbit_any (a : Nat) (ha : a < 18446744073709551616) (w : World) :
  Calls Tryz.prog 65 #[.float .f64 a] w fun e w' => e = .returned (.bool (sgn a)) ∧ w' = w := by
 have hb := run_fbits a
 go_enter Tryz.func65, Tryz.ntmps65
 go_wp2
 go_ret
 exact ⟨end_bool (sgn_wrap a ha), rfl⟩
set_option maxHeartbeats 400000 in
theorem signs_any (s t : Bool) (w : World) :
  Calls Tryz.prog 93 #[.bool s, .bool t] w fun e w' => e = .returned (.int .i64 (ordS s t)) ∧ w' = w := by
 cases s <;> cases t
 all_goals
  go_enter Tryz.func93, Tryz.ntmps93
  go_wp2
  go_ret
  exact ⟨rfl, rfl⟩
set_option maxHeartbeats 400000 in
theorem order_any (a b : Nat) (ha : a < 18446744073709551616) (hb : b < 18446744073709551616) (w : World) :
  Calls Tryz.prog 88 #[.float .f64 a, .float .f64 b] w fun e w' => e = .returned (.int .i64 (ordF a b)) ∧ w' = w := by
 cases na : nanB a <;> cases nb : nanB b
 ·by_cases h1 : place a < place b
  ·have hl : (FloatKind.f64.format.order a b == some .lt) = true := by rw [lt_num ha hb na nb]; simpa using h1
   have HE : Hid (ordF a b = -1) := (show ordF a b = -1 by unfold ordF; rw [na, nb]; simp [h1])
   clear h1
   go_enter Tryz.func88, Tryz.ntmps88
   go_wp2_with (first | (go_at_call 73; refine (isnan_any _ (by assumption) _).mono ?_; rintro e w' ⟨rfl, rfl⟩))
   go_ret
   exact ⟨end_int HE.out.symm, rfl⟩
  ·have hl : (FloatKind.f64.format.order a b == some .lt) = false := by rw [lt_num ha hb na nb]; simpa using h1
   by_cases h2 : place b < place a
   ·have hg : (FloatKind.f64.format.order a b == some .gt) = true := by rw [gt_num ha hb na nb]; simpa using h2
    have HE : Hid (ordF a b = 1) := (show ordF a b = 1 by unfold ordF; rw [na, nb]; simp [h1, h2])
    clear h1 h2
    go_enter Tryz.func88, Tryz.ntmps88
    go_wp2_with (first | (go_at_call 73; refine (isnan_any _ (by assumption) _).mono ?_; rintro e w' ⟨rfl, rfl⟩))
    go_ret
    exact ⟨end_int HE.out.symm, rfl⟩
   ·have hg : (FloatKind.f64.format.order a b == some .gt) = false := by rw [gt_num ha hb na nb]; simpa using h2
    have HE : Hid (ordF a b = ordS (sgn a) (sgn b)) := (show ordF a b = ordS (sgn a) (sgn b) by unfold ordF; rw [na, nb]; simp [h1, h2])
    clear h1 h2
    go_enter Tryz.func88, Tryz.ntmps88
    go_wp2_with (first | (go_at_call 73; refine (isnan_any _ (by assumption) _).mono ?_; rintro e w' ⟨rfl, rfl⟩) | (go_at_call 65; refine (signbit_any _ (by assumption) _).mono ?_; rintro e w' ⟨rfl, rfl⟩) | (go_at_call 93; refine (signs_any _ _ _).mono ?_; rintro e w' ⟨rfl, rfl⟩))
    go_ret
    exact ⟨end_int HE.out.symm, rfl⟩
 all_goals
  have HE : Hid (ordF a b = if nanB a && nanB b then 0 else if nanB a then 1 else -1) := (show ordF a b = if nanB a && nanB b then 0 else if nanB a then 1 else -1 by unfold ordF; simp [na, nb])
  go_enter Tryz.func88, Tryz.ntmps88
  go_wp2_with (first | (go_at_call 73; refine (isnan_any _ (by assumption) _).mono ?_; rintro e w' ⟨rfl, rfl⟩))
  go_ret
  exact ⟨end_int (by rw [HE.out, na, nb]; rfl), rfl⟩
set_option maxHeartbeats 400000 in
theorem place_any (a : Nat) (ha : a < 18446744073709551616) (w : World) :
  Calls Tryz.prog 81 #[.float .f64 a] w fun e w' => e = .returned (.tuple #[.int .i64 (plc a), .bool (!nanB a)]) ∧ w' = w := by
 have fa := run_fbits a
 cases na : nanB a
 ·have HE : Hid (plc a = place a) := (show plc a = place a by unfold plc; rw [na]; rfl)
  go_enter Tryz.func81, Tryz.ntmps81
  go_wp2_with (go_at_call 73; refine (isnan_any _ (by assumption) _).mono ?_; rintro e w' ⟨rfl, rfl⟩)
  ·rename_i hs
   rw [and_sign_ne a ha] at hs
   go_ret2
   exact ⟨end_ib (by rw [andNot_sign a ha, HE.out]; exact place_neg hs) rfl, rfl⟩
  ·rename_i hs
   rw [and_sign_ne a ha] at hs
   go_ret2
   exact ⟨end_ib (by rw [HE.out]; exact place_pos ha hs) rfl, rfl⟩
 ·have HE : Hid (plc a = 0) := (show plc a = 0 by unfold plc; rw [na]; rfl)
  go_enter Tryz.func81, Tryz.ntmps81
  go_wp2_with (go_at_call 73; refine (isnan_any _ (by assumption) _).mono ?_; rintro e w' ⟨rfl, rfl⟩)
  go_ret2
  exact ⟨end_ib HE.out.symm rfl, rfl⟩
set_option maxHeartbeats 400000 in
theorem abs_any (a : Nat) (ha : a < 18446744073709551616) (w : World) :
  Calls Tryz.prog 61 #[.float .f64 a] w fun e w' => e = .returned (.float .f64 (rung a)) ∧ w' = w := by
 have fa := run_fbits a
 have ff := run_ffrom
 go_enter Tryz.func61, Tryz.ntmps61
 go_wp2
 go_ret
 exact ⟨end_flt (by rw [andNot_sign a ha]; rfl), rfl⟩
set_option maxHeartbeats 400000 in
theorem finite_any (a : Nat) (ha : a < 18446744073709551616) (w : World) :
  Calls Tryz.prog 94 #[.float .f64 a] w fun e w' => e = .returned (.bool (finB a)) ∧ w' = w := by
 go_enter Tryz.func94, Tryz.ntmps94
 go_wp2_with (go_at_call 61; refine (abs_any _ (by assumption) _).mono ?_; rintro e w' ⟨rfl, rfl⟩)
 go_ret
 exact ⟨end_bool (fin_le a), rfl⟩
set_option maxHeartbeats 400000 in
theorem exponent_any (a : Nat) (ha : a < 18446744073709551616) (w : World) :
  Calls Tryz.prog 96 #[.int .u64 a] w fun e w' => e = .returned (.int .i64 (expo a)) ∧ w' = w := by
 go_enter Tryz.func96, Tryz.ntmps96
 go_wp2
 go_ret
 exact ⟨end_int (expo_wrap ha), rfl⟩
set_option maxHeartbeats 400000 in
theorem lastBit_any (a : Nat) (ha : a < 18446744073709551616) (w : World) :
  Calls Tryz.prog 95 #[.int .u64 a] w fun e w' => e = .returned (.int .i64 ((up (rung a) : Int) - 1074)) ∧ w' = w := by
 have he : expo a < 2048 := by unfold expo; omega
 go_enter Tryz.func95, Tryz.ntmps95
 go_wp2_with (go_at_call 96; refine (exponent_any _ (by assumption) _).mono ?_; rintro e w' ⟨rfl, rfl⟩)
 ·go_ret
  exact ⟨end_int (by rw [lastBit_up ha, if_pos (by assumption)]; rfl), rfl⟩
 ·go_ret
  exact ⟨end_int (by rw [lastBit_up ha, if_neg (by omega)]; omega), rfl⟩
set_option maxHeartbeats 400000 in
theorem at_any (p : Int) (h1 : -9223372036854775808 ≤ p) (h2 : p ≤ 9223372036854775807) (w : World) :
  Calls Tryz.prog 82 #[.int .i64 p] w fun e w' => e = .returned (.tuple #[.float .f64 (atF p), .bool (atB p)]) ∧ w' = w := by
 have ff := run_ffrom
 go_enter Tryz.func82, Tryz.ntmps82
 go_wp2
 ·rename_i h
  go_ret2
  exact ⟨end_fb (at_out h) (atB_out h).symm, rfl⟩
 ·rename_i h g
  go_ret2
  exact ⟨end_fb (at_neg (by omega)) (atB_in h).symm, rfl⟩
 ·rename_i h g
  go_ret2
  exact ⟨end_fb (at_pos (by omega)) (atB_in h).symm, rfl⟩
 ·rename_i h
  go_ret2
  exact ⟨end_fb (at_out (Or.inl h)) (atB_out (Or.inl h)).symm, rfl⟩
set_option maxHeartbeats 400000 in
theorem next_any (a : Nat) (up : Bool) (ha : a < 18446744073709551616) (w : World) :
  Calls Tryz.prog 67 #[.float .f64 a, .bool up] w fun e w' => e = .returned (.float .f64 (nextF a up)) ∧ w' = w := by
 cases na : nanB a
 ·have hb := place_nan na
  have HP : Hid (plc a = place a) := (show plc a = place a by unfold plc; rw [na]; rfl)
  have hp : -9218868437227405312 ≤ plc a ∧ plc a ≤ 9218868437227405312 := by rw [HP.out]; exact hb
  clear hb
  cases up
  ·have HE : Hid (nextF a false = atF (max (plc a - 1) (-9218868437227405312))) := (show nextF a false = atF (max (plc a - 1) (-9218868437227405312)) by unfold nextF; rw [na, HP.out]; rfl)
   go_enter Tryz.func67, Tryz.ntmps67
   go_wp2_with (first | (go_at_call 81; refine (place_any _ (by assumption) _).mono ?_; rintro e w' ⟨rfl, rfl⟩) | (go_at_call 82; refine (at_any _ (by omega) (by omega) _).mono ?_; rintro e w' ⟨rfl, rfl⟩))
   ·go_ret
    exact ⟨end_flt (by rw [HE.out]; exact congrArg atF (by omega)), rfl⟩
   ·go_ret
    exact ⟨end_flt (by rw [HE.out]; exact congrArg atF (by omega)), rfl⟩
  ·have HE : Hid (nextF a true = atF (min (plc a + 1) 9218868437227405312)) := (show nextF a true = atF (min (plc a + 1) 9218868437227405312) by unfold nextF; rw [na, HP.out]; rfl)
   go_enter Tryz.func67, Tryz.ntmps67
   go_wp2_with (first | (go_at_call 81; refine (place_any _ (by assumption) _).mono ?_; rintro e w' ⟨rfl, rfl⟩) | (go_at_call 82; refine (at_any _ (by omega) (by omega) _).mono ?_; rintro e w' ⟨rfl, rfl⟩))
   ·go_ret
    exact ⟨end_flt (by rw [HE.out]; exact congrArg atF (by omega)), rfl⟩
   ·go_ret
    exact ⟨end_flt (by rw [HE.out]; exact congrArg atF (by omega)), rfl⟩
 ·have HE : Hid (nextF a up = a) := (show nextF a up = a by unfold nextF; rw [na]; rfl)
  go_enter Tryz.func67, Tryz.ntmps67
  go_wp2_with (first | (go_at_call 81; refine (place_any _ (by assumption) _).mono ?_; rintro e w' ⟨rfl, rfl⟩))
  go_ret
  exact ⟨end_flt HE.out.symm, rfl⟩
def TabW (w : World) : Prop := ∀ j, j < 64 → w.cell? ⟨1, j, none⟩ = some (.int .u8 (Lib.deBruijn64tab.getD j 0))
theorem low_index {x t : Nat} (h : x < 18446744073709551616) (h0 : x ≠ 0) (ht : x &&& (18446744073709551616 - x) = t) :
  IntKind.u64.wrap (bits BinOp.and IntKind.u64 (x : Int) (IntKind.u64.wrap (-(x : Int))) * 285870213051353865) / 288230376151711744 = ((t * 285870213051353865 % 18446744073709551616 / 288230376151711744 : Nat) : Int) := by
 have g := u64_and_nat x (18446744073709551616 - x) h (by omega)
 have n : IntKind.u64.wrap (-(x : Int)) = ((18446744073709551616 - x : Nat) : Int) := by simp only [IntKind.wrap_u64]; omega
 rw [n, g, ht]
 simp only [IntKind.wrap_u64]
 omega
set_option maxHeartbeats 1000000 in
theorem zeros_at (x j z : Nat) (w : World) (b0 : ((x : Int) == 0) = false) (hj : j < 64) (hz : z < 64) (hc : w.cell? ⟨1, j, none⟩ = some (.int .u8 z))
  (hi : IntKind.u64.wrap (bits BinOp.and IntKind.u64 (x : Int) (IntKind.u64.wrap (-(x : Int))) * 285870213051353865) / 288230376151711744 = (j : Int)) :
  Calls Tryz.prog 97 #[.int .u64 x] w fun e w' => e = .returned (.int .i64 z) ∧ w' = w := by
 go_enter Tryz.func97, Tryz.ntmps97
 go_wp2_with (simp only [hi])
 go_ret
 exact ⟨rfl, rfl⟩
theorem zeros_any (x : Nat) (h : x < 18446744073709551616) (h0 : x ≠ 0) (w : World) (hT : TabW w) :
  Calls Tryz.prog 97 #[.int .u64 x] w fun e w' => e = .returned (.int .i64 (Lib.ctz 64 x)) ∧ w' = w := by
 have low := Lib.lowest_bit 64 x h0 h
 have tab := Lib.deBruijn64_at (Lib.ctz 64 x) low.2
 have cell := hT _ tab.1
 rw [tab.2] at cell
 exact zeros_at x _ _ w (by simp; omega) tab.1 low.2 cell (low_index h h0 low.1)
set_option maxHeartbeats 400000 in
theorem split_inf (a : Nat) (ha : a < 18446744073709551616) (hf : finB a = false) (w : World) :
  Calls Tryz.prog 89 #[.float .f64 a] w fun e w' => e = .returned (.tuple #[.agg #[.bool false, .int .u64 0, .int .i64 0], .bool false]) ∧ Below w.heap.size w w' := by
 go_enter Tryz.func89, Tryz.ntmps89
 go_wp2_with (go_at_call 94; refine (finite_any _ (by assumption) _).mono ?_; rintro e w' ⟨rfl, rfl⟩)
 exact bodyPost_ret (v := .tuple #[.agg #[.bool false, .int .u64 0, .int .i64 0], .bool false]) (by simp [results, Tryz.results89, go_sem]) rfl ⟨rfl, (Below.refl _ _).alloc (Nat.le_refl _) _⟩
def frc (a : Nat) : Nat := rung a % 4503599627370496
theorem frc_eq {a : Nat} (ha : a < 18446744073709551616) : bits .and .u64 (a : Int) 4503599627370495 = (frc a : Int) := frac_and ha
set_option maxHeartbeats 400000 in
theorem split_nought (a : Nat) (ha : a < 18446744073709551616) (hr : rung a = 0) (w : World) :
  Calls Tryz.prog 89 #[.float .f64 a] w fun e w' => e = .returned (.tuple #[.agg #[.bool (sgn a), .int .u64 0, .int .i64 0], .bool true]) ∧ Below w.heap.size w w' := by
 have hf : finB a = true := by unfold finB; rw [hr]; rfl
 have fa := run_fbits a
 have hx : ((expo a : Int) != 0) = false := by rw [expo_rung ha, hr]; rfl
 have hq := frc_eq ha
 have hz : ((frc a : Int) == 0) = true := by unfold frc; rw [hr]; rfl
 have hsg := and_sign_ne a ha
 clear hr
 go_enter Tryz.func89, Tryz.ntmps89
 go_wp2_with (first | (go_at_call 94; refine (finite_any _ (by assumption) _).mono ?_; rintro e w' ⟨rfl, rfl⟩) | (go_at_call 95; refine (lastBit_any _ (by assumption) _).mono ?_; rintro e w' ⟨rfl, rfl⟩) | (go_at_call 96; refine (exponent_any _ (by assumption) _).mono ?_; rintro e w' ⟨rfl, rfl⟩))
 exact bodyPost_ret (v := .tuple #[.agg #[.bool (sgn a), .int .u64 0, .int .i64 0], .bool true]) (by simp [results, Tryz.results89, go_sem]) rfl ⟨rfl, ((Below.refl _ _).alloc (Nat.le_refl _) _).alloc (by simp) _⟩
theorem tabW_below {w w' : World} (hT : TabW w) (hb : Below w.heap.size w w') : TabW w' := by
 intro j hj
 rw [hb.cell (World.block_lt_of_cell? w _ (hT j hj))]
 exact hT j hj
set_option maxHeartbeats 1000000 in
theorem split_core (a : Nat) (ha : a < 18446744073709551616) (hf : finB a = true) (m z : Nat) (_hm : m < 9007199254740992) (hm0 : ((m : Int) == 0) = false) (hz : z < 64) (hu : up (rung a) < 2048)
  (hbr : ((expo a : Int) != 0) = true ∧ bits .or .u64 (frc a : Int) 4503599627370496 = (m : Int) ∨ ((expo a : Int) != 0) = false ∧ (frc a : Int) = (m : Int))
  (w : World) (ht : ∀ w' : World, Below w.heap.size w w' → Calls Tryz.prog 97 #[.int .u64 m] w' fun e w'' => e = .returned (.int .i64 z) ∧ w'' = w') :
  Calls Tryz.prog 89 #[.float .f64 a] w fun e w' => e = .returned (.tuple #[.agg #[.bool (sgn a), .int .u64 ((m : Int) / 2 ^ z), .int .i64 ((up (rung a) : Int) - 1074 + z)], .bool true]) ∧ Below w.heap.size w w' := by
 have fa := run_fbits a
 have hq := frc_eq ha
 have hsg := and_sign_ne a ha
 rcases hbr with ⟨hx, hb⟩ | ⟨hx, hb⟩
 all_goals
  go_enter Tryz.func89, Tryz.ntmps89
  go_wp2_with (first | (go_at_call 94; refine (finite_any _ (by assumption) _).mono ?_; rintro e w' ⟨rfl, rfl⟩) | (go_at_call 95; refine (lastBit_any _ (by assumption) _).mono ?_; rintro e w' ⟨rfl, rfl⟩) | (go_at_call 96; refine (exponent_any _ (by assumption) _).mono ?_; rintro e w' ⟨rfl, rfl⟩) | (go_at_call 97; refine (ht _ (((Below.refl _ _).alloc (Nat.le_refl _) _).alloc (by simp) _)).mono ?_; rintro e w' ⟨rfl, rfl⟩))
  exact bodyPost_ret (v := .tuple #[.agg #[.bool (sgn a), .int .u64 ((m : Int) / 2 ^ z), .int .i64 ((up (rung a) : Int) - 1074 + z)], .bool true]) (by simp [results, Tryz.results89, go_sem]) rfl ⟨rfl, ((Below.refl _ _).alloc (Nat.le_refl _) _).alloc (by simp) _⟩
theorem up_lt {a : Nat} (hf : finB a = true) : up (rung a) < 2046 := by
 unfold finB at hf
 have : rung a < 9218868437227405312 := by simpa using hf
 unfold up; split <;> omega
theorem split_fin (a : Nat) (ha : a < 18446744073709551616) (hf : finB a = true) (w : World) (hT : TabW w) :
  Calls Tryz.prog 89 #[.float .f64 a] w fun e w' => e = .returned (.tuple #[.agg #[.bool (sgn a), .int .u64 (spF a), .int .i64 (spE a)], .bool true]) ∧ Below w.heap.size w w' := by
 by_cases hr : rung a = 0
 ·have e1 : spF a = 0 := by unfold spF; rw [if_pos hr]
  have e2 : spE a = 0 := by unfold spE; rw [if_pos hr]
  rw [e1, e2]
  exact split_nought a ha hr w
 ·have e1 : (spF a : Int) = (mg (rung a) : Int) / 2 ^ spZ a := by
   unfold spF; rw [if_neg hr, Int.natCast_ediv, Int.natCast_pow]; rfl
  have e2 : spE a = (up (rung a) : Int) - 1074 + spZ a := by unfold spE; rw [if_neg hr]
  rw [e1, e2]
  have hm := mg_lt (rung a)
  have hm0 := mg_ne hr
  have hu := up_lt hf
  obtain ⟨_, hz⟩ := Lib.lowest_bit 64 (mg (rung a)) hm0 (by omega)
  refine split_core a ha hf (mg (rung a)) (spZ a) hm (by simp; omega) hz (by omega) ?_ w (fun w' hb => zeros_any _ (by omega) hm0 w' (tabW_below hT hb))
  have hx := expo_rung ha
  by_cases h1 : rung a < 4503599627370496
  ·right
   refine ⟨by rw [hx, Nat.div_eq_of_lt h1]; rfl, ?_⟩
   unfold frc mg; rw [if_pos h1, Nat.mod_eq_of_lt h1]
  ·left
   refine ⟨?_, ?_⟩
   ·have : 1 ≤ rung a / 4503599627370496 := by omega
    rw [hx]; simp; omega
   ·unfold frc mg; rw [if_neg h1]; exact frac_or (by omega)
end Go.Proofs.YtbfefoidpgbjaaaGreatDoor
