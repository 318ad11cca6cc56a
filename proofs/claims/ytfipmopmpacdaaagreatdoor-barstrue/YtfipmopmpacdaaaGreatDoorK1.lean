/- api.Span as an argument: opened into its two ends, and shut again. -/
import Derived.Test.YtfipmopmpacdaaaGreatDoorRows
import Derived.Test.YtfipmopmpacdaaaGreatDoorZf
import Derived.ProofKit
import Derived.LaidMore
import Derived.OpenShut
import Derived.Stop.Joined
import Derived.Lib.LaidTab
import Derived.Lib.SmallJoins
namespace Go.Proofs.YtfipmopmpacdaaaGreatDoor
open Go.RowKit
theorem run_fbits (a : Nat) (w : World) : (callFunc 51 #[.float .f64 a]).run Tryz.prog w = .ok (.value (.int .u64 a)) w := by
 rw [run_callFunc_extern (e := Extern.MathFloatBits.float64bits) Tryz.func51 (by kernel_rfl) (by kernel_rfl) (by kernel_rfl) (by kernel_rfl)]
 rfl
theorem run_ffrom (n : Int) (w : World) : (callFunc 99 #[.int .u64 n]).run Tryz.prog w = .ok (.value (.float .f64 n.toNat)) w := by
 rw [run_callFunc_extern (e := Extern.MathFloatBits.float64frombits) Tryz.func99 (by kernel_rfl) (by kernel_rfl) (by kernel_rfl) (by kernel_rfl)]
 rfl
set_option maxHeartbeats 400000 in
theorem isnan_any (a : Nat) (ha : a < 18446744073709551616) (w : World) :
  Calls Tryz.prog 95 #[.float .f64 a] w fun e w' => e = .returned (.bool (nanB a)) ∧ w' = w := by
 go_enter Tryz.func95, Tryz.ntmps95
 go_wp2
 go_ret
 exact ⟨end_bool (ord_self a ha), rfl⟩
set_option maxHeartbeats 400000 in
theorem signbit_any (a : Nat) (ha : a < 18446744073709551616) (w : World) :
  Calls Tryz.prog 87 #[.float .f64 a] w fun e w' => e = .returned (.bool (sgn a)) ∧ w' = w := by
 have hb := run_fbits a
 go_enter Tryz.func87, Tryz.ntmps87
 go_wp2
 go_ret
 exact ⟨end_bool (sgn_wrap a ha), rfl⟩
set_option maxHeartbeats 400000 in
theorem signs_any (s t : Bool) (w : World) :
  Calls Tryz.prog 115 #[.bool s, .bool t] w fun e w' => e = .returned (.int .i64 (ordS s t)) ∧ w' = w := by
 cases s <;> cases t
 all_goals
  go_enter Tryz.func115, Tryz.ntmps115
  go_wp2
  go_ret
  exact ⟨rfl, rfl⟩
set_option maxHeartbeats 400000 in
theorem order_any (a b : Nat) (ha : a < 18446744073709551616) (hb : b < 18446744073709551616) (w : World) :
  Calls Tryz.prog 110 #[.float .f64 a, .float .f64 b] w fun e w' => e = .returned (.int .i64 (ordF a b)) ∧ w' = w := by
 cases na : nanB a <;> cases nb : nanB b
 ·by_cases h1 : place a < place b
  ·have hl : (FloatKind.f64.format.order a b == some .lt) = true := by rw [lt_num ha hb na nb]; simpa using h1
   have HE : Hid (ordF a b = -1) := (show ordF a b = -1 by unfold ordF; rw [na, nb]; simp [h1])
   clear h1
   go_enter Tryz.func110, Tryz.ntmps110
   go_wp2_with (first | (go_at_call 95; refine (isnan_any _ (by assumption) _).mono ?_; rintro e w' ⟨rfl, rfl⟩))
   go_ret
   exact ⟨end_int HE.out.symm, rfl⟩
  ·have hl : (FloatKind.f64.format.order a b == some .lt) = false := by rw [lt_num ha hb na nb]; simpa using h1
   by_cases h2 : place b < place a
   ·have hg : (FloatKind.f64.format.order a b == some .gt) = true := by rw [gt_num ha hb na nb]; simpa using h2
    have HE : Hid (ordF a b = 1) := (show ordF a b = 1 by unfold ordF; rw [na, nb]; simp [h1, h2])
    clear h1 h2
    go_enter Tryz.func110, Tryz.ntmps110
    go_wp2_with (first | (go_at_call 95; refine (isnan_any _ (by assumption) _).mono ?_; rintro e w' ⟨rfl, rfl⟩))
    go_ret
    exact ⟨end_int HE.out.symm, rfl⟩
   ·have hg : (FloatKind.f64.format.order a b == some .gt) = false := by rw [gt_num ha hb na nb]; simpa using h2
    have HE : Hid (ordF a b = ordS (sgn a) (sgn b)) := (show ordF a b = ordS (sgn a) (sgn b) by unfold ordF; rw [na, nb]; simp [h1, h2])
    clear h1 h2
    go_enter Tryz.func110, Tryz.ntmps110
    go_wp2_with (first | (go_at_call 95; refine (isnan_any _ (by assumption) _).mono ?_; rintro e w' ⟨rfl, rfl⟩) | (go_at_call 87; refine (signbit_any _ (by assumption) _).mono ?_; rintro e w' ⟨rfl, rfl⟩) | (go_at_call 115; refine (signs_any _ _ _).mono ?_; rintro e w' ⟨rfl, rfl⟩))
    go_ret
    exact ⟨end_int HE.out.symm, rfl⟩
 all_goals
  have HE : Hid (ordF a b = if nanB a && nanB b then 0 else if nanB a then 1 else -1) := (show ordF a b = if nanB a && nanB b then 0 else if nanB a then 1 else -1 by unfold ordF; simp [na, nb])
  go_enter Tryz.func110, Tryz.ntmps110
  go_wp2_with (first | (go_at_call 95; refine (isnan_any _ (by assumption) _).mono ?_; rintro e w' ⟨rfl, rfl⟩))
  go_ret
  exact ⟨end_int (by rw [HE.out, na, nb]; rfl), rfl⟩
set_option maxHeartbeats 400000 in
theorem place_any (a : Nat) (ha : a < 18446744073709551616) (w : World) :
  Calls Tryz.prog 103 #[.float .f64 a] w fun e w' => e = .returned (.tuple #[.int .i64 (plc a), .bool (!nanB a)]) ∧ w' = w := by
 have fa := run_fbits a
 cases na : nanB a
 ·have HE : Hid (plc a = place a) := (show plc a = place a by unfold plc; rw [na]; rfl)
  go_enter Tryz.func103, Tryz.ntmps103
  go_wp2_with (go_at_call 95; refine (isnan_any _ (by assumption) _).mono ?_; rintro e w' ⟨rfl, rfl⟩)
  ·rename_i hs
   rw [and_sign_ne a ha] at hs
   go_ret2
   exact ⟨end_ib (by rw [andNot_sign a ha, HE.out]; exact place_neg hs) rfl, rfl⟩
  ·rename_i hs
   rw [and_sign_ne a ha] at hs
   go_ret2
   exact ⟨end_ib (by rw [HE.out]; exact place_pos ha hs) rfl, rfl⟩
 ·have HE : Hid (plc a = 0) := (show plc a = 0 by unfold plc; rw [na]; rfl)
  go_enter Tryz.func103, Tryz.ntmps103
  go_wp2_with (go_at_call 95; refine (isnan_any _ (by assumption) _).mono ?_; rintro e w' ⟨rfl, rfl⟩)
  go_ret2
  exact ⟨end_ib HE.out.symm rfl, rfl⟩
set_option maxHeartbeats 400000 in
theorem abs_any (a : Nat) (ha : a < 18446744073709551616) (w : World) :
  Calls Tryz.prog 83 #[.float .f64 a] w fun e w' => e = .returned (.float .f64 (rung a)) ∧ w' = w := by
 have fa := run_fbits a
 have ff := run_ffrom
 go_enter Tryz.func83, Tryz.ntmps83
 go_wp2
 go_ret
 exact ⟨end_flt (by rw [andNot_sign a ha]; rfl), rfl⟩
set_option maxHeartbeats 400000 in
theorem finite_any (a : Nat) (ha : a < 18446744073709551616) (w : World) :
  Calls Tryz.prog 116 #[.float .f64 a] w fun e w' => e = .returned (.bool (finB a)) ∧ w' = w := by
 go_enter Tryz.func116, Tryz.ntmps116
 go_wp2_with (go_at_call 83; refine (abs_any _ (by assumption) _).mono ?_; rintro e w' ⟨rfl, rfl⟩)
 go_ret
 exact ⟨end_bool (fin_le a), rfl⟩
set_option maxHeartbeats 400000 in
theorem exponent_any (a : Nat) (ha : a < 18446744073709551616) (w : World) :
  Calls Tryz.prog 118 #[.int .u64 a] w fun e w' => e = .returned (.int .i64 (expo a)) ∧ w' = w := by
 go_enter Tryz.func118, Tryz.ntmps118
 go_wp2
 go_ret
 exact ⟨end_int (expo_wrap ha), rfl⟩
set_option maxHeartbeats 400000 in
theorem lastBit_any (a : Nat) (ha : a < 18446744073709551616) (w : World) :
  Calls Tryz.prog 117 #[.int .u64 a] w fun e w' => e = .returned (.int .i64 ((up (rung a) : Int) - 1074)) ∧ w' = w := by
 have he : expo a < 2048 := by unfold expo; omega
 go_enter Tryz.func117, Tryz.ntmps117
 go_wp2_with (go_at_call 118; refine (exponent_any _ (by assumption) _).mono ?_; rintro e w' ⟨rfl, rfl⟩)
 ·go_ret
  exact ⟨end_int (by rw [lastBit_up ha, if_pos (by assumption)]; rfl), rfl⟩
 ·go_ret
  exact ⟨end_int (by rw [lastBit_up ha, if_neg (by omega)]; omega), rfl⟩
set_option maxHeartbeats 400000 in
theorem at_any (p : Int) (h1 : -9223372036854775808 ≤ p) (h2 : p ≤ 9223372036854775807) (w : World) :
  Calls Tryz.prog 104 #[.int .i64 p] w fun e w' => e = .returned (.tuple #[.float .f64 (atF p), .bool (atB p)]) ∧ w' = w := by
 have ff := run_ffrom
 go_enter Tryz.func104, Tryz.ntmps104
 go_wp2
 ·rename_i h
  go_ret2
  exact ⟨end_fb (at_out h) (atB_out h).symm, rfl⟩
 ·rename_i h g
  go_ret2
  exact ⟨end_fb (at_neg (by omega)) (atB_in h).symm, rfl⟩
 ·rename_i h g
  go_ret2
  exact ⟨end_fb (at_pos (by omega)) (atB_in h).symm, rfl⟩
 ·rename_i h
  go_ret2
  exact ⟨end_fb (at_out (Or.inl h)) (atB_out (Or.inl h)).symm, rfl⟩
set_option maxHeartbeats 400000 in
theorem next_any (a : Nat) (up : Bool) (ha : a < 18446744073709551616) (w : World) :
  Calls Tryz.prog 89 #[.float .f64 a, .bool up] w fun e w' => e = .returned (.float .f64 (nextF a up)) ∧ w' = w := by
 cases na : nanB a
 ·have hb := place_nan na
  have HP : Hid (plc a = place a) := (show plc a = place a by unfold plc; rw [na]; rfl)
  have hp : -9218868437227405312 ≤ plc a ∧ plc a ≤ 9218868437227405312 := by rw [HP.out]; exact hb
  clear hb
  cases up
  ·have HE : Hid (nextF a false = atF (max (plc a - 1) (-9218868437227405312))) := (show nextF a false = atF (max (plc a - 1) (-9218868437227405312)) by unfold nextF; rw [na, HP.out]; rfl)
   go_enter Tryz.func89, Tryz.ntmps89
   go_wp2_with (first | (go_at_call 103; refine (place_any _ (by assumption) _).mono ?_; rintro e w' ⟨rfl, rfl⟩) | (go_at_call 104; refine (at_any _ (by omega) (by omega) _).mono ?_; rintro e w' ⟨rfl, rfl⟩))
   ·go_ret
    exact ⟨end_flt (by rw [HE.out]; exact congrArg atF (by omega)), rfl⟩
   ·go_ret
    exact ⟨end_flt (by rw [HE.out]; exact congrArg atF (by omega)), rfl⟩
  ·have HE : Hid (nextF a true = atF (min (plc a + 1) 9218868437227405312)) := (show nextF a true = atF (min (plc a + 1) 9218868437227405312) by unfold nextF; rw [na, HP.out]; rfl)
   go_enter Tryz.func89, Tryz.ntmps89
   go_wp2_with (first | (go_at_call 103; refine (place_any _ (by assumption) _).mono ?_; rintro e w' ⟨rfl, rfl⟩) | (go_at_call 104; refine (at_any _ (by omega) (by omega) _).mono ?_; rintro e w' ⟨rfl, rfl⟩))
   ·go_ret
    exact ⟨end_flt (by rw [HE.out]; exact congrArg atF (by omega)), rfl⟩
   ·go_ret
    exact ⟨end_flt (by rw [HE.out]; exact congrArg atF (by omega)), rfl⟩
 ·have HE : Hid (nextF a up = a) := (show nextF a up = a by unfold nextF; rw [na]; rfl)
  go_enter Tryz.func89, Tryz.ntmps89
  go_wp2_with (first | (go_at_call 103; refine (place_any _ (by assumption) _).mono ?_; rintro e w' ⟨rfl, rfl⟩))
  go_ret
  exact ⟨end_flt HE.out.symm, rfl⟩
def TabW (w : World) : Prop := ∀ j, j < 64 → w.cell? ⟨1, j, none⟩ = some (.int .u8 (Lib.deBruijn64tab.getD j 0))
theorem low_index {x t : Nat} (h : x < 18446744073709551616) (h0 : x ≠ 0) (ht : x &&& (18446744073709551616 - x) = t) :
  IntKind.u64.wrap (bits BinOp.and IntKind.u64 (x : Int) (IntKind.u64.wrap (-(x : Int))) * 285870213051353865) / 288230376151711744 = ((t * 285870213051353865 % 18446744073709551616 / 288230376151711744 : Nat) : Int) := by
 have g := u64_and_nat x (18446744073709551616 - x) h (by omega)
 have n : IntKind.u64.wrap (-(x : Int)) = ((18446744073709551616 - x : Nat) : Int) := by simp only [IntKind.wrap_u64]; omega
 rw [n, g, ht]
 simp only [IntKind.wrap_u64]
 omega
set_option maxHeartbeats 1000000 in
theorem zeros_at (x j z : Nat) (w : World) (b0 : ((x : Int) == 0) = false) (hj : j < 64) (hz : z < 64) (hc : w.cell? ⟨1, j, none⟩ = some (.int .u8 z))
  (hi : IntKind.u64.wrap (bits BinOp.and IntKind.u64 (x : Int) (IntKind.u64.wrap (-(x : Int))) * 285870213051353865) / 288230376151711744 = (j : Int)) :
  Calls Tryz.prog 119 #[.int .u64 x] w fun e w' => e = .returned (.int .i64 z) ∧ w' = w := by
 go_enter Tryz.func119, Tryz.ntmps119
 go_wp2_with (simp only [hi])
 go_ret
 exact ⟨rfl, rfl⟩
theorem zeros_any (x : Nat) (h : x < 18446744073709551616) (h0 : x ≠ 0) (w : World) (hT : TabW w) :
  Calls Tryz.prog 119 #[.int .u64 x] w fun e w' => e = .returned (.int .i64 (Lib.ctz 64 x)) ∧ w' = w := by
 have low := Lib.lowest_bit 64 x h0 h
 have tab := Lib.deBruijn64_at (Lib.ctz 64 x) low.2
 have cell := hT _ tab.1
 rw [tab.2] at cell
 exact zeros_at x _ _ w (by simp; omega) tab.1 low.2 cell (low_index h h0 low.1)
set_option maxHeartbeats 400000 in
theorem split_inf (a : Nat) (ha : a < 18446744073709551616) (hf : finB a = false) (w : World) :
  Calls Tryz.prog 111 #[.float .f64 a] w fun e w' => e = .returned (.tuple #[.agg #[.bool false, .int .u64 0, .int .i64 0], .bool false]) ∧ Below w.heap.size w w' := by
 go_enter Tryz.func111, Tryz.ntmps111
 go_wp2_with (go_at_call 116; refine (finite_any _ (by assumption) _).mono ?_; rintro e w' ⟨rfl, rfl⟩)
 exact bodyPost_ret (v := .tuple #[.agg #[.bool false, .int .u64 0, .int .i64 0], .bool false]) (by simp [results, Tryz.results111, go_sem]) rfl ⟨rfl, (Below.refl _ _).alloc (Nat.le_refl _) _⟩
def frc (a : Nat) : Nat := rung a % 4503599627370496
theorem frc_eq {a : Nat} (ha : a < 18446744073709551616) : bits .and .u64 (a : Int) 4503599627370495 = (frc a : Int) := frac_and ha
set_option maxHeartbeats 400000 in
theorem split_nought (a : Nat) (ha : a < 18446744073709551616) (hr : rung a = 0) (w : World) :
  Calls Tryz.prog 111 #[.float .f64 a] w fun e w' => e = .returned (.tuple #[.agg #[.bool (sgn a), .int .u64 0, .int .i64 0], .bool true]) ∧ Below w.heap.size w w' := by
 have hf : finB a = true := by unfold finB; rw [hr]; rfl
 have fa := run_fbits a
 have hx : ((expo a : Int) != 0) = false := by rw [expo_rung ha, hr]; rfl
 have hq := frc_eq ha
 have hz : ((frc a : Int) == 0) = true := by unfold frc; rw [hr]; rfl
 have hsg := and_sign_ne a ha
 clear hr
 go_enter Tryz.func111, Tryz.ntmps111
 go_wp2_with (first | (go_at_call 116; refine (finite_any _ (by assumption) _).mono ?_; rintro e w' ⟨rfl, rfl⟩) | (go_at_call 117; refine (lastBit_any _ (by assumption) _).mono ?_; rintro e w' ⟨rfl, rfl⟩) | (go_at_call 118; refine (exponent_any _ (by assumption) _).mono ?_; rintro e w' ⟨rfl, rfl⟩))
 exact bodyPost_ret (v := .tuple #[.agg #[.bool (sgn a), .int .u64 0, .int .i64 0], .bool true]) (by simp [results, Tryz.results111, go_sem]) rfl ⟨rfl, ((Below.refl _ _).alloc (Nat.le_refl _) _).alloc (by simp) _⟩
theorem tabW_below {w w' : World} (hT : TabW w) (hb : Below w.heap.size w w') : TabW w' := by
 intro j hj
 rw [hb.cell (World.block_lt_of_cell? w _ (hT j hj))]
 exact hT j hj
set_option maxHeartbeats 1000000 in
theorem split_core (a : Nat) (ha : a < 18446744073709551616) (hf : finB a = true) (m z : Nat) (_hm : m < 9007199254740992) (hm0 : ((m : Int) == 0) = false) (hz : z < 64) (hu : up (rung a) < 2048)
  (hbr : ((expo a : Int) != 0) = true ∧ bits .or .u64 (frc a : Int) 4503599627370496 = (m : Int) ∨ ((expo a : Int) != 0) = false ∧ (frc a : Int) = (m : Int))
  (w : World) (ht : ∀ w' : World, Below w.heap.size w w' → Calls Tryz.prog 119 #[.int .u64 m] w' fun e w'' => e = .returned (.int .i64 z) ∧ w'' = w') :
  Calls Tryz.prog 111 #[.float .f64 a] w fun e w' => e = .returned (.tuple #[.agg #[.bool (sgn a), .int .u64 ((m : Int) / 2 ^ z), .int .i64 ((up (rung a) : Int) - 1074 + z)], .bool true]) ∧ Below w.heap.size w w' := by
 have fa := run_fbits a
 have hq := frc_eq ha
 have hsg := and_sign_ne a ha
 rcases hbr with ⟨hx, hb⟩ | ⟨hx, hb⟩
 all_goals
  go_enter Tryz.func111, Tryz.ntmps111
  go_wp2_with (first | (go_at_call 116; refine (finite_any _ (by assumption) _).mono ?_; rintro e w' ⟨rfl, rfl⟩) | (go_at_call 117; refine (lastBit_any _ (by assumption) _).mono ?_; rintro e w' ⟨rfl, rfl⟩) | (go_at_call 118; refine (exponent_any _ (by assumption) _).mono ?_; rintro e w' ⟨rfl, rfl⟩) | (go_at_call 119; refine (ht _ (((Below.refl _ _).alloc (Nat.le_refl _) _).alloc (by simp) _)).mono ?_; rintro e w' ⟨rfl, rfl⟩))
  exact bodyPost_ret (v := .tuple #[.agg #[.bool (sgn a), .int .u64 ((m : Int) / 2 ^ z), .int .i64 ((up (rung a) : Int) - 1074 + z)], .bool true]) (by simp [results, Tryz.results111, go_sem]) rfl ⟨rfl, ((Below.refl _ _).alloc (Nat.le_refl _) _).alloc (by simp) _⟩
theorem up_lt {a : Nat} (hf : finB a = true) : up (rung a) < 2046 := by
 unfold finB at hf
 have : rung a < 9218868437227405312 := by simpa using hf
 unfold up; split <;> omega
theorem split_fin (a : Nat) (ha : a < 18446744073709551616) (hf : finB a = true) (w : World) (hT : TabW w) :
  Calls Tryz.prog 111 #[.float .f64 a] w fun e w' => e = .returned (.tuple #[.agg #[.bool (sgn a), .int .u64 (spF a), .int .i64 (spE a)], .bool true]) ∧ Below w.heap.size w w' := by
 by_cases hr : rung a = 0
 ·have e1 : spF a = 0 := by unfold spF; rw [if_pos hr]
  have e2 : spE a = 0 := by unfold spE; rw [if_pos hr]
  rw [e1, e2]
  exact split_nought a ha hr w
 ·have e1 : (spF a : Int) = (mg (rung a) : Int) / 2 ^ spZ a := by
   unfold spF; rw [if_neg hr, Int.natCast_ediv, Int.natCast_pow]; rfl
  have e2 : spE a = (up (rung a) : Int) - 1074 + spZ a := by unfold spE; rw [if_neg hr]
  rw [e1, e2]
  have hm := mg_lt (rung a)
  have hm0 := mg_ne hr
  have hu := up_lt hf
  obtain ⟨_, hz⟩ := Lib.lowest_bit 64 (mg (rung a)) hm0 (by omega)
  refine split_core a ha hf (mg (rung a)) (spZ a) hm (by simp; omega) hz (by omega) ?_ w (fun w' hb => zeros_any _ (by omega) hm0 w' (tabW_below hT hb))
  have hx := expo_rung ha
  by_cases h1 : rung a < 4503599627370496
  ·right
   refine ⟨by rw [hx, Nat.div_eq_of_lt h1]; rfl, ?_⟩
   unfold frc mg; rw [if_pos h1, Nat.mod_eq_of_lt h1]
  ·left
   refine ⟨?_, ?_⟩
   ·have : 1 ≤ rung a / 4503599627370496 := by omega
    rw [hx]; simp; omega
   ·unfold frc mg; rw [if_neg h1]; exact frac_or (by omega)
open Go.ChangeShapes Go.WideShapes Go.ChangeAt Go.RowKit
theorem Tryz.own : ownKnob Tryz.prog.godebug = none := by kernel_rfl
theorem gTab : Tryz.prog.globalNamed "math/bits.deBruijn64tab" = some 1 := by kernel_rfl
theorem tTab : (Tryz.prog.globals[1]?).map (·.type) = some 172 := by kernel_rfl
theorem cU8 : Tryz.prog.cellsOf 5 = 1 := by kernel_rfl
theorem cTab : Tryz.prog.cellsOf 172 = 64 := by kernel_rfl
def laidTab : List (String × DataW Unit) := [("math/bits.deBruijn64tab", Rows.laid_math_bits_deBruijn64tab)]
def laidTab' : List (String × DataW Unit) := ("math/bits.deBruijn64tab", Lib.tabData .u8 (Lib.deBruijn64tab.map fun n : Nat => (n : Int))) :: []
theorem laidTab_eq : laidTab = laidTab' := by kernel_rfl
theorem tab_of_laid {W : World} (h : laidMetH Tryz.prog laidTab W) : TabW W := by
 rw [MakeChecks.laidMetH_plain _ _ _ (by kernel_rfl), laidTab_eq] at h
 have hT := Lib.tabIs_of_head gTab tTab Tryz.underlying172 Tryz.underlying5 cU8 cTab h
 intro j hj
 have hl : Lib.deBruijn64tab.length = 64 := rfl
 rw [hT.cell gTab j (by rw [List.length_map, hl]; exact hj)]
 have hg : (Lib.deBruijn64tab.map fun n : Nat => (n : Int)).getD j 0 = ((Lib.deBruijn64tab.getD j 0 : Nat) : Int) := by
  rw [List.getD_eq_getElem?_getD, List.getD_eq_getElem?_getD, List.getElem?_map]
  cases Lib.deBruijn64tab[j]? <;> rfl
 rw [hg]
theorem door_met (os : Os) (args : Array Value) : laidMetH Tryz.prog laidTab ((World.doorLaid Tryz.prog 400 os).forCall (fun _ _ => 0) ⟨#[], args, []⟩).memory :=
 laidMetH_of_parts3 (fuel := 8) (laidMet_of_run' 8 (by kernel_rfl) (by kernel_rfl)) (by kernel_rfl) (by kernel_rfl)
open Go.ChangeShapes Go.WideShapes Go.ChangeAt Go.RowKit Go.Joins
end Go.Proofs.YtfipmopmpacdaaaGreatDoor
