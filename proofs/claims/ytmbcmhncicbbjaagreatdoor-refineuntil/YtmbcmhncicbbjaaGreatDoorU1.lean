/- Places of neighbours, of infinities, of noughts; what the law's own 'finite' computes. -/
import Derived.Test.YtmbcmhncicbbjaaGreatDoorRows
import Derived.Test.YtmbcmhncicbbjaaGreatDoorZf
import Derived.Test.YtmbcmhncicbbjaaGreatDoorZg
import Derived.Test.YtmbcmhncicbbjaaGreatDoorFy
namespace Go.Proofs.YtmbcmhncicbbjaaGreatDoor
open Go.RowKit

theorem run_fbits (a : Nat) (w : World) : (callFunc 66 #[.float .f64 a]).run Tryz.prog w = .ok (.value (.int .u64 a)) w := by
  rw [run_callFunc_extern (e := Extern.MathFloatBits.float64bits) Tryz.func66 (by kernel_rfl) (by kernel_rfl) (by kernel_rfl) (by kernel_rfl)]
  rfl
theorem run_ffrom (n : Int) (w : World) : (callFunc 77 #[.int .u64 n]).run Tryz.prog w = .ok (.value (.float .f64 n.toNat)) w := by
  rw [run_callFunc_extern (e := Extern.MathFloatBits.float64frombits) Tryz.func77 (by kernel_rfl) (by kernel_rfl) (by kernel_rfl) (by kernel_rfl)]
  rfl

set_option maxHeartbeats 400000 in
theorem isnan_any (a : Nat) (ha : a < 18446744073709551616) (w : World) :
    Calls Tryz.prog 160 #[.float .f64 a] w fun e w' => e = .returned (.bool (nanB a)) ∧ w' = w := by
  go_enter Tryz.func160, Tryz.ntmps160
  go_wp2
  go_ret
  exact ⟨end_bool (ord_self a ha), rfl⟩

set_option maxHeartbeats 400000 in
theorem signbit_any (a : Nat) (ha : a < 18446744073709551616) (w : World) :
    Calls Tryz.prog 111 #[.float .f64 a] w fun e w' => e = .returned (.bool (sgn a)) ∧ w' = w := by
  have hb := run_fbits a
  go_enter Tryz.func111, Tryz.ntmps111
  go_wp2
  go_ret
  exact ⟨end_bool (sgn_wrap a ha), rfl⟩

set_option maxHeartbeats 400000 in
theorem place_any (a : Nat) (ha : a < 18446744073709551616) (w : World) :
    Calls Tryz.prog 141 #[.float .f64 a] w fun e w' => e = .returned (.tuple #[.int .i64 (plc a), .bool (!nanB a)]) ∧ w' = w := by
  have fa := run_fbits a
  cases na : nanB a
  · have HE : Hid (plc a = place a) := (show plc a = place a by unfold plc; rw [na]; rfl)
    go_enter Tryz.func141, Tryz.ntmps141
    go_wp2_with (go_at_call 160; refine (isnan_any _ (by assumption) _).mono ?_; rintro e w' ⟨rfl, rfl⟩)
    · rename_i hs
      rw [and_sign_ne a ha] at hs
      go_ret2
      exact ⟨end_ib (by rw [andNot_sign a ha, HE.out]; exact place_neg hs) rfl, rfl⟩
    · rename_i hs
      rw [and_sign_ne a ha] at hs
      go_ret2
      exact ⟨end_ib (by rw [HE.out]; exact place_pos ha hs) rfl, rfl⟩
  · have HE : Hid (plc a = 0) := (show plc a = 0 by unfold plc; rw [na]; rfl)
    go_enter Tryz.func141, Tryz.ntmps141
    go_wp2_with (go_at_call 160; refine (isnan_any _ (by assumption) _).mono ?_; rintro e w' ⟨rfl, rfl⟩)
    go_ret2
    exact ⟨end_ib HE.out.symm rfl, rfl⟩

end Go.Proofs.YtmbcmhncicbbjaaGreatDoor

namespace Go.Proofs.YtmbcmhncicbbjaaGreatDoor
open Go.RowKit

set_option maxHeartbeats 400000 in
theorem abs_any (a : Nat) (ha : a < 18446744073709551616) (w : World) :
    Calls Tryz.prog 47 #[.float .f64 a] w fun e w' => e = .returned (.float .f64 (rung a)) ∧ w' = w := by
  have fa := run_fbits a
  have ff := run_ffrom
  go_enter Tryz.func47, Tryz.ntmps47
  go_wp2
  go_ret
  exact ⟨end_flt (by rw [andNot_sign a ha]; rfl), rfl⟩

set_option maxHeartbeats 400000 in
theorem finite_any (a : Nat) (ha : a < 18446744073709551616) (w : World) :
    Calls Tryz.prog 157 #[.float .f64 a] w fun e w' => e = .returned (.bool (finB a)) ∧ w' = w := by
  go_enter Tryz.func157, Tryz.ntmps157
  go_wp2_with (go_at_call 47; refine (abs_any _ (by assumption) _).mono ?_; rintro e w' ⟨rfl, rfl⟩)
  go_ret
  exact ⟨end_bool (fin_le a), rfl⟩

set_option maxHeartbeats 400000 in
theorem exponent_any (a : Nat) (ha : a < 18446744073709551616) (w : World) :
    Calls Tryz.prog 159 #[.int .u64 a] w fun e w' => e = .returned (.int .i64 (expo a)) ∧ w' = w := by
  go_enter Tryz.func159, Tryz.ntmps159
  go_wp2
  go_ret
  exact ⟨end_int (expo_wrap ha), rfl⟩

set_option maxHeartbeats 400000 in
theorem lastBit_any (a : Nat) (ha : a < 18446744073709551616) (w : World) :
    Calls Tryz.prog 158 #[.int .u64 a] w fun e w' => e = .returned (.int .i64 ((up (rung a) : Int) - 1074)) ∧ w' = w := by
  have he : expo a < 2048 := by unfold expo; omega
  go_enter Tryz.func158, Tryz.ntmps158
  go_wp2_with (go_at_call 159; refine (exponent_any _ (by assumption) _).mono ?_; rintro e w' ⟨rfl, rfl⟩)
  · go_ret
    exact ⟨end_int (by rw [lastBit_up ha, if_pos (by assumption)]; rfl), rfl⟩
  · go_ret
    exact ⟨end_int (by rw [lastBit_up ha, if_neg (by omega)]; omega), rfl⟩

set_option maxHeartbeats 400000 in
theorem at_any (p : Int) (h1 : -9223372036854775808 ≤ p) (h2 : p ≤ 9223372036854775807) (w : World) :
    Calls Tryz.prog 142 #[.int .i64 p] w fun e w' => e = .returned (.tuple #[.float .f64 (atF p), .bool (atB p)]) ∧ w' = w := by
  have ff := run_ffrom
  go_enter Tryz.func142, Tryz.ntmps142
  go_wp2
  · rename_i h
    go_ret2
    exact ⟨end_fb (at_out h) (atB_out h).symm, rfl⟩
  · rename_i h g
    go_ret2
    exact ⟨end_fb (at_neg (by omega)) (atB_in h).symm, rfl⟩
  · rename_i h g
    go_ret2
    exact ⟨end_fb (at_pos (by omega)) (atB_in h).symm, rfl⟩
  · rename_i h
    go_ret2
    exact ⟨end_fb (at_out (Or.inl h)) (atB_out (Or.inl h)).symm, rfl⟩

set_option maxHeartbeats 400000 in
theorem next_any (a : Nat) (up : Bool) (ha : a < 18446744073709551616) (w : World) :
    Calls Tryz.prog 128 #[.float .f64 a, .bool up] w fun e w' => e = .returned (.float .f64 (nextF a up)) ∧ w' = w := by
  cases na : nanB a
  · have hb := place_nan na
    have HP : Hid (plc a = place a) := (show plc a = place a by unfold plc; rw [na]; rfl)
    have hp : -9218868437227405312 ≤ plc a ∧ plc a ≤ 9218868437227405312 := by rw [HP.out]; exact hb
    clear hb
    cases up
    · have HE : Hid (nextF a false = atF (max (plc a - 1) (-9218868437227405312))) := (show nextF a false = atF (max (plc a - 1) (-9218868437227405312)) by unfold nextF; rw [na, HP.out]; rfl)
      go_enter Tryz.func128, Tryz.ntmps128
      go_wp2_with (first | (go_at_call 141; refine (place_any _ (by assumption) _).mono ?_; rintro e w' ⟨rfl, rfl⟩) | (go_at_call 142; refine (at_any _ (by omega) (by omega) _).mono ?_; rintro e w' ⟨rfl, rfl⟩))
      · go_ret
        exact ⟨end_flt (by rw [HE.out]; exact congrArg atF (by omega)), rfl⟩
      · go_ret
        exact ⟨end_flt (by rw [HE.out]; exact congrArg atF (by omega)), rfl⟩
    · have HE : Hid (nextF a true = atF (min (plc a + 1) 9218868437227405312)) := (show nextF a true = atF (min (plc a + 1) 9218868437227405312) by unfold nextF; rw [na, HP.out]; rfl)
      go_enter Tryz.func128, Tryz.ntmps128
      go_wp2_with (first | (go_at_call 141; refine (place_any _ (by assumption) _).mono ?_; rintro e w' ⟨rfl, rfl⟩) | (go_at_call 142; refine (at_any _ (by omega) (by omega) _).mono ?_; rintro e w' ⟨rfl, rfl⟩))
      · go_ret
        exact ⟨end_flt (by rw [HE.out]; exact congrArg atF (by omega)), rfl⟩
      · go_ret
        exact ⟨end_flt (by rw [HE.out]; exact congrArg atF (by omega)), rfl⟩
  · have HE : Hid (nextF a up = a) := (show nextF a up = a by unfold nextF; rw [na]; rfl)
    go_enter Tryz.func128, Tryz.ntmps128
    go_wp2_with (first | (go_at_call 141; refine (place_any _ (by assumption) _).mono ?_; rintro e w' ⟨rfl, rfl⟩))
    go_ret
    exact ⟨end_flt HE.out.symm, rfl⟩

set_option maxHeartbeats 400000 in
theorem inf_any (w : World) :
    Calls Tryz.prog 151 #[.int .i64 1] w fun e w' => e = .returned (.float .f64 9218868437227405312) ∧ w' = w := by
  have ff := run_ffrom
  go_enter Tryz.func151, Tryz.ntmps151
  go_wp2
  go_ret
  exact ⟨rfl, rfl⟩
end Go.Proofs.YtmbcmhncicbbjaaGreatDoor

namespace Go.Proofs.YtmbcmhncicbbjaaGreatDoor
open Go.RowKit

/-- The table in its variable. -/
def TabW (w : World) : Prop := ∀ j, j < 64 → w.cell? ⟨1, j, none⟩ = some (.int .u8 (Lib.deBruijn64tab.getD j 0))

/-- Where the library's look-up points: the lowest set bit t, times the de Bruijn number, its six highest bits. -/
theorem low_index {x t : Nat} (h : x < 18446744073709551616) (h0 : x ≠ 0) (ht : x &&& (18446744073709551616 - x) = t) :
    IntKind.u64.wrap (bits BinOp.and IntKind.u64 (x : Int) (IntKind.u64.wrap (-(x : Int))) * 285870213051353865) / 288230376151711744 = ((t * 285870213051353865 % 18446744073709551616 / 288230376151711744 : Nat) : Int) := by
  have g := u64_and_nat x (18446744073709551616 - x) h (by omega)
  have n : IntKind.u64.wrap (-(x : Int)) = ((18446744073709551616 - x : Nat) : Int) := by simp only [IntKind.wrap_u64]; omega
  rw [n, g, ht]
  simp only [IntKind.wrap_u64]
  omega

set_option maxHeartbeats 1000000 in
theorem zeros_at (x j z : Nat) (w : World) (b0 : ((x : Int) == 0) = false) (hj : j < 64) (hz : z < 64) (hc : w.cell? ⟨1, j, none⟩ = some (.int .u8 z))
    (hi : IntKind.u64.wrap (bits BinOp.and IntKind.u64 (x : Int) (IntKind.u64.wrap (-(x : Int))) * 285870213051353865) / 288230376151711744 = (j : Int)) :
    Calls Tryz.prog 154 #[.int .u64 x] w fun e w' => e = .returned (.int .i64 z) ∧ w' = w := by
  go_enter Tryz.func154, Tryz.ntmps154
  go_wp2_with (simp only [hi])
  go_ret
  exact ⟨rfl, rfl⟩

theorem zeros_any (x : Nat) (h : x < 18446744073709551616) (h0 : x ≠ 0) (w : World) (hT : TabW w) :
    Calls Tryz.prog 154 #[.int .u64 x] w fun e w' => e = .returned (.int .i64 (Lib.ctz 64 x)) ∧ w' = w := by
  have low := Lib.lowest_bit 64 x h0 h
  have tab := Lib.deBruijn64_at (Lib.ctz 64 x) low.2
  have cell := hT _ tab.1
  rw [tab.2] at cell
  exact zeros_at x _ _ w (by simp; omega) tab.1 low.2 cell (low_index h h0 low.1)

set_option maxHeartbeats 400000 in
theorem split_inf (a : Nat) (ha : a < 18446744073709551616) (hf : finB a = false) (w : World) :
    Calls Tryz.prog 139 #[.float .f64 a] w fun e w' => e = .returned (.tuple #[.agg #[.bool false, .int .u64 0, .int .i64 0], .bool false]) ∧ Below w.heap.size w w' := by
  go_enter Tryz.func139, Tryz.ntmps139
  go_wp2_with (go_at_call 157; refine (finite_any _ (by assumption) _).mono ?_; rintro e w' ⟨rfl, rfl⟩)
  exact bodyPost_ret (v := .tuple #[.agg #[.bool false, .int .u64 0, .int .i64 0], .bool false]) (by simp [results, Tryz.results139, go_sem]) rfl ⟨rfl, (Below.refl _ _).alloc (Nat.le_refl _) _⟩

def frc (a : Nat) : Nat := rung a % 4503599627370496
theorem frc_eq {a : Nat} (ha : a < 18446744073709551616) : bits .and .u64 (a : Int) 4503599627370495 = (frc a : Int) := frac_and ha

set_option maxHeartbeats 400000 in
theorem split_nought (a : Nat) (ha : a < 18446744073709551616) (hr : rung a = 0) (w : World) :
    Calls Tryz.prog 139 #[.float .f64 a] w fun e w' => e = .returned (.tuple #[.agg #[.bool (sgn a), .int .u64 0, .int .i64 0], .bool true]) ∧ Below w.heap.size w w' := by
  have hf : finB a = true := by unfold finB; rw [hr]; rfl
  have fa := run_fbits a
  have hx : ((expo a : Int) != 0) = false := by rw [expo_rung ha, hr]; rfl
  have hq := frc_eq ha
  have hz : ((frc a : Int) == 0) = true := by unfold frc; rw [hr]; rfl
  have hsg := and_sign_ne a ha
  clear hr
  go_enter Tryz.func139, Tryz.ntmps139
  go_wp2_with (first | (go_at_call 157; refine (finite_any _ (by assumption) _).mono ?_; rintro e w' ⟨rfl, rfl⟩) | (go_at_call 158; refine (lastBit_any _ (by assumption) _).mono ?_; rintro e w' ⟨rfl, rfl⟩) | (go_at_call 159; refine (exponent_any _ (by assumption) _).mono ?_; rintro e w' ⟨rfl, rfl⟩))
  exact bodyPost_ret (v := .tuple #[.agg #[.bool (sgn a), .int .u64 0, .int .i64 0], .bool true]) (by simp [results, Tryz.results139, go_sem]) rfl ⟨rfl, ((Below.refl _ _).alloc (Nat.le_refl _) _).alloc (by simp) _⟩

theorem tabW_below {w w' : World} (hT : TabW w) (hb : Below w.heap.size w w') : TabW w' := by
  intro j hj
  rw [hb.cell (World.block_lt_of_cell? w _ (hT j hj))]
  exact hT j hj

set_option maxHeartbeats 1000000 in
theorem split_core (a : Nat) (ha : a < 18446744073709551616) (hf : finB a = true) (m z : Nat) (_hm : m < 9007199254740992) (hm0 : ((m : Int) == 0) = false) (hz : z < 64) (hu : up (rung a) < 2048)
    (hbr : ((expo a : Int) != 0) = true ∧ bits .or .u64 (frc a : Int) 4503599627370496 = (m : Int) ∨ ((expo a : Int) != 0) = false ∧ (frc a : Int) = (m : Int))
    (w : World) (ht : ∀ w' : World, Below w.heap.size w w' → Calls Tryz.prog 154 #[.int .u64 m] w' fun e w'' => e = .returned (.int .i64 z) ∧ w'' = w') :
    Calls Tryz.prog 139 #[.float .f64 a] w fun e w' => e = .returned (.tuple #[.agg #[.bool (sgn a), .int .u64 ((m : Int) / 2 ^ z), .int .i64 ((up (rung a) : Int) - 1074 + z)], .bool true]) ∧ Below w.heap.size w w' := by
  have fa := run_fbits a
  have hq := frc_eq ha
  have hsg := and_sign_ne a ha
  rcases hbr with ⟨hx, hb⟩ | ⟨hx, hb⟩
  all_goals
    go_enter Tryz.func139, Tryz.ntmps139
    go_wp2_with (first | (go_at_call 157; refine (finite_any _ (by assumption) _).mono ?_; rintro e w' ⟨rfl, rfl⟩) | (go_at_call 158; refine (lastBit_any _ (by assumption) _).mono ?_; rintro e w' ⟨rfl, rfl⟩) | (go_at_call 159; refine (exponent_any _ (by assumption) _).mono ?_; rintro e w' ⟨rfl, rfl⟩) | (go_at_call 154; refine (ht _ (((Below.refl _ _).alloc (Nat.le_refl _) _).alloc (by simp) _)).mono ?_; rintro e w' ⟨rfl, rfl⟩))
    exact bodyPost_ret (v := .tuple #[.agg #[.bool (sgn a), .int .u64 ((m : Int) / 2 ^ z), .int .i64 ((up (rung a) : Int) - 1074 + z)], .bool true]) (by simp [results, Tryz.results139, go_sem]) rfl ⟨rfl, ((Below.refl _ _).alloc (Nat.le_refl _) _).alloc (by simp) _⟩

theorem up_lt {a : Nat} (hf : finB a = true) : up (rung a) < 2046 := by
  unfold finB at hf
  have : rung a < 9218868437227405312 := by simpa using hf
  unfold up; split <;> omega

/-- Split of a finite float. -/
theorem split_fin (a : Nat) (ha : a < 18446744073709551616) (hf : finB a = true) (w : World) (hT : TabW w) :
    Calls Tryz.prog 139 #[.float .f64 a] w fun e w' => e = .returned (.tuple #[.agg #[.bool (sgn a), .int .u64 (spF a), .int .i64 (spE a)], .bool true]) ∧ Below w.heap.size w w' := by
  by_cases hr : rung a = 0
  · have e1 : spF a = 0 := by unfold spF; rw [if_pos hr]
    have e2 : spE a = 0 := by unfold spE; rw [if_pos hr]
    rw [e1, e2]
    exact split_nought a ha hr w
  · have e1 : (spF a : Int) = (mg (rung a) : Int) / 2 ^ spZ a := by
      unfold spF; rw [if_neg hr, Int.natCast_ediv, Int.natCast_pow]; rfl
    have e2 : spE a = (up (rung a) : Int) - 1074 + spZ a := by unfold spE; rw [if_neg hr]
    rw [e1, e2]
    have hm := mg_lt (rung a)
    have hm0 := mg_ne hr
    have hu := up_lt hf
    obtain ⟨_, hz⟩ := Lib.lowest_bit 64 (mg (rung a)) hm0 (by omega)
    refine split_core a ha hf (mg (rung a)) (spZ a) hm (by simp; omega) hz (by omega) ?_ w (fun w' hb => zeros_any _ (by omega) hm0 w' (tabW_below hT hb))
    have hx := expo_rung ha
    by_cases h1 : rung a < 4503599627370496
    · right
      refine ⟨by rw [hx, Nat.div_eq_of_lt h1]; rfl, ?_⟩
      unfold frc mg; rw [if_pos h1, Nat.mod_eq_of_lt h1]
    · left
      refine ⟨?_, ?_⟩
      · have : 1 ≤ rung a / 4503599627370496 := by omega
        rw [hx]; simp; omega
      · unfold frc mg; rw [if_neg h1]; exact frac_or (by omega)

end Go.Proofs.YtmbcmhncicbbjaaGreatDoor

namespace Go.Proofs.YtmbcmhncicbbjaaGreatDoor
open Go.RowKit

set_option maxHeartbeats 400000 in
theorem power_any (n : Int) (h1 : -1074 ≤ n) (h2 : n ≤ 1023) (w : World) :
    Calls Tryz.prog 168 #[.int .i64 n] w fun e w' => e = .returned (.float .f64 (pw n)) ∧ w' = w := by
  have ff := run_ffrom
  by_cases hc : n < -1022
  · go_enter Tryz.func168, Tryz.ntmps168
    go_wp2
    go_ret
    exact ⟨end_flt (pw_low h1 hc), rfl⟩
  · go_enter Tryz.func168, Tryz.ntmps168
    go_wp2
    go_ret
    exact ⟨end_flt (pw_high (by omega)), rfl⟩

set_option maxHeartbeats 400000 in
theorem sizeOf_ok (f : Nat) (e : Int) (h0 : ((f : Int) == 0) = false) (h : f < 9007199254740992) (h1 : -1074 ≤ e) (h2 : e ≤ 1023) (hodd : (bits .and .u64 (f : Int) 1 == 0) = false) (hj : jR f e < 9218868437227405312) (w : World) :
    Calls Tryz.prog 165 #[.int .u64 f, .int .i64 e] w fun r w' => r = .returned (.tuple #[.float .f64 (jR f e), .bool true]) ∧ w' = w := by
  have hf0 : f ≠ 0 := by simpa using h0
  have hm := fun w => run_float_arith (P := Tryz.prog) w .mul 48 .f64 _ _ _ (mul_eq hf0 h h1 h2)
  have ho := ofInt_eq hf0 h
  have hfin := fin_of hj
  have hmin : min (jR f e) 9218868437227405312 = jR f e := by omega
  have hsh : ((f : Int) / 9007199254740992 != 0) = false := by simp; omega
  rw [hmin] at hm
  clear hmin hf0
  go_enter Tryz.func165, Tryz.ntmps165
  go_wp2_with (first | (go_at_call 168; refine (power_any _ (by omega) (by omega) _).mono ?_; rintro e w' ⟨rfl, rfl⟩) | (go_at_call 157; refine (finite_any _ (by omega) _).mono ?_; rintro e w' ⟨rfl, rfl⟩))
  go_ret2
  exact ⟨rfl, rfl⟩

set_option maxHeartbeats 400000 in
theorem sizeOf_big (f : Nat) (e : Int) (h0 : ((f : Int) == 0) = false) (h : f < 9007199254740992) (h1 : -1074 ≤ e) (h2 : e ≤ 1023) (hodd : (bits .and .u64 (f : Int) 1 == 0) = false) (hj : 9218868437227405312 ≤ jR f e) (w : World) :
    Calls Tryz.prog 165 #[.int .u64 f, .int .i64 e] w fun r w' => r = .returned (.tuple #[.float .f64 0, .bool false]) ∧ w' = w := by
  have hf0 : f ≠ 0 := by simpa using h0
  have hm := fun w => run_float_arith (P := Tryz.prog) w .mul 48 .f64 _ _ _ (mul_eq hf0 h h1 h2)
  have ho := ofInt_eq hf0 h
  have hfin : finB 9218868437227405312 = false := by decide
  have hmin : min (jR f e) 9218868437227405312 = 9218868437227405312 := by omega
  have hsh : ((f : Int) / 9007199254740992 != 0) = false := by simp; omega
  rw [hmin] at hm
  clear hmin hf0
  go_enter Tryz.func165, Tryz.ntmps165
  go_wp2_with (first | (go_at_call 168; refine (power_any _ (by omega) (by omega) _).mono ?_; rintro e w' ⟨rfl, rfl⟩) | (go_at_call 157; refine (finite_any _ (by omega) _).mono ?_; rintro e w' ⟨rfl, rfl⟩))
  go_ret2
  exact ⟨rfl, rfl⟩

theorem sizeOf_any (f : Nat) (e : Int) (hf : f < 18446744073709551616) (w : World) :
    Calls Tryz.prog 165 #[.int .u64 f, .int .i64 e] w fun r w' => r = .returned (.tuple #[.float .f64 (valR f e), .bool (okP f e)]) ∧ w' = w := by
  have ho := odd_and hf
  by_cases h0 : f = 0
  · have b0 : ((f : Int) == 0) = true := by simp; omega
    have HE : Hid (valR f e = 0) := (show valR f e = 0 by unfold valR; rw [if_pos h0])
    have HB : Hid (okP f e = (e == 0)) := (show okP f e = (e == 0) by unfold okP; rw [if_pos h0]; rfl)
    clear h0 ho
    go_enter Tryz.func165, Tryz.ntmps165
    go_wp2
    go_ret2
    exact ⟨end_fb HE.out.symm HB.out.symm, rfl⟩
  · have b0 : ((f : Int) == 0) = false := by simp; omega
    by_cases h1 : f % 2 = 1
    · have bo : (bits .and .u64 (f : Int) 1 == 0) = false := by rw [ho]; simp; omega
      by_cases h2 : f < 9007199254740992
      · have bs : ((f : Int) / 9007199254740992 != 0) = false := by simp; omega
        by_cases h3 : -1074 ≤ e ∧ e ≤ 1023
        · by_cases h4 : jR f e < 9218868437227405312
          · have HB : okP f e = true := by unfold okP; rw [if_neg h0]; simp; omega
            have HE : valR f e = jR f e := by unfold valR; rw [if_neg h0, HB]; rfl
            rw [HB, HE]
            exact sizeOf_ok f e b0 h2 h3.1 h3.2 bo h4 w
          · have HB : okP f e = false := by unfold okP; rw [if_neg h0]; simp; omega
            have HE : valR f e = 0 := by unfold valR; rw [if_neg h0, HB]; rfl
            rw [HB, HE]
            exact sizeOf_big f e b0 h2 h3.1 h3.2 bo (by omega) w
        · have HB : Hid (okP f e = false) := (show okP f e = false by unfold okP; rw [if_neg h0]; simp; omega)
          have HE : Hid (valR f e = 0) := (show valR f e = 0 by unfold valR; rw [if_neg h0, HB.out]; rfl)
          by_cases h5 : e < -1074
          all_goals
            go_enter Tryz.func165, Tryz.ntmps165
            go_wp2
            go_ret2
            exact ⟨end_fb HE.out.symm HB.out.symm, rfl⟩
      · have bs : ((f : Int) / 9007199254740992 != 0) = true := by simp; omega
        have HB : Hid (okP f e = false) := (show okP f e = false by unfold okP; rw [if_neg h0]; simp; omega)
        have HE : Hid (valR f e = 0) := (show valR f e = 0 by unfold valR; rw [if_neg h0, HB.out]; rfl)
        clear ho h0 h1 h2
        go_enter Tryz.func165, Tryz.ntmps165
        go_wp2
        go_ret2
        exact ⟨end_fb HE.out.symm HB.out.symm, rfl⟩
    · have bo : (bits .and .u64 (f : Int) 1 == 0) = true := by rw [ho]; simp; omega
      have HB : Hid (okP f e = false) := (show okP f e = false by unfold okP; rw [if_neg h0]; simp; omega)
      have HE : Hid (valR f e = 0) := (show valR f e = 0 by unfold valR; rw [if_neg h0, HB.out]; rfl)
      clear ho h0 h1
      go_enter Tryz.func165, Tryz.ntmps165
      go_wp2
      go_ret2
      exact ⟨end_fb HE.out.symm HB.out.symm, rfl⟩

theorem neg_word {r : Nat} (h : r < 9223372036854775808) : Op.negFloat .f64 r = 9223372036854775808 + r := by
  unfold Op.negFloat
  rw [fmt64]
  have e : (2 : Nat) ^ (Ieee.double.exponentBits + Ieee.double.fractionBits) = 2 ^ 63 := rfl
  rw [e]
  have h1 := Nat.two_pow_add_eq_or_of_lt (i := 63) (b := r) (by omega) 1
  rw [Nat.mul_one] at h1
  have h2 : r ^^^ 2 ^ 63 = 2 ^ 63 ||| r := by
    apply Nat.eq_of_testBit_eq
    intro k
    rw [Nat.testBit_xor, Nat.testBit_or, Nat.testBit_two_pow]
    by_cases hk : 63 = k
    · subst hk
      have : r.testBit 63 = false := Nat.testBit_lt_two_pow (by omega)
      simp [this]
    · simp [hk]
  rw [h2, ← h1]

set_option maxHeartbeats 400000 in
theorem join_any (n : Bool) (f : Nat) (e : Int) (hf : f < 18446744073709551616) (w : World) :
    Calls Tryz.prog 153 #[.agg #[.bool n, .int .u64 f, .int .i64 e]] w fun r w' => r = .returned (.tuple #[.float .f64 (joinF n f e), .bool (okP f e)]) ∧ Below w.heap.size w w' := by
  have hv := valR_lt f e
  have hu : ∀ b, Op.unary .neg (.float .f64 b) = pure (.float .f64 (Op.negFloat .f64 b)) := fun _ => rfl
  have hg := neg_word (r := valR f e) (by omega)
  cases ho : okP f e
  · have HE : Hid (joinF n f e = 0) := (show joinF n f e = 0 by unfold joinF; rw [ho]; rfl)
    clear hg hv
    go_enter Tryz.func153, Tryz.ntmps153
    go_wp2_with (go_at_call 165; refine (sizeOf_any _ _ (by assumption) _).mono ?_; rintro e w' ⟨rfl, rfl⟩)
    go_ret2
    exact ⟨end_fb HE.out.symm rfl, (Below.refl _ _).alloc (Nat.le_refl _) _⟩
  · cases n
    · have HE : Hid (joinF false f e = valR f e) := (show joinF false f e = valR f e by unfold joinF; rw [ho]; rfl)
      clear hg hv
      go_enter Tryz.func153, Tryz.ntmps153
      go_wp2_with (go_at_call 165; refine (sizeOf_any _ _ (by assumption) _).mono ?_; rintro e w' ⟨rfl, rfl⟩)
      go_ret2
      exact ⟨end_fb HE.out.symm rfl, (Below.refl _ _).alloc (Nat.le_refl _) _⟩
    · have HE : joinF true f e = 9223372036854775808 + valR f e := by unfold joinF; rw [ho]; rfl
      rw [← HE] at hg
      clear hv HE
      go_enter Tryz.func153, Tryz.ntmps153
      go_wp2_with (go_at_call 165; refine (sizeOf_any _ _ (by assumption) _).mono ?_; rintro e w' ⟨rfl, rfl⟩)
      go_ret2
      exact ⟨rfl, (Below.refl _ _).alloc (Nat.le_refl _) _⟩

set_option maxHeartbeats 400000 in
theorem samef_any (a b : Nat) (ha : a < 18446744073709551616) (hb : b < 18446744073709551616) (w : World) :
    Calls Tryz.prog 34 #[.float .f64 a, .float .f64 b] w fun e w' => e = .returned (.bool (sameB a b)) ∧ w' = w := by
  have fa := run_fbits a
  have fb := run_fbits b
  have na := ord_self a ha
  have nb := ord_self b hb
  by_cases h : a = b
  · have b1 : ((a : Int) == (b : Int)) = true := by simp; omega
    have HE : Hid (sameB a b = true) := (show sameB a b = true by unfold sameB; subst h; cases nanB a <;> simp)
    clear h
    go_enter Tryz.func34, Tryz.ntmps34
    go_wp2
    go_ret
    exact ⟨end_bool HE.out.symm, rfl⟩
  · have b1 : ((a : Int) == (b : Int)) = false := by simp; omega
    have HE : Hid (sameB a b = (nanB a && nanB b)) := (show sameB a b = (nanB a && nanB b) by unfold sameB; cases nanB a <;> simp [h])
    clear h
    cases ea : nanB a
    all_goals
      rw [ea] at na
      go_enter Tryz.func34, Tryz.ntmps34
      go_wp2
      go_ret
      exact ⟨end_bool (by rw [HE.out, ea]; rfl), rfl⟩
end Go.Proofs.YtmbcmhncicbbjaaGreatDoor

namespace Go.Proofs.YtmbcmhncicbbjaaGreatDoor
open Go.RowKit

theorem place_at {p : Int} (h : -9218868437227405312 ≤ p ∧ p ≤ 9218868437227405312) : place (atF p) = p ∧ nanB (atF p) = false ∧ atF p < 18446744073709551616 := by
  have hl := atF_lt p
  refine ⟨?_, ?_, hl⟩
  · unfold atF; rw [atB_in h, if_pos rfl]
    by_cases hp : p < 0
    · rw [if_pos hp]; unfold place sgn rung; simp; omega
    · rw [if_neg hp]; rw [place_small (by omega)]; omega
  · unfold atF; rw [atB_in h, if_pos rfl]
    by_cases hp : p < 0
    · rw [if_pos hp]; unfold nanB rung; simp; omega
    · rw [if_neg hp]; exact nan_small (by omega)
theorem next_up {a : Nat} (na : nanB a = false) : place (nextF a true) = min (place a + 1) 9218868437227405312 ∧ nanB (nextF a true) = false ∧ nextF a true < 18446744073709551616 := by
  have hb := place_nan na
  have e : nextF a true = atF (min (place a + 1) 9218868437227405312) := by unfold nextF; rw [na]; rfl
  rw [e]; exact place_at (by omega)
theorem next_dn {a : Nat} (na : nanB a = false) : place (nextF a false) = max (place a - 1) (-9218868437227405312) ∧ nanB (nextF a false) = false ∧ nextF a false < 18446744073709551616 := by
  have hb := place_nan na
  have e : nextF a false = atF (max (place a - 1) (-9218868437227405312)) := by unfold nextF; rw [na]; rfl
  rw [e]; exact place_at (by omega)
theorem ord_lt {a b : Nat} (ha : a < 18446744073709551616) (hb : b < 18446744073709551616) (na : nanB a = false) (nb : nanB b = false) (h : place a < place b) : FloatKind.f64.format.order a b = some .lt := by
  rw [ord_num ha hb na nb, cmp_int, if_pos h]
theorem ord_eq {a b : Nat} (ha : a < 18446744073709551616) (hb : b < 18446744073709551616) (na : nanB a = false) (nb : nanB b = false) (h : place a = place b) : FloatKind.f64.format.order a b = some .eq := by
  rw [ord_num ha hb na nb, cmp_int, if_neg (by omega), if_pos h]
theorem ord_gt {a b : Nat} (ha : a < 18446744073709551616) (hb : b < 18446744073709551616) (na : nanB a = false) (nb : nanB b = false) (h : place b < place a) : FloatKind.f64.format.order a b = some .gt := by
  rw [ord_num ha hb na nb, cmp_int, if_neg (by omega), if_neg (by omega)]
theorem fin_place {a : Nat} : finB a = decide (-9218868437227405312 < place a ∧ place a < 9218868437227405312) := by
  unfold finB place
  rw [decide_eq_decide]
  split <;> omega

theorem neg_place {a : Nat} (ha : a < 18446744073709551616) : place (Op.negFloat .f64 a) = -place a ∧ nanB (Op.negFloat .f64 a) = nanB a ∧ Op.negFloat .f64 a < 18446744073709551616 := by
  have hr := rung_lt a
  have hw := rung_of a ha
  cases hs : sgn a
  · rw [hs] at hw
    simp only [Bool.false_eq_true, if_false] at hw
    have e : Op.negFloat .f64 a = 9223372036854775808 + a := neg_word (by omega)
    rw [e]
    have hra : rung (9223372036854775808 + a) = rung a := by unfold rung; omega
    refine ⟨?_, ?_, by omega⟩
    · unfold place; rw [hra, hs]; unfold sgn; simp
    · unfold nanB; rw [hra]
  · rw [hs] at hw
    simp only [if_true] at hw
    have e0 : Op.negFloat .f64 (rung a) = 9223372036854775808 + rung a := neg_word hr
    have e1 : a = Op.negFloat .f64 (rung a) := by rw [e0]; exact hw
    have e2 : Op.negFloat .f64 (Op.negFloat .f64 (rung a)) = rung a := by
      unfold Op.negFloat
      rw [Nat.xor_assoc, Nat.xor_self, Nat.xor_zero]
    have e : Op.negFloat .f64 a = rung a := (congrArg (Op.negFloat .f64) e1).trans e2
    rw [e]
    refine ⟨?_, ?_, by omega⟩
    · rw [place_small hr]; unfold place; rw [hs]; simp
    · unfold nanB; rw [rung_rung]

def infB (a : Nat) (s : Int) : Bool := if s < 0 then FloatKind.f64.format.order (Op.negFloat .f64 a) 9218868437227405311 == some .gt else FloatKind.f64.format.order a 9218868437227405311 == some .gt
theorem inf_plus {a : Nat} (ha : a < 18446744073709551616) (na : nanB a = false) : infB a 1 = decide (9218868437227405312 ≤ place a) := by
  unfold infB
  rw [if_neg (by omega), gt_num ha (by omega) na (nan_small (by omega)), place_small (by omega), decide_eq_decide]; omega
theorem inf_minus {a : Nat} (ha : a < 18446744073709551616) (na : nanB a = false) : infB a (-1) = decide (place a ≤ -9218868437227405312) := by
  obtain ⟨h1, h2, h3⟩ := neg_place ha
  unfold infB
  rw [if_pos (by omega), gt_num h3 (by omega) (h2.trans na) (nan_small (by omega)), place_small (by omega), h1, decide_eq_decide]; omega

/-- The NaN that an operation without an answer draws. -/
def nanW (x y : Nat) (w : World) : Nat := (Question.nanBits .f64 x y).cut (w.tape w.drawn (.nanBits .f64 x y))
theorem nanW_nan (x y : Nat) (w : World) : nanB (nanW x y w) = true ∧ nanW x y w < 18446744073709551616 := by
  unfold nanW Question.cut
  generalize w.tape w.drawn (Question.nanBits .f64 x y) = t
  have h1 := Nat.mod_lt t (show 0 < 2 by omega)
  have h2 := Nat.mod_lt (t / 2) (show 0 < 2 ^ 52 - 1 by omega)
  unfold nanB rung
  simp only [decide_eq_true_eq]
  generalize t / 2 % (2 ^ 52 - 1) = y at *
  rcases (show t % 2 = 0 ∨ t % 2 = 1 by omega) with h | h
  · rw [h]; omega
  · rw [h]; omega
theorem run_nan {P : Program} (op : BinOp) (hop : op = .sub ∨ op = .add) (t : TypeId) (x y : Nat) (h : floatBits op .f64 x y = none) (w : World) : (binOp op t (.float .f64 x) (.float .f64 y)).run P w = .ok (.float .f64 (nanW x y w)) w.drew := by
  rcases hop with rfl | rfl
  · have h' : Ieee.double.sub x y = none := h
    simp [binOp, Op.floatArith, fmt64, h', Question.forced, nanW]
  · have h' : Ieee.double.add x y = none := h
    simp [binOp, Op.floatArith, fmt64, h', Question.forced, nanW]
theorem sub_inf {a : Nat} (ha : a < 18446744073709551616) (hf : finB a = false) : floatBits .sub .f64 a a = none := by
  have h : ¬ rung a < 9218868437227405312 := by unfold finB at hf; simpa using hf
  unfold floatBits
  simp only [fmt64, Ieee.Format.sub]
  rw [read_eq a ha, if_neg h]
  split
  · simp only [Ieee.Datum.opposite, Ieee.Datum.sum]; cases sgn a <;> rfl
  · rfl

end Go.Proofs.YtmbcmhncicbbjaaGreatDoor
