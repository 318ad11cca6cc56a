/- The closures of Make, Identity, Transpose, Sub and Mul; a sum of products in order. -/
import Derived.Test.YtmbcmhncicbbjaaGreatDoorU2
import Derived.Test.YtmbcmhncicbbjaaGreatDoorU3
import Derived.Laws.OwnMore
import Derived.Deep.AppendLies
import Derived.Deep.RegionHeld3
namespace Go.Proofs.YtmbcmhncicbbjaaGreatDoor
open Go.RowKit

set_option maxHeartbeats 400000 in
theorem dfin_yes (a : Nat) (ha : a < 18446744073709551616) (hf : finB a = true) (w : World) :
    Calls Tryz.prog 108 #[.float .f64 a] w fun e w' => e = .returned (.bool true) ∧ w' = w := by
  have hm := fun w => run_float_arith (P := Tryz.prog) w .sub 48 .f64 _ _ _ (sub_self ha hf)
  have ho : (FloatKind.f64.format.order 0 0 == some .eq) = true := by kernel_rfl
  go_enter Tryz.func108, Tryz.ntmps108
  go_wp2
  go_ret
  exact ⟨end_bool ho, rfl⟩
set_option maxHeartbeats 400000 in
theorem dfin_no (a : Nat) (ha : a < 18446744073709551616) (hf : finB a = false) (w : World) :
    Calls Tryz.prog 108 #[.float .f64 a] w fun e w' => e = .returned (.bool false) ∧ w' = w.drew := by
  have hm := run_nan (P := Tryz.prog) .sub (Or.inl rfl) 48 a a (sub_inf ha hf)
  obtain ⟨h1, h2⟩ := nanW_nan a a w
  have ho : (FloatKind.f64.format.order (nanW a a w) 0 == some .eq) = false := by rw [ord_nan h2 (by omega) (Or.inl h1)]; rfl
  go_enter Tryz.func108, Tryz.ntmps108
  go_wp2
  go_ret
  exact ⟨rfl, rfl⟩
theorem u64_up {x : Nat} (h : x + 1 < 18446744073709551616) : IntKind.u64.wrap ((x : Int) + 1) = ((x + 1 : Nat) : Int) := by
  rw [IntKind.wrap_u64]; omega
theorem u64_dn {x : Nat} (h : x < 18446744073709551616) (h0 : x ≠ 0) : IntKind.u64.wrap ((x : Int) - 1) = ((x - 1 : Nat) : Int) := by
  rw [IntKind.wrap_u64]; omega
theorem nan_two {x : Nat} (hn : nanB x = false) (h0 : rung x ≠ 0) : (!nanB x && decide (0 < place x)) = !sgn x ∧ (!nanB x && decide (place x < 0)) = sgn x := by
  rw [hn]
  unfold place
  cases sgn x <;> simp <;> omega
set_option maxHeartbeats 400000 in
theorem further_any (x : Nat) (hx : x + 1 < 18446744073709551616) (w : World) :
    Calls Tryz.prog 143 #[.float .f64 x] w fun e w' => e = .returned (.float .f64 (x + 1)) ∧ w' = w := by
  have fa := run_fbits x
  have ff := run_ffrom
  have hwr := u64_up hx
  go_enter Tryz.func143, Tryz.ntmps143
  go_wp2
  go_ret
  exact ⟨end_flt (by omega), rfl⟩
set_option maxHeartbeats 400000 in
theorem nearer_any (x : Nat) (hx : x < 18446744073709551616) (h0 : x ≠ 0) (w : World) :
    Calls Tryz.prog 144 #[.float .f64 x] w fun e w' => e = .returned (.float .f64 (x - 1)) ∧ w' = w := by
  have fa := run_fbits x
  have ff := run_ffrom
  have hwr := u64_dn hx h0
  go_enter Tryz.func144, Tryz.ntmps144
  go_wp2
  go_ret
  exact ⟨end_flt (by omega), rfl⟩
set_option maxHeartbeats 400000 in
theorem dup_any (x : Nat) (hx : x < 18446744073709551616) (hn : nanB x = false) (w : World) :
    Calls Tryz.prog 130 #[.float .f64 x] w fun e w' => e = .returned (.float .f64 (upR x)) ∧ w' = w := by
  have ff := run_ffrom
  have h1 := zero_eq hx
  have h2 := zero_gt hx
  have HE : Hid (upR x = if rung x = 0 then 1 else if sgn x then x - 1 else x + 1) := rfl
  have hr := rung_lt x
  have hw := word_two hx
  by_cases h0 : rung x = 0
  · have e0 : (rung x == 0) = true := by simpa using h0
    rw [e0] at h1
    go_enter Tryz.func130, Tryz.ntmps130
    go_wp2
    go_ret
    exact ⟨end_flt (by rw [HE.out, if_pos h0]), rfl⟩
  · have e0 : (rung x == 0) = false := by simpa using h0
    rw [e0] at h1
    rw [(nan_two hn h0).1] at h2
    cases hs : sgn x <;> rw [hs] at h2
    · have hx1 : x + 1 < 18446744073709551616 := by
        rcases hw with ⟨e, _⟩ | ⟨_, h⟩
        · omega
        · rw [hs] at h; cases h
      clear hw
      go_enter Tryz.func130, Tryz.ntmps130
      go_wp2_with (go_at_call 143; refine (further_any _ hx1 _).mono ?_; rintro e w' ⟨rfl, rfl⟩)
      go_ret
      exact ⟨end_flt (by rw [HE.out, if_neg h0, hs]; rfl), rfl⟩
    · have hx0 : x ≠ 0 := by
        rcases hw with ⟨_, h⟩ | ⟨e, _⟩
        · rw [hs] at h; cases h
        · omega
      clear hw
      go_enter Tryz.func130, Tryz.ntmps130
      go_wp2_with (go_at_call 144; refine (nearer_any _ hx hx0 _).mono ?_; rintro e w' ⟨rfl, rfl⟩)
      go_ret
      exact ⟨end_flt (by rw [HE.out, if_neg h0, hs]; rfl), rfl⟩
set_option maxHeartbeats 400000 in
theorem ddown_any (x : Nat) (hx : x < 18446744073709551616) (hn : nanB x = false) (w : World) :
    Calls Tryz.prog 129 #[.float .f64 x] w fun e w' => e = .returned (.float .f64 (downR x)) ∧ w' = w := by
  have hu := run_negf
  go_enter Tryz.func129, Tryz.ntmps129
  go_wp2_with (go_at_call 130; refine (dup_any _ (negW_lt hx) ((neg_place hx).2.1.trans hn) _).mono ?_; rintro e w' ⟨rfl, rfl⟩)
  go_ret
  exact ⟨rfl, rfl⟩
set_option maxHeartbeats 2000000 in
theorem side_any (x : Nat) (r m : Int) (hx : x < 18446744073709551616) (hn : nanB x = false) (h0 : rung x ≠ 0) (w : World) :
    Calls Tryz.prog 112 #[.float .f64 x, .int .i64 r, .int .i8 m] w fun e w' => e = .returned (.float .f64 (sideR x r m)) ∧ w' = w := by
  have HE : Hid (sideR x r m = if decide (r < 0) && (m == 1 || (m == 3 && (!sgn x && rung x != 0))) then downR x else if decide (0 < r) && (m == 2 || (m == 3 && (sgn x && rung x != 0))) then upR x else x) := rfl
  have hz := zero_ne hx
  have h0' : (rung x != 0) = true := by simpa using h0
  rw [h0'] at hz
  cases e1 : (m == 1) <;> cases e2 : (m == 2) <;> cases e3 : (m == 3) <;> cases hs : sgn x <;> by_cases h1 : r < 0 <;> by_cases h2 : 0 < r <;>
    first
    | (exfalso; simp at e1 e2 e3; omega)
    | (go_enter Tryz.func112, Tryz.ntmps112
       go_wp2_with (first
        | (go_at_call 111; refine (signbit_any _ (by assumption) _).mono ?_; rw [hs]; rintro e w' ⟨rfl, rfl⟩)
        | (go_at_call 130; refine (dup_any _ hx hn _).mono ?_; rintro e w' ⟨rfl, rfl⟩)
        | (go_at_call 129; refine (ddown_any _ hx hn _).mono ?_; rintro e w' ⟨rfl, rfl⟩))
       go_ret
       exact ⟨end_flt (by rw [HE.out, e1, e2, e3, hs, h0']; simp [h1, h2]; try (intro _; omega)), rfl⟩)
set_option maxHeartbeats 1000000 in
theorem great_any (x : Nat) (m : Int) (hx : x < 18446744073709551616) (hn : nanB x = false) (h0 : rung x ≠ 0) (w : World) :
    Calls Tryz.prog 109 #[.float .f64 x, .int .i8 m] w fun e w' => e = .returned (.float .f64 (greatR x m)) ∧ w' = w := by
  have HE : Hid (greatR x m = if m == 3 || (!sgn x && m == 1) || (sgn x && m == 2) then cpy 9218868437227405311 x else x) := rfl
  have hg := zero_gt hx
  have hl := zero_lt hx
  rw [(nan_two hn h0).1] at hg
  rw [(nan_two hn h0).2] at hl
  cases e1 : (m == 1) <;> cases e2 : (m == 2) <;> cases e3 : (m == 3) <;> cases hs : sgn x <;> rw [hs] at hg hl <;>
    first
    | (exfalso; simp at e1 e2 e3; omega)
    | (go_enter Tryz.func109, Tryz.ntmps109
       go_wp2_with (go_at_call 127; refine (copysign_any _ _ (by omega) hx _).mono ?_; rintro e w' ⟨rfl, rfl⟩)
       go_ret
       exact ⟨end_flt (by rw [HE.out, e1, e2, e3, hs]; rfl), rfl⟩)
set_option maxHeartbeats 1000000 in
theorem dnought_any (z n : Bool) (b : Nat) (m : Int) (hb : b < 18446744073709551616) (w : World) :
    Calls Tryz.prog 110 #[.bool z, .bool n, .float .f64 b, .int .i8 m] w fun e w' => e = .returned (.float .f64 (noughtR z n b m)) ∧ w' = w := by
  have HE : Hid (noughtR z n b m = if z && (rung b == 0 && n == sgn b) then b else if m == 1 then 9223372036854775808 else 0) := rfl
  have hz := zero_eq hb
  cases e1 : (rung b == 0) <;> rw [e1] at hz <;> cases z <;> cases n <;> cases hs : sgn b <;> cases e2 : (m == 1) <;>
    (go_enter Tryz.func110, Tryz.ntmps110
     go_wp2_with (first
        | (go_at_call 111; refine (signbit_any _ (by assumption) _).mono ?_; rw [hs]; rintro e w' ⟨rfl, rfl⟩)
        | (go_at_call 127; refine (copysign_any _ _ (by omega) (by omega) _).mono ?_; rintro e w' ⟨rfl, rfl⟩))
     go_ret
     exact ⟨end_flt (by rw [HE.out, e1, e2, hs]; first | rfl | exact cpy_nought), rfl⟩)
end Go.Proofs.YtmbcmhncicbbjaaGreatDoor

namespace Go.Proofs.YtmbcmhncicbbjaaGreatDoor
open Go.RowKit

/-- The document's answer for a finite sum. -/
def refM (a b n r : Nat) (m : Int) : Nat := if finB n then (if rung n == 0 then noughtR (rung a == 0) (sgn a) b m else sideR n (signF r) m) else greatR n m
set_option maxHeartbeats 2000000 in
theorem dadd_fin (a b n t r : Nat) (c : Bool) (m : Int) (ha : a < 18446744073709551616) (hb : b < 18446744073709551616) (fa : finB a = true) (fb : finB b = true) (hc : (FloatKind.f64.format.order (rung a) (rung b) == some .lt) = c)
    (hn : floatBits .add .f64 a b = some n) (ht : floatBits .sub .f64 n (if c then b else a) = some t) (hr : floatBits .sub .f64 (if c then a else b) t = some r) (hnl : n < 18446744073709551616) (hni : rung n ≤ 9218868437227405312) (hrl : r < 18446744073709551616) (w : World) :
    Calls Tryz.prog 76 #[.float .f64 a, .float .f64 b, .int .i8 m] w fun e w' => e = .returned (.float .f64 (refM a b n r m)) ∧ Below w.heap.size w w' := by
  have HE : Hid (refM a b n r m = if finB n then (if rung n == 0 then noughtR (rung a == 0) (sgn a) b m else sideR n (signF r) m) else greatR n m) := rfl
  have hz := zero_eq hnl
  have hza := zero_eq ha
  have hnn : nanB n = false := by unfold nanB; simp; omega
  have h1 := fun w => run_float_arith (P := Tryz.prog) w .add 48 .f64 _ _ _ hn
  have h2 := fun w => run_float_arith (P := Tryz.prog) w .sub 48 .f64 _ _ _ ht
  have h3 := fun w => run_float_arith (P := Tryz.prog) w .sub 48 .f64 _ _ _ hr
  have ca := dfin_yes a ha fa
  have cb := dfin_yes b hb fb
  clear hn ht hr
  cases fn : finB n
  · have h0 : rung n ≠ 0 := by unfold finB at fn; simp at fn; omega
    have cn := dfin_no n hnl fn
    go_enter Tryz.func76, Tryz.ntmps76
    go_wp2_with (first
        | (go_at_call_of 108 (Value.float FloatKind.f64 a); refine (ca _).mono ?_; rintro e w' ⟨rfl, rfl⟩)
        | (go_at_call_of 108 (Value.float FloatKind.f64 b); refine (cb _).mono ?_; rintro e w' ⟨rfl, rfl⟩)
        | (go_at_call_of 108 (Value.float FloatKind.f64 n); refine (cn _).mono ?_; rintro e w' ⟨rfl, rfl⟩)
        | (go_at_call 109; refine (great_any _ _ hnl hnn h0 _).mono ?_; rintro e w' ⟨rfl, rfl⟩))
    go_ret
    exact ⟨end_flt (by rw [HE.out, fn]; rfl), (Below.refl _ _).drew⟩
  · have cn := dfin_yes n hnl fn
    cases e1 : (rung n == 0) <;> rw [e1] at hz
    · have h0 : rung n ≠ 0 := by simpa using e1
      cases c
      · simp only [Bool.false_eq_true, if_false] at h2 h3
        go_enter Tryz.func76, Tryz.ntmps76
        go_wp2_with (first
          | (go_at_call_of 108 (Value.float FloatKind.f64 a); refine (ca _).mono ?_; rintro e w' ⟨rfl, rfl⟩)
          | (go_at_call_of 108 (Value.float FloatKind.f64 b); refine (cb _).mono ?_; rintro e w' ⟨rfl, rfl⟩)
          | (go_at_call_of 108 (Value.float FloatKind.f64 n); refine (cn _).mono ?_; rintro e w' ⟨rfl, rfl⟩)
          | (go_at_call 47; refine (abs_any _ (by assumption) _).mono ?_; rintro e w' ⟨rfl, rfl⟩)
          | (go_at_call 113; refine (dsign_any _ hrl _).mono ?_; rintro e w' ⟨rfl, rfl⟩)
          | (go_at_call 112; refine (side_any _ _ _ hnl hnn h0 _).mono ?_; rintro e w' ⟨rfl, rfl⟩))
        go_ret
        exact ⟨end_flt (by rw [HE.out, fn, e1]; rfl), Below.refl _ _⟩
      · simp only [if_true] at h2 h3
        go_enter Tryz.func76, Tryz.ntmps76
        go_wp2_with (first
          | (go_at_call_of 108 (Value.float FloatKind.f64 a); refine (ca _).mono ?_; rintro e w' ⟨rfl, rfl⟩)
          | (go_at_call_of 108 (Value.float FloatKind.f64 b); refine (cb _).mono ?_; rintro e w' ⟨rfl, rfl⟩)
          | (go_at_call_of 108 (Value.float FloatKind.f64 n); refine (cn _).mono ?_; rintro e w' ⟨rfl, rfl⟩)
          | (go_at_call 47; refine (abs_any _ (by assumption) _).mono ?_; rintro e w' ⟨rfl, rfl⟩)
          | (go_at_call 113; refine (dsign_any _ hrl _).mono ?_; rintro e w' ⟨rfl, rfl⟩)
          | (go_at_call 112; refine (side_any _ _ _ hnl hnn h0 _).mono ?_; rintro e w' ⟨rfl, rfl⟩))
        go_ret
        exact ⟨end_flt (by rw [HE.out, fn, e1]; rfl), Below.refl _ _⟩
    · go_enter Tryz.func76, Tryz.ntmps76
      go_wp2_with (first
        | (go_at_call_of 108 (Value.float FloatKind.f64 a); refine (ca _).mono ?_; rintro e w' ⟨rfl, rfl⟩)
        | (go_at_call_of 108 (Value.float FloatKind.f64 b); refine (cb _).mono ?_; rintro e w' ⟨rfl, rfl⟩)
        | (go_at_call_of 108 (Value.float FloatKind.f64 n); refine (cn _).mono ?_; rintro e w' ⟨rfl, rfl⟩)
        | (go_at_call 111; refine (signbit_any _ (by assumption) _).mono ?_; rintro e w' ⟨rfl, rfl⟩)
        | (go_at_call 110; refine (dnought_any _ _ _ _ hb _).mono ?_; rintro e w' ⟨rfl, rfl⟩))
      go_ret
      exact ⟨end_flt (by rw [HE.out, fn, e1]; rfl), Below.refl _ _⟩
set_option maxHeartbeats 1000000 in
theorem dadd_inf (a b : Nat) (m : Int) (ha : a < 18446744073709551616) (hb : b < 18446744073709551616) (hf : finB a = false ∨ finB b = false) (w : World) :
    Calls Tryz.prog 76 #[.float .f64 a, .float .f64 b, .int .i8 m] w fun e w' => (∃ r, e = .returned (.float .f64 r) ∧ NR (floatBits .add .f64 a b) r) ∧ Below w.heap.size w w' := by
  have h1 := fun w => run_op (P := Tryz.prog) .add (Or.inr rfl) 48 a b w
  have hB := opW_below .add a b (Below.refl w.heap.size w)
  have hN := add_NR (a := a) (b := b) w
  cases fa : finB a
  · have ca := dfin_no a ha fa
    go_enter Tryz.func76, Tryz.ntmps76
    go_wp2_with (go_at_call 108; refine (ca _).mono ?_; rintro e w' ⟨rfl, rfl⟩)
    go_ret
    exact ⟨⟨_, rfl, hN⟩, hB.drew⟩
  · have fb : finB b = false := by
      rcases hf with h | h
      · rw [fa] at h; cases h
      · exact h
    have ca := dfin_yes a ha fa
    have cb := dfin_no b hb fb
    go_enter Tryz.func76, Tryz.ntmps76
    go_wp2_with (first
        | (go_at_call_of 108 (Value.float FloatKind.f64 a); refine (ca _).mono ?_; rintro e w' ⟨rfl, rfl⟩)
        | (go_at_call_of 108 (Value.float FloatKind.f64 b); refine (cb _).mono ?_; rintro e w' ⟨rfl, rfl⟩))
    go_ret
    exact ⟨⟨_, rfl, hN⟩, hB.drew⟩
/-- Both tell the same. -/
theorem refM_addM {a b n t r : Nat} {c : Bool} (m : Int) (ha : a < 18446744073709551616) (hb : b < 18446744073709551616) (fa : finB a = true) (fb : finB b = true)
    (hnl : n < 18446744073709551616) (hni : rung n ≤ 9218868437227405312) (h00 : rung n = 0 → sgn a = sgn b → rung a = 0 ∧ rung b = 0)
    (ht : floatBits .sub .f64 n (if c then b else a) = some t) (hr : floatBits .sub .f64 (if c then a else b) t = some r) : refM a b n r m = addM a b n r m := by
  unfold refM addM
  cases fn : finB n
  · have hi : rung n = 9218868437227405312 := by unfold finB at fn; simp at fn; omega
    have e1 : (rung n == 0) = false := by rw [hi]; rfl
    have hx : (if c then b else a) < 18446744073709551616 ∧ finB (if c then b else a) = true ∧ (if c then a else b) < 18446744073709551616 ∧ finB (if c then a else b) = true := by cases c <;> exact ⟨by assumption, by assumption, by assumption, by assumption⟩
    obtain ⟨g1, g2, g3⟩ := rest_inf hnl hi hx.1 hx.2.1 hx.2.2.1 hx.2.2.2
    rw [g1] at ht
    obtain rfl : n = t := Option.some.inj ht
    rw [g2] at hr
    obtain rfl : negW n = r := Option.some.inj hr
    rw [e1, g3]
    simp only [Bool.false_eq_true, if_false]
    exact (step_great m hnl hi).symm
  · cases e1 : (rung n == 0)
    · simp only [Bool.false_eq_true, if_false, if_true]
      exact (step_side _ m hnl (fin_rung fn) (by simpa using e1)).symm
    · simp only [if_true]
      unfold noughtR noughtF
      cases hs : (sgn a == sgn b)
      · simp
      · have hs' : sgn a = sgn b := by simpa using hs
        obtain ⟨r1, r2⟩ := h00 (by simpa using e1) hs'
        rw [r1, r2]
        simp only [beq_self_eq_true, Bool.and_true, if_true]
        rcases word_two ha with ⟨w1, s1⟩ | ⟨w1, s1⟩ <;> rcases word_two hb with ⟨w2, s2⟩ | ⟨w2, s2⟩ <;> rw [s1, s2] at hs' <;> first | (cases hs'; done) | omega
end Go.Proofs.YtmbcmhncicbbjaaGreatDoor

namespace Go.Proofs.YtmbcmhncicbbjaaGreatDoor
open Go.RowKit

theorem dadd_gen (a b : Nat) (m : Int) (ha : a < 18446744073709551616) (hb : b < 18446744073709551616) (fa : finB a = true) (fb : finB b = true) (w : World) :
    Calls Tryz.prog 76 #[.float .f64 a, .float .f64 b, .int .i8 m] w fun e w' => e = .returned (.float .f64 (addV a b m)) ∧ Below w.heap.size w w' := by
  obtain ⟨h1, h2, h3, h4, h5, h6, h7⟩ := sum_parts ha hb fa fb
  have h := dadd_fin a b _ _ _ _ m ha hb fa fb rfl h1 h2 h3 h4 h5 h6 w
  rw [refM_addM m ha hb fa fb h4 h5 h7 h2 h3] at h
  exact h
end Go.Proofs.YtmbcmhncicbbjaaGreatDoor

namespace Go.Proofs.YtmbcmhncicbbjaaGreatDoor
open Go.RowKit

/-- A sum upwards, of any two floats. -/
def adU (a b : Nat) : Option Nat := if finB a && finB b then some (addV a b 2) else floatBits .add .f64 a b
theorem vnan_fin {s : Nat} (h : nanB s = true) : finB s = false := by
  unfold nanB at h; unfold finB
  simp only [decide_eq_true_eq] at h
  simp; omega
theorem adU_nan {a b : Nat} (ha : a < 18446744073709551616) (hb : b < 18446744073709551616) (h : nanB a = true ∨ nanB b = true) : adU a b = none := by
  unfold adU
  have hf : (finB a && finB b) = false := by
    rcases h with h | h
    · rw [vnan_fin h, Bool.false_and]
    · rw [vnan_fin h, Bool.and_false]
  rw [hf]
  exact op_nan (op := .add) (Or.inl rfl) ha hb h
theorem padd_up (a b : Nat) (ha : a < 18446744073709551616) (hb : b < 18446744073709551616) (w : World) :
    Calls Tryz.prog 75 #[.float .f64 a, .float .f64 b, .int .i8 2] w fun e w' => ∃ r, e = .returned (.float .f64 r) ∧ NR (adU a b) r ∧ Below w.heap.size w w' := by
  unfold adU
  cases h : (finB a && finB b)
  · simp only [Bool.false_eq_true, if_false]
    refine (radd_inf a b 2 ha hb (by cases fa : finB a; exact Or.inl rfl; rw [fa] at h; exact Or.inr (by simpa using h)) w).mono ?_
    rintro e w' ⟨⟨r, rfl, h1⟩, h2⟩
    exact ⟨r, rfl, h1, h2⟩
  · have fa : finB a = true := by revert h; cases finB a <;> simp
    have fb : finB b = true := by revert h; cases finB b <;> simp
    simp only [if_true]
    refine (radd_gen a b 2 ha hb fa fb w).mono ?_
    rintro e w' ⟨rfl, rfl⟩
    exact ⟨_, rfl, ⟨addV_lt 2 ha hb fa fb, rfl⟩, Below.refl _ _⟩
theorem dadd_up (a b : Nat) (ha : a < 18446744073709551616) (hb : b < 18446744073709551616) (w : World) :
    Calls Tryz.prog 76 #[.float .f64 a, .float .f64 b, .int .i8 2] w fun e w' => ∃ r, e = .returned (.float .f64 r) ∧ NR (adU a b) r ∧ Below w.heap.size w w' := by
  unfold adU
  cases h : (finB a && finB b)
  · simp only [Bool.false_eq_true, if_false]
    refine (dadd_inf a b 2 ha hb (by cases fa : finB a; exact Or.inl rfl; rw [fa] at h; exact Or.inr (by simpa using h)) w).mono ?_
    rintro e w' ⟨⟨r, rfl, h1⟩, h2⟩
    exact ⟨r, rfl, h1, h2⟩
  · have fa : finB a = true := by revert h; cases finB a <;> simp
    have fb : finB b = true := by revert h; cases finB b <;> simp
    simp only [if_true]
    refine (dadd_gen a b 2 ha hb fa fb w).mono ?_
    rintro e w' ⟨rfl, hB⟩
    exact ⟨_, rfl, ⟨addV_lt 2 ha hb fa fb, rfl⟩, hB⟩
/-- The sizes of the first k floats summed, each sum upwards. -/
def nrO (xs : List Nat) : Nat → Option Nat
  | 0 => some 0
  | k + 1 => (nrO xs k).bind fun s => adU s (rung (xs.getD k 0))
theorem vrung64 (a : Nat) : rung a < 18446744073709551616 := by have := rung_lt a; omega
theorem nrO_step {xs : List Nat} {k s r : Nat} (h : NR (nrO xs k) s) (hr : NR (adU s (rung (xs.getD k 0))) r) : NR (nrO xs (k + 1)) r := by
  show NR ((nrO xs k).bind _) r
  cases ho : nrO xs k with
  | none =>
    rw [ho] at h
    rw [adU_nan h.1 (vrung64 _) (Or.inl h.2)] at hr
    exact hr
  | some v =>
    rw [ho] at h
    have e : s = v := h.2
    subst e
    exact hr
set_option maxHeartbeats 1000000 in
theorem vnorm_any (xs : List Nat) (ao : Option Addr) (cap : Nat) (w : World) (hr : GRow w ao xs) (hF : FW xs) (hn : xs.length ≤ 1125899906842624) :
    Calls Tryz.prog 44 #[.slice ao xs.length cap] w fun e w' => ∃ r, e = .returned (.float .f64 r) ∧ NR (nrO xs xs.length) r ∧ Below w.heap.size w w' := by
  go_enter Tryz.func44, Tryz.ntmps44
  go_wp2
  go_loopg [3, 4, 7] xs.length (fun g s _ i wr => ∃ k r : Nat, k ≤ xs.length ∧ g = xs.length - k ∧ s = .float .f64 r ∧ i = .int .i64 k ∧ Hid (NR (nrO xs k) r) ∧ Hid (Below w.heap.size w wr))
  case atStart => exact ⟨0, 0, Nat.zero_le _, rfl, rfl, rfl, ⟨by omega, rfl⟩, Below.refl _ _⟩
  case round =>
    obtain ⟨k, r, hk, hg, rfl, rfl, hN, hB⟩ := hrel
    have HG : Hid (gk = xs.length - k) := hg
    clear hg
    by_cases hlt : k < xs.length
    · rcases hr.below hB.out with h | ⟨b, off, rfl, hc⟩
      · omega
      have g1 := hc k hlt
      have hx := hF.at hlt
      have HS : Hid (∀ q, NR (adU r (rung (xs.getD k 0))) q → NR (nrO xs (k + 1)) q) := fun q h => nrO_step hN.out h
      have hst := padd_up r (rung (xs.getD k 0)) hN.out.1 (vrung64 _)
      generalize xs.getD k 0 = x at *
      have cb := abs_any x hx
      have i1 : (k : Int) < (xs.length : Int) := by omega
      clear hc
      go_wp2_with (first
        | (go_at_call 47; refine (cb _).mono ?_; rintro e w' ⟨rfl, rfl⟩)
        | (go_at_call 75; refine (hst _).mono ?_; rintro e w2 ⟨r2, rfl, h2, b2⟩))
      go_roundg (xs.length - (k + 1))
      case measure => rw [HG.out]; omega
      case rel => exact ⟨k + 1, r2, by omega, rfl, rfl, by go_num, HS.out _ h2, hB.out.trans (b2.mono hB.out.size)⟩
    · have ek : k = xs.length := by omega
      subst ek
      have i1 : ¬ (xs.length : Int) < (xs.length : Int) := by omega
      go_wp2
      go_ret
      exact ⟨_, rfl, hN.out, hB.out⟩
set_option maxHeartbeats 1000000 in
theorem rnorm_any (xs : List Nat) (ao : Option Addr) (cap : Nat) (w : World) (hr : GRow w ao xs) (hF : FW xs) (hn : xs.length ≤ 1125899906842624) :
    Calls Tryz.prog 45 #[.slice ao xs.length cap] w fun e w' => ∃ r, e = .returned (.float .f64 r) ∧ NR (nrO xs xs.length) r ∧ Below w.heap.size w w' := by
  go_enter Tryz.func45, Tryz.ntmps45
  go_wp2
  go_loopg [3, 4] xs.length (fun g s i wr => ∃ k r : Nat, k ≤ xs.length ∧ g = xs.length - k ∧ s = .float .f64 r ∧ i = .int .i64 k ∧ Hid (NR (nrO xs k) r) ∧ Hid (Below w.heap.size w wr))
  case atStart => exact ⟨0, 0, Nat.zero_le _, rfl, rfl, rfl, ⟨by omega, rfl⟩, Below.refl _ _⟩
  case round =>
    obtain ⟨k, r, hk, hg, rfl, rfl, hN, hB⟩ := hrel
    have HG : Hid (gk = xs.length - k) := hg
    clear hg
    by_cases hlt : k < xs.length
    · rcases hr.below hB.out with h | ⟨b, off, rfl, hc⟩
      · omega
      have g1 := hc k hlt
      have hx := hF.at hlt
      have HS : Hid (∀ q, NR (adU r (rung (xs.getD k 0))) q → NR (nrO xs (k + 1)) q) := fun q h => nrO_step hN.out h
      have hst := dadd_up r (rung (xs.getD k 0)) hN.out.1 (vrung64 _)
      generalize xs.getD k 0 = x at *
      have cb := abs_any x hx
      have i1 : (k : Int) < (xs.length : Int) := by omega
      clear hc
      go_wp2_with (first
        | (go_at_call 47; refine (cb _).mono ?_; rintro e w' ⟨rfl, rfl⟩)
        | (go_at_call 76; refine (hst _).mono ?_; rintro e w2 ⟨r2, rfl, h2, b2⟩))
      go_roundg (xs.length - (k + 1))
      case measure => rw [HG.out]; omega
      case rel => exact ⟨k + 1, r2, by omega, rfl, rfl, by go_num, HS.out _ h2, hB.out.trans (b2.mono hB.out.size)⟩
    · have ek : k = xs.length := by omega
      subst ek
      have i1 : ¬ (xs.length : Int) < (xs.length : Int) := by omega
      go_wp2
      go_ret
      exact ⟨_, rfl, hN.out, hB.out⟩
/-- The place of the greatest size so far, and that size. -/
def msL (xs : List Nat) : Nat → Int × Nat
  | 0 => (-1, 0)
  | k + 1 => if nanB (xs.getD k 0) = false ∧ ((msL xs k).1 < 0 ∨ (msL xs k).2 < rung (xs.getD k 0)) then ((k : Int), rung (xs.getD k 0)) else msL xs k
theorem msL_bounds (xs : List Nat) (k : Nat) : -1 ≤ (msL xs k).1 ∧ (msL xs k).1 < k ∧ (msL xs k).2 ≤ 9218868437227405312 := by
  induction k with
  | zero => exact ⟨by simp [msL], by simp [msL], by simp [msL]⟩
  | succ k ih =>
    unfold msL
    split
    · rename_i h
      refine ⟨by omega, by omega, ?_⟩
      have := h.1
      unfold nanB at this
      simpa using this
    · exact ⟨ih.1, by omega, ih.2.2⟩
theorem msL_yes {xs : List Nat} {k : Nat} (h1 : nanB (xs.getD k 0) = false) (h2 : (msL xs k).1 < 0 ∨ (msL xs k).2 < rung (xs.getD k 0)) : msL xs (k + 1) = ((k : Int), rung (xs.getD k 0)) := by
  show (if _ then _ else _) = _
  rw [if_pos ⟨h1, h2⟩]
theorem msL_no {xs : List Nat} {k : Nat} (h : nanB (xs.getD k 0) = true ∨ (0 ≤ (msL xs k).1 ∧ rung (xs.getD k 0) ≤ (msL xs k).2)) : msL xs (k + 1) = msL xs k := by
  show (if _ then _ else _) = _
  rw [if_neg]
  rintro ⟨h1, h2⟩
  rcases h with h | ⟨h3, h4⟩
  · rw [h1] at h; cases h
  · omega
theorem nan_rung (x : Nat) : nanB (rung x) = nanB x := by
  unfold nanB
  rw [rung_small (rung_lt x)]
theorem size_gt {u v : Nat} (hu : u ≤ 9218868437227405312) (hv : v ≤ 9218868437227405312) : (FloatKind.f64.format.order u v == some .gt) = decide (v < u) := by
  have nu := nan_small hu
  have nv := nan_small hv
  rw [ord_num (by omega) (by omega) nu nv, place_small (by omega), place_small (by omega)]
  rw [cmp_gt]
  by_cases h : v < u
  · rw [decide_eq_true h]; exact decide_eq_true (by omega)
  · rw [decide_eq_false h]; exact decide_eq_false (by omega)
theorem size_gt_nan {u v : Nat} (hu : u < 18446744073709551616) (hv : v < 18446744073709551616) (h : nanB u = true) : (FloatKind.f64.format.order u v == some .gt) = false := by
  rw [ord_nan hu hv (Or.inl h)]; rfl
end Go.Proofs.YtmbcmhncicbbjaaGreatDoor

namespace Go.Proofs.YtmbcmhncicbbjaaGreatDoor
open Go.RowKit

theorem Tryz.infoF : (Tryz.prog.info? 48).map (fun i => (i.zero, i.size, i.bytes)) = some (some (.float .f64 0), 1, 8) := by kernel_rfl
/-- A new row of floats. -/
def RRow (w : World) (b n : Nat) (f : Nat → Nat) : Prop := w.rowIs b 48 n (fun j => .float .f64 (f j))
theorem RRow.set {w : World} {b n : Nat} {f : Nat → Nat} (h : RRow w b n f) (i v : Nat) : RRow (w.setCell ⟨b, i, none⟩ (.float .f64 v)) b n (fun j => if j = i then v else f j) := by
  have := World.rowIs.set h i (.float .f64 v)
  refine World.rowIs.congr this fun j _ => ?_
  by_cases hj : j = i <;> simp [hj]
theorem RRow.congr {w : World} {b n : Nat} {f g : Nat → Nat} (h : RRow w b n f) (e : ∀ j, j < n → f j = g j) : RRow w b n g := World.rowIs.congr h fun j hj => by rw [e j hj]
theorem RRow.made (w : World) (n : Nat) : RRow (w.alloc (.cells (madeCells #[.float .f64 0] n) 48)) w.heap.size n (fun _ => 0) := World.rowIs_made w (.float .f64 0) n 48
theorem RRow.below {w w' : World} {b n B : Nat} {f : Nat → Nat} (h : RRow w b n f) (hb : Below B w w') (hB : b < B) : RRow w' b n f := World.rowIs.of_block h (hb.block b hB)
theorem RRow.grow {w : World} {b n : Nat} {f : Nat → Nat} {xs : List Nat} (h : RRow w b n f) (hn : xs.length = n) (hx : ∀ j, j < n → xs.getD j 0 = f j) : GRow w (some ⟨b, 0, none⟩) xs := by
  right
  refine ⟨b, 0, rfl, fun j hj => ?_⟩
  have := h.cell (i := j) (by omega)
  rw [Nat.zero_add, this, hx j (by omega)]
/-- The same by appending: floats as values. -/
def fv (xs : List Nat) : List Value := xs.map fun x => .float .f64 x
theorem fv_length (xs : List Nat) : (fv xs).length = xs.length := by simp [fv]
theorem fv_app (xs ys : List Nat) : fv (xs ++ ys) = fv xs ++ fv ys := by unfold fv; rw [List.map_append]
theorem fv_at {xs : List Nat} {j : Nat} (hj : j < xs.length) : (fv xs)[j]? = some (.float .f64 (xs.getD j 0)) := by
  unfold fv
  rw [List.getElem?_map, List.getElem?_eq_getElem hj, getD_at hj]; rfl
theorem owned_grow {w : World} {base : Nat} {t : TypeId} {v : Value} {xs : List Nat} (h : w.ownsRow base t 1 v xs.length (fv xs)) : ∃ ao cap, v = .slice ao xs.length cap ∧ GRow w ao xs ∧ xs.length ≤ cap ∧ Frs base ao := by
  obtain ⟨h1, h2⟩ := h
  rcases h2 with ⟨rfl, hn⟩ | ⟨g, cap, cur, rfl, hg, hh, hc⟩
  · exact ⟨none, 0, by rw [hn], Or.inl hn, by omega, Frs.none _⟩
  · refine ⟨some ⟨g, 0, none⟩, cap, rfl, Or.inr ⟨g, 0, rfl, fun j hj => ?_⟩, hc.1, fun a e => by cases e; exact hg⟩
    have own : w.ownsRow base t 1 (.slice (some ⟨g, 0, none⟩) xs.length cap) xs.length (fv xs) := ⟨h1, Or.inr ⟨g, cap, cur, rfl, hg, hh, hc⟩⟩
    rw [Nat.zero_add, own.cellAt j (by omega), fv_at hj]
theorem own_opW {w : World} {base : Nat} {e : TypeId} {v : Value} {n : Nat} {xs : List Value} (h : w.ownsRow base e 1 v n xs) (op : BinOp) (a b : Nat) : (opW op a b w).ownsRow base e 1 v n xs := by
  unfold opW
  split
  · exact h
  · exact h.drew
theorem opW_heap (op : BinOp) (a b : Nat) (w : World) : (opW op a b w).heap = w.heap := by
  unfold opW
  split <;> rfl
/-- A list of floats that is, place by place, what is told (a NaN as none). -/
def LN (os : List (Option Nat)) (rs : List Nat) : Prop := rs.length = os.length ∧ ∀ i, i < os.length → NR (os.getD i none) (rs.getD i 0)
theorem LN.fw {os : List (Option Nat)} {rs : List Nat} (h : LN os rs) : FW rs := by
  intro x hx
  obtain ⟨i, hi, rfl⟩ := List.getElem_of_mem hx
  have := (h.2 i (by rw [← h.1]; exact hi)).1
  rw [getD_at hi] at this
  exact this
theorem NR_sameB {o : Option Nat} {r s : Nat} (h : NR o r) (g : NR o s) : sameB r s = true := by
  cases o with
  | none =>
    have h1 : nanB r = true := h.2
    have h2 : nanB s = true := g.2
    unfold sameB; rw [h1, h2]; rfl
  | some v =>
    have e1 : r = v := h.2
    have e2 : s = v := g.2
    subst e1 e2
    unfold sameB
    cases nanB s <;> simp
theorem LN.same {os : List (Option Nat)} {rs ss : List Nat} (h : LN os rs) (g : LN os ss) : sameL rs ss = true :=
  sameL_yes (h.1.trans g.1.symm) fun j hj => NR_sameB (h.2 j (by rw [← h.1]; exact hj)) (g.2 j (by rw [← h.1]; exact hj))
/-- The list of what is told of each of n places. -/
def tab (n : Nat) (o : Nat → Option Nat) : List (Option Nat) := (List.range n).map o
theorem tab_len (n : Nat) (o : Nat → Option Nat) : (tab n o).length = n := by simp [tab]
theorem tab_at {n : Nat} {o : Nat → Option Nat} {i : Nat} (h : i < n) : (tab n o).getD i none = o i := by simp [tab, List.getD_eq_getElem?_getD, h]
theorem LN_tab {n : Nat} {o : Nat → Option Nat} {rs : List Nat} (hl : rs.length = n) (h : ∀ i, i < n → NR (o i) (rs.getD i 0)) : LN (tab n o) rs :=
  ⟨by rw [tab_len]; exact hl, fun i hi => by rw [tab_len] at hi; rw [tab_at hi]; exact h i hi⟩
def toL' (n : Nat) (f : Nat → Nat) : List Nat := (List.range n).map f
theorem toL'_len (n : Nat) (f : Nat → Nat) : (toL' n f).length = n := by simp [toL']
theorem toL'_at {n : Nat} {f : Nat → Nat} {i : Nat} (h : i < n) : (toL' n f).getD i 0 = f i := by simp [toL', List.getD_eq_getElem?_getD, h]
/-- A list handed back: what it is, in new memory. -/
def GaveF (w : World) (os : List (Option Nat)) (v : Value) (w' : World) : Prop := ∃ ao cap rs, v = .slice ao rs.length cap ∧ LN os rs ∧ GRow w' ao rs ∧ rs.length ≤ cap ∧ Frs w.heap.size ao ∧ Below w.heap.size w w'
theorem GaveF.nil {w w' : World} (h : Below w.heap.size w w') : GaveF w [] (.slice none 0 0) w' := ⟨none, 0, [], rfl, ⟨rfl, fun i hi => by simp at hi⟩, Or.inl rfl, Nat.le_refl _, Frs.none _, h⟩
theorem GaveF.row {w w' : World} {n : Nat} {f : Nat → Nat} {o : Nat → Option Nat} (h : RRow w' w.heap.size n f) (hN : ∀ i, i < n → NR (o i) (f i)) (hB : Below w.heap.size w w') : GaveF w (tab n o) (.slice (some ⟨w.heap.size, 0, none⟩) n n) w' :=
  ⟨some ⟨w.heap.size, 0, none⟩, n, toL' n f, by rw [toL'_len], LN_tab (toL'_len _ _) (fun i hi => by rw [toL'_at hi]; exact hN i hi), h.grow (toL'_len _ _) (fun j hj => toL'_at hj), by rw [toL'_len]; exact Nat.le_refl _, fun a e => by cases e; exact Nat.le_refl _, hB⟩
theorem GaveF.own {w w' : World} {v : Value} {rs : List Nat} {o : Nat → Option Nat} {n : Nat} {t : TypeId} (h : w'.ownsRow w.heap.size t 1 v rs.length (fv rs)) (hl : rs.length = n) (hN : ∀ i, i < n → NR (o i) (rs.getD i 0)) (hB : Below w.heap.size w w') : GaveF w (tab n o) v w' := by
  obtain ⟨ao, cap, rfl, h1, h2, h3⟩ := owned_grow h
  exact ⟨ao, cap, rs, rfl, LN_tab hl hN, h1, h2, h3, hB⟩
/-- Do two lists go together? -/
def fitN (n k : Nat) : Int := if n = k then (if 4096 < n then 3 else 0) else 4
def ifFit (n k : Nat) (l : List (Option Nat)) : List (Option Nat) := if fitN n k = 0 then l else []
set_option maxHeartbeats 400000 in
theorem fit_any (n k cap cap2 : Nat) (ao bo : Option Addr) (hn : n ≤ 1125899906842624) (_hk : k ≤ 1125899906842624) (w : World) :
    Calls Tryz.prog 126 #[.slice ao n cap, .slice bo k cap2] w fun e w' => e = .returned (.int .i64 (fitN n k)) ∧ w' = w := by
  unfold fitN
  by_cases h1 : n = k
  · rw [if_pos h1]
    have i1 : (n : Int) = (k : Int) := by omega
    by_cases h2 : 4096 < n
    · rw [if_pos h2]
      have i2 : (4096 : Int) < (n : Int) := by omega
      clear h1
      go_enter Tryz.func126, Tryz.ntmps126
      go_wp2
      go_ret
      exact ⟨rfl, rfl⟩
    · rw [if_neg h2]
      have i2 : ¬ (4096 : Int) < (n : Int) := by omega
      clear h1
      go_enter Tryz.func126, Tryz.ntmps126
      go_wp2
      go_ret
      exact ⟨rfl, rfl⟩
  · rw [if_neg h1]
    have i1 : ¬ (n : Int) = (k : Int) := by omega
    go_enter Tryz.func126, Tryz.ntmps126
    go_wp2
    go_ret
    exact ⟨rfl, rfl⟩
end Go.Proofs.YtmbcmhncicbbjaaGreatDoor

namespace Go.Proofs.YtmbcmhncicbbjaaGreatDoor
open Go.RowKit

/-- A matrix as a value. -/
abbrev mxV (r c : Int) (ao : Option Addr) (n cap : Nat) : Value := .agg #[.int .i64 r, .int .i64 c, .slice ao n cap]
/-- A later world. -/
structure LOf (W : World) where
  val : World
  below : Below W.heap.size W val
theorem region_later {P : Program} {id : Nat} {Q : Exit → Act → World → Prop} {a : Act} {w : World} {l : List Oper} (hm : P.follows .mixedOrders = true) (hB : Region.lexB .any l.toArray = true)
    (h : wpQuiet P l.toArray (fun w' => ∃ u : LOf w, w' = u.val) (fun a' => ∀ w', (∃ u : LOf w, w' = u.val) → Q .normal a' w') l a) : (Code.region id l.toArray true).wp P Q a w :=
  wp_region_quiet (C := fun w' => ∃ u : LOf w, w' = u.val) hm hB ⟨⟨w.drew, (Below.refl _ _).drew⟩, rfl⟩ h
theorem later_of {P : Program} {f : Nat} {args : Array Value} {W : World} {u : LOf W} {v : Value} (h : Calls P f args u.val fun e w' => e = .returned v ∧ Below u.val.heap.size u.val w') : Calls P f args u.val fun e w'' => e = .returned v ∧ ∃ u' : LOf W, w'' = u'.val :=
  h.mono fun _ w' ⟨he, hb⟩ => ⟨he, ⟨w', u.below.trans (hb.mono u.below.size)⟩, rfl⟩
theorem later_same {P : Program} {f : Nat} {args : Array Value} {W : World} {u : LOf W} {v : Value} (h : Calls P f args u.val fun e w' => e = .returned v ∧ w' = u.val) : Calls P f args u.val fun e w'' => e = .returned v ∧ ∃ u' : LOf W, w'' = u'.val :=
  h.mono fun _ _ ⟨he, hb⟩ => ⟨he, u, hb⟩
theorem LOf.cell {W : World} (u : LOf W) {p : Addr} {v : Value} (h : W.cell? p = some v) : u.val.cell? p = some v := by
  rw [u.below.cell (World.block_lt_of_cell? W _ h)]; exact h
theorem LOf.any (W : World) : Nonempty (LOf W) := ⟨⟨W, Below.refl _ _⟩⟩
theorem LOf.row {W : World} (u : LOf W) {ao : Option Addr} {xs : List Nat} (h : GRow W ao xs) : GRow u.val ao xs := h.below u.below
/-- May there be so many rows, or columns? -/
def okN (n : Int) : Bool := decide (0 ≤ n) && decide (n ≤ 48)
theorem okN_iff {n : Int} : okN n = true ↔ 0 ≤ n ∧ n ≤ 48 := by unfold okN; simp
theorem okN_nat {n : Int} (h : okN n = true) : ∃ k : Nat, n = k ∧ k ≤ 48 := by
  obtain ⟨h1, h2⟩ := okN_iff.1 h
  exact ⟨n.toNat, by omega, by omega⟩
def rightM (r c : Int) (n : Nat) : Bool := okN r && okN c && decide ((n : Int) = r * c)
theorem mul48 {i c : Nat} (hi : i ≤ 48) (hc : c ≤ 48) : i * c ≤ 2304 := Nat.le_trans (Nat.mul_le_mul hi hc) (by decide)
theorem mulI {i c : Nat} : (i : Int) * (c : Int) = ((i * c : Nat) : Int) := (Int.natCast_mul i c).symm
theorem rightM_nat {r c : Int} {n : Nat} (h : rightM r c n = true) : ∃ R C : Nat, r = R ∧ c = C ∧ R ≤ 48 ∧ C ≤ 48 ∧ n = R * C := by
  unfold rightM at h
  simp only [Bool.and_eq_true, decide_eq_true_eq] at h
  obtain ⟨⟨h1, h2⟩, h3⟩ := h
  obtain ⟨R, rfl, hR⟩ := okN_nat h1
  obtain ⟨C, rfl, hC⟩ := okN_nat h2
  refine ⟨R, C, rfl, rfl, hR, hC, ?_⟩
  rw [mulI] at h3
  exact Int.ofNat.inj h3
theorem rightM_yes {R C : Nat} (hR : R ≤ 48) (hC : C ≤ 48) : rightM R C (R * C) = true := by
  unfold rightM
  rw [okN_iff.2 ⟨by omega, by omega⟩, okN_iff.2 ⟨by omega, by omega⟩, mulI]
  simp
set_option maxHeartbeats 400000 in
theorem morder_any (n : Int) (w : World) : Calls Tryz.prog 73 #[.int .i64 n] w fun e w' => e = .returned (.bool (okN n)) ∧ w' = w := by
  unfold okN
  by_cases h1 : 0 ≤ n
  · rw [decide_eq_true h1]
    by_cases h2 : n ≤ 48
    · rw [decide_eq_true h2]
      go_enter Tryz.func73, Tryz.ntmps73
      go_wp2
      go_ret
      exact ⟨rfl, rfl⟩
    · rw [decide_eq_false h2]
      go_enter Tryz.func73, Tryz.ntmps73
      go_wp2
      go_ret
      exact ⟨rfl, rfl⟩
  · rw [decide_eq_false h1]
    go_enter Tryz.func73, Tryz.ntmps73
    go_wp2
    go_ret
    exact ⟨rfl, rfl⟩
set_option maxHeartbeats 400000 in
theorem mcount_any (R C p : Nat) (hR : R ≤ 48) (hC : C ≤ 48) (hp : R * C = p) (w : World) : Calls Tryz.prog 74 #[.int .i64 R, .int .i64 C] w fun e w' => e = .returned (.int .i64 (p : Int)) ∧ w' = w := by
  have hm := mul48 hR hC
  have e1 : (R : Int) * (C : Int) = (p : Int) := by rw [mulI, hp]
  have hb : p ≤ 2304 := by omega
  clear hm hp
  go_enter Tryz.func74, Tryz.ntmps74
  go_wp2
  go_ret
  exact ⟨rfl, rfl⟩
end Go.Proofs.YtmbcmhncicbbjaaGreatDoor

namespace Go.Proofs.YtmbcmhncicbbjaaGreatDoor
open Go.RowKit

/-- A box of three cells that may be written. -/
def B3 (w : World) (b : Nat) (x y z : Value) : Prop := w.cell? ⟨b, 0, none⟩ = some x ∧ w.cell? ⟨b, 1, none⟩ = some y ∧ w.cell? ⟨b, 2, none⟩ = some z ∧ w.frozen? ⟨b, 0, none⟩ = false ∧ w.frozen? ⟨b, 1, none⟩ = false ∧ w.frozen? ⟨b, 2, none⟩ = false ∧ b < w.heap.size
theorem B3.below {w w1 : World} {b : Nat} {x y z : Value} (h : B3 w b x y z) (hb : Below w.heap.size w w1) : B3 w1 b x y z := by
  obtain ⟨h0, h1, h2, g0, g1, g2, h5⟩ := h
  obtain ⟨hc, hf⟩ := oldc hb
  exact ⟨by rw [hc _ _ h5]; exact h0, by rw [hc _ _ h5]; exact h1, by rw [hc _ _ h5]; exact h2, by rw [hf _ _ h5]; exact g0, by rw [hf _ _ h5]; exact g1, by rw [hf _ _ h5]; exact g2, Nat.lt_of_lt_of_le h5 hb.size⟩
theorem B3.alloc {w : World} {b : Nat} {x y z : Value} (h : B3 w b x y z) (o : Obj) : B3 (w.alloc o) b x y z := h.below ((Below.refl _ _).alloc (Nat.le_refl _) o)
theorem B3.drew {w : World} {b : Nat} {x y z : Value} (h : B3 w b x y z) : B3 w.drew b x y z := h
theorem B3.new (w : World) (x y z : Value) (t : TypeId) : B3 (w.alloc (.cells #[x, y, z] t)) w.heap.size x y z := by
  refine ⟨?_, ?_, ?_, ?_, ?_, ?_, ?_⟩ <;> go_simp
theorem B3.newAt {w : World} {n : Nat} (hn : w.heap.size = n) (x y z : Value) (t : TypeId) : B3 (w.alloc (.cells #[x, y, z] t)) n x y z := by subst hn; exact B3.new w x y z t
theorem B3.far {w : World} {b : Nat} {x y z : Value} (h : B3 w b x y z) {c o : Nat} (hc : c ≠ b) (v : Value) : B3 (w.setCell ⟨c, o, none⟩ v) b x y z := by
  obtain ⟨h0, h1, h2, g0, g1, g2, h5⟩ := h
  have n : ∀ p, (⟨b, p, none⟩ : Addr) ≠ ⟨c, o, none⟩ := fun p e => hc (by cases e; rfl)
  have n' : ∀ p, (⟨c, o, none⟩ : Addr) ≠ ⟨b, p, none⟩ := fun p e => hc (by cases e; rfl)
  refine ⟨?_, ?_, ?_, ?_, ?_, ?_, ?_⟩
  · exact (World.cell?_setCell_other _ _ _ v (by first | exact n _ | exact n' _)).trans h0
  · exact (World.cell?_setCell_other _ _ _ v (by first | exact n _ | exact n' _)).trans h1
  · exact (World.cell?_setCell_other _ _ _ v (by first | exact n _ | exact n' _)).trans h2
  · simp [go_sem, g0]
  · simp [go_sem, g1]
  · simp [go_sem, g2]
  · simp [go_sem]; exact h5
theorem old_one {w w1 : World} {o : Obj} (hb : Below (w.alloc o).heap.size (w.alloc o) w1) : Below w.heap.size w w1 :=
  ((Below.refl _ _).alloc (Nat.le_refl _) o).trans (hb.mono (by go_simp))
theorem old_two {w w1 : World} {o p : Obj} (hb : Below ((w.alloc o).alloc p).heap.size ((w.alloc o).alloc p) w1) : Below w.heap.size w w1 := old_one (old_one hb)
theorem old_three {w w1 : World} {o p q : Obj} (hb : Below (((w.alloc o).alloc p).alloc q).heap.size (((w.alloc o).alloc p).alloc q) w1) : Below w.heap.size w w1 := old_one (old_two hb)
theorem set_three {w w1 : World} {b : Nat} (h : Below w.heap.size w w1) (hb : w.heap.size ≤ b) (x y z : Value) : Below w.heap.size w (((w1.setCell ⟨b, 0, none⟩ x).setCell ⟨b, 1, none⟩ y).setCell ⟨b, 2, none⟩ z) :=
  ((h.setCell hb _).setCell hb _).setCell hb _
def alikeM (r c r2 c2 : Int) : Bool := decide (r = r2) && decide (c = c2)
set_option maxHeartbeats 1000000 in
theorem mright_any (r c : Int) (ao : Option Addr) (n cap : Nat) (w : World) :
    Calls Tryz.prog 41 #[mxV r c ao n cap] w fun e w' => e = .returned (.bool (rightM r c n)) ∧ Below w.heap.size w w' := by
  have hb : ∀ o k, Below w.heap.size w ((w.alloc o).drewN k) := fun o k => below_drewN (old_one (Below.refl _ _)) _
  have co := morder_any
  cases q1 : okN r
  · have HE : Hid (rightM r c n = false) := (show rightM r c n = false by unfold rightM; rw [q1]; rfl)
    have c1 := fun w => co r w
    rw [q1] at c1
    clear q1 co
    go_enter Tryz.func41, Tryz.ntmps41
    go_wp2
    go_quiet ((go_at_call 73; exact Calls.quiet_of_same (c1 _)))
    go_wp2
    go_ret
    exact ⟨end_bool HE.out.symm, hb _ _⟩
  · cases q2 : okN c
    · have HE : Hid (rightM r c n = false) := (show rightM r c n = false by unfold rightM; rw [q1, q2]; rfl)
      have c1 := fun w => co r w
      have c2 := fun w => co c w
      rw [q1] at c1
      rw [q2] at c2
      clear q1 q2 co
      go_enter Tryz.func41, Tryz.ntmps41
      go_wp2
      go_quiet (first | (go_at_call_of 73 (Value.int IntKind.i64 r); exact Calls.quiet_of_same (c1 _)) | (go_at_call_of 73 (Value.int IntKind.i64 c); exact Calls.quiet_of_same (c2 _)))
      go_wp2
      go_ret
      exact ⟨end_bool HE.out.symm, hb _ _⟩
    · have c1 := fun w => co r w
      have c2 := fun w => co c w
      rw [q1] at c1
      rw [q2] at c2
      obtain ⟨R, rfl, hR⟩ := okN_nat q1
      obtain ⟨C, rfl, hC⟩ := okN_nat q2
      obtain ⟨p, hp⟩ : ∃ p, R * C = p := ⟨_, rfl⟩
      have cc := fun w => mcount_any R C p hR hC hp w
      have e1 : rightM R C n = decide (n = p) := by
        unfold rightM
        rw [q1, q2, mulI, hp]
        by_cases h : n = p
        · subst h; simp
        · rw [decide_eq_false h, decide_eq_false (by omega)]; rfl
      rw [e1]
      clear e1 q1 q2 co hp hR hC
      by_cases h : n = p
      · rw [decide_eq_true h]
        have b1 : ((n : Int) == (p : Int)) = true := by simp [h]
        clear h
        go_enter Tryz.func41, Tryz.ntmps41
        go_wp2
        go_quiet (first | (go_at_call 74; exact Calls.quiet_of_same (cc _)) | (go_at_call_of 73 (Value.int IntKind.i64 (R : Int)); exact Calls.quiet_of_same (c1 _)) | (go_at_call_of 73 (Value.int IntKind.i64 (C : Int)); exact Calls.quiet_of_same (c2 _)))
        go_wp2
        go_ret
        exact ⟨rfl, hb _ _⟩
      · rw [decide_eq_false h]
        have b1 : ((n : Int) == (p : Int)) = false := by simp; omega
        clear h
        go_enter Tryz.func41, Tryz.ntmps41
        go_wp2
        go_quiet (first | (go_at_call 74; exact Calls.quiet_of_same (cc _)) | (go_at_call_of 73 (Value.int IntKind.i64 (R : Int)); exact Calls.quiet_of_same (c1 _)) | (go_at_call_of 73 (Value.int IntKind.i64 (C : Int)); exact Calls.quiet_of_same (c2 _)))
        go_wp2
        go_ret
        exact ⟨rfl, hb _ _⟩
/-- Are both the same, right or not? -/
def sameM (r c : Int) (xs : List Nat) (r2 c2 : Int) (ys : List Nat) : Bool := alikeM r c r2 c2 && sameL xs ys
end Go.Proofs.YtmbcmhncicbbjaaGreatDoor

namespace Go.Proofs.YtmbcmhncicbbjaaGreatDoor
open Go.RowKit

/-- A float is stored. -/
theorem vstoref (P : Program) (a : Addr) (k : FloatKind) (b : Nat) (m : Mode) (w : World) : (store a (.float k b) m).run P w = stored P w a (.float k b) m := run_store P w a _ m rfl
theorem opS : FourOp .sub := Or.inr (Or.inl rfl)
theorem opMu : FourOp .mul := Or.inr (Or.inr (Or.inl rfl))
/-- At each place. -/
def adO (xs ys : List Nat) (k : Nat) : Option Nat := opO .add (toO (xs.getD k 0)) (toO (ys.getD k 0))
def sbO (xs ys : List Nat) (k : Nat) : Option Nat := opO .sub (toO (xs.getD k 0)) (toO (ys.getD k 0))
def scO (t : Nat) (xs : List Nat) (k : Nat) : Option Nat := opO .mul (toO t) (toO (xs.getD k 0))
def axO (t : Nat) (xs ys : List Nat) (k : Nat) : Option Nat := opO .add (opO .mul (toO t) (toO (xs.getD k 0))) (toO (ys.getD k 0))
set_option maxHeartbeats 400000 in
theorem add1_any (n : Nat) (b off cap b2 off2 cap2 A B k x y : Nat) (w : World) (hx : x < 18446744073709551616) (hy : y < 18446744073709551616) (hc : w.cell? ⟨b, off + k, none⟩ = some (.float .f64 x)) (hd : w.cell? ⟨b2, off2 + k, none⟩ = some (.float .f64 y)) (hk : k < n) (hA : w.cell? ⟨A, 0, none⟩ = some (.slice (some ⟨b, off, none⟩) n cap)) (hB : w.cell? ⟨B, 0, none⟩ = some (.slice (some ⟨b2, off2, none⟩) n cap2)) :
    Calls Tryz.prog 99 #[.int .i64 k, .pointer (some ⟨A, 0, none⟩), .pointer (some ⟨B, 0, none⟩)] w fun e w' => ∃ r, e = .returned (.float .f64 r) ∧ NR (opO .add (toO x) (toO y)) r ∧ Below w.heap.size w w' := by
  have HN : Hid (∀ W, NR (opO .add (toO x) (toO y)) (opR .add x y W)) := fun W => opO_NR (Or.inl rfl) (toO_NR hx) (toO_NR hy) W
  have HB := (Below.refl w.heap.size w).drew
  have h1 := fun x y w => run_op4 (P := Tryz.prog) (op := .add) (Or.inl rfl) 48 x y w
  have hcv := conv64
  have i1 : (k : Int) < (n : Int) := by omega
  go_enter Tryz.func99, Tryz.ntmps99
  go_wp2
  go_region_with (fail)
  all_goals
    go_wp2
    go_ret
    exact ⟨_, rfl, HN.out _, opW_below .add x y HB⟩
theorem add1_all (xs ys : List Nat) (ao bo : Option Addr) (cap cap2 A B : Nat) (w : World) (hr : GRow w ao xs) (hs : GRow w bo ys) (hF : FW xs) (hG : FW ys) (hl : ys.length = xs.length) (hA : w.cell? ⟨A, 0, none⟩ = some (.slice ao xs.length cap)) (hB : w.cell? ⟨B, 0, none⟩ = some (.slice bo ys.length cap2)) (i : Nat) (wr : World) (hi : i < xs.length) (hb : Below w.heap.size w wr) :
    Calls Tryz.prog 99 #[.int .i64 i, .pointer (some ⟨A, 0, none⟩), .pointer (some ⟨B, 0, none⟩)] wr fun e w' => ∃ r, e = .returned (.float .f64 r) ∧ NR (adO xs ys i) r ∧ Below wr.heap.size wr w' := by
  have hAw : wr.cell? ⟨A, 0, none⟩ = some (.slice ao xs.length cap) := by rw [hb.cell (World.block_lt_of_cell? w _ hA)]; exact hA
  have hBw : wr.cell? ⟨B, 0, none⟩ = some (.slice bo xs.length cap2) := by rw [hb.cell (World.block_lt_of_cell? w _ hB), ← hl]; exact hB
  rcases hr.below hb with h | ⟨b, off, rfl, hc⟩
  · omega
  rcases hs.below hb with h | ⟨b2, off2, rfl, hd⟩
  · omega
  exact add1_any xs.length b off cap b2 off2 cap2 A B i _ _ wr (hF.at hi) (hG.at (by omega)) (hc i hi) (hd i (by omega)) hi hAw hBw
set_option maxHeartbeats 400000 in
theorem scale1_any (n : Nat) (t b off cap T A k x : Nat) (w : World) (ht : t < 18446744073709551616) (hx : x < 18446744073709551616) (hc : w.cell? ⟨b, off + k, none⟩ = some (.float .f64 x)) (hk : k < n) (hT : w.cell? ⟨T, 0, none⟩ = some (.float .f64 t)) (hA : w.cell? ⟨A, 0, none⟩ = some (.slice (some ⟨b, off, none⟩) n cap)) :
    Calls Tryz.prog 84 #[.int .i64 k, .pointer (some ⟨T, 0, none⟩), .pointer (some ⟨A, 0, none⟩)] w fun e w' => ∃ r, e = .returned (.float .f64 r) ∧ NR (opO .mul (toO t) (toO x)) r ∧ Below w.heap.size w w' := by
  have HN : Hid (∀ W, NR (opO .mul (toO t) (toO x)) (opR .mul t x W)) := fun W => opO_NR opMu (toO_NR ht) (toO_NR hx) W
  have HB := (Below.refl w.heap.size w).drew
  have h1 := fun x y w => run_op4 (P := Tryz.prog) (op := .mul) opMu 48 x y w
  have hcv := conv64
  have i1 : (k : Int) < (n : Int) := by omega
  go_enter Tryz.func84, Tryz.ntmps84
  go_wp2
  go_region_with (fail)
  all_goals
    go_wp2
    go_ret
    exact ⟨_, rfl, HN.out _, opW_below .mul t x HB⟩
theorem scale1_all (t : Nat) (xs : List Nat) (ao : Option Addr) (cap T A : Nat) (w : World) (ht : t < 18446744073709551616) (hr : GRow w ao xs) (hF : FW xs) (hT : w.cell? ⟨T, 0, none⟩ = some (.float .f64 t)) (hA : w.cell? ⟨A, 0, none⟩ = some (.slice ao xs.length cap)) (i : Nat) (wr : World) (hi : i < xs.length) (hb : Below w.heap.size w wr) :
    Calls Tryz.prog 84 #[.int .i64 i, .pointer (some ⟨T, 0, none⟩), .pointer (some ⟨A, 0, none⟩)] wr fun e w' => ∃ r, e = .returned (.float .f64 r) ∧ NR (scO t xs i) r ∧ Below wr.heap.size wr w' := by
  have hTw : wr.cell? ⟨T, 0, none⟩ = some (.float .f64 t) := by rw [hb.cell (World.block_lt_of_cell? w _ hT)]; exact hT
  have hAw : wr.cell? ⟨A, 0, none⟩ = some (.slice ao xs.length cap) := by rw [hb.cell (World.block_lt_of_cell? w _ hA)]; exact hA
  rcases hr.below hb with h | ⟨b, off, rfl, hc⟩
  · omega
  exact scale1_any xs.length t b off cap T A i _ wr ht (hF.at hi) (hc i hi) hi hTw hAw
set_option maxHeartbeats 1000000 in
theorem filled_add (o : Nat → Option Nat) (n A B : Nat) (w : World) (hn : n ≤ 17592186044416) (hcl : ∀ (i : Nat) (wr : World), i < n → Below w.heap.size w wr → Calls Tryz.prog 99 #[.int .i64 i, .pointer (some ⟨A, 0, none⟩), .pointer (some ⟨B, 0, none⟩)] wr fun e w' => ∃ r, e = .returned (.float .f64 r) ∧ NR (o i) r ∧ Below wr.heap.size wr w') :
    Calls Tryz.prog 83 #[.int .i64 n, .func (.func 99) #[] #[.pointer (some ⟨A, 0, none⟩), .pointer (some ⟨B, 0, none⟩)]] w fun e w' => ∃ v, e = .returned v ∧ GaveF w (tab n o) v w' := by
  have hmk := run_make_row' (P := Tryz.prog) 22 48 (.float .f64 0) 8 Tryz.underlying22 Tryz.infoF rfl .i64 .i64 n (by omega) (by omega)
  have hmade := RRow.made w n
  have hbm : Below w.heap.size w (w.alloc (.cells (madeCells #[.float .f64 0] n) 48)) := (Below.refl _ _).alloc (Nat.le_refl _) _
  have hsz : w.heap.size < (w.alloc (.cells (madeCells #[.float .f64 0] n) 48)).heap.size := by simp
  go_enter Tryz.func83, Tryz.ntmps83
  go_wp2
  clear hmk
  go_loopg [6, 10] n (fun g _ i wr => ∃ (k : Nat) (f : Nat → Nat), k ≤ n ∧ g = n - k ∧ i = .int .i64 k ∧ Hid (∀ j, j < k → NR (o j) (f j)) ∧ Hid (RRow wr w.heap.size n (fun j => if j < k then f j else 0)) ∧ Hid (w.heap.size < wr.heap.size) ∧ Hid (Below w.heap.size w wr))
  case atStart => exact ⟨0, fun _ => 0, Nat.zero_le _, rfl, rfl, fun j hj => by omega, hmade.congr (fun j hj => by simp), hsz, hbm⟩
  case round =>
    obtain ⟨k, f, hk, hg, rfl, hN, hrow, hsz', hB⟩ := hrel
    have HG : Hid (gk = n - k) := hg
    clear hg hmade hbm hsz
    by_cases hlt : k < n
    · have cc := hcl k wr hlt hB.out
      have hst := vstoref Tryz.prog
      have i1 : (k : Int) < (n : Int) := by omega
      go_wp2_with (go_at_call 99; refine cc.mono ?_; rintro e w1 ⟨r, rfl, hr, b1⟩; have row1 := hrow.out.below b1 hsz'.out; have g2 := World.rowIs.cell row1 hlt; have g3 := World.rowIs.frozen row1 k)
      have hs := row1.set k r
      have hB1 : Below w.heap.size w (w1.setCell ⟨w.heap.size, k, none⟩ (.float .f64 r)) := (hB.out.trans (b1.mono hB.out.size)).setCell (Nat.le_refl _) _
      have hz : w.heap.size < (w1.setCell ⟨w.heap.size, k, none⟩ (.float .f64 r)).heap.size := by have := b1.size; have := hsz'.out; simp; omega
      go_roundg (n - (k + 1))
      case measure => rw [HG.out]; omega
      case rel =>
        refine ⟨k + 1, fun j => if j = k then r else f j, by omega, rfl, by go_num, fun j hj => ?_, hs.congr (fun j hj => ?_), hz, hB1⟩
        · by_cases e : j = k
          · subst e; simpa using hr
          · simp only [e, if_false]; exact hN.out j (by omega)
        · by_cases e : j = k
          · subst e; simp
          · simp only [e, if_false]
            by_cases e2 : j < k
            · rw [if_pos e2, if_pos (by omega)]
            · rw [if_neg e2, if_neg (by omega)]
    · have ek : k = n := by omega
      subst ek
      have i1 : ¬ (k : Int) < (k : Int) := by omega
      have hrow2 : RRow wr w.heap.size k f := hrow.out.congr (fun j hj => by rw [if_pos hj])
      have hG := GaveF.row hrow2 hN.out hB.out
      clear hrow2 hrow hN
      go_wp2
      go_ret
      exact ⟨_, rfl, hG⟩
set_option maxHeartbeats 1000000 in
theorem tog_add (o : Nat → Option Nat) (n m cap cap2 A B : Nat) (ao bo : Option Addr) (w : World) (hn : n ≤ 17592186044416) (hm : m ≤ 17592186044416) (hcl : fitN n m = 0 → ∀ (i : Nat) (wr : World), i < n → Below w.heap.size w wr → Calls Tryz.prog 99 #[.int .i64 i, .pointer (some ⟨A, 0, none⟩), .pointer (some ⟨B, 0, none⟩)] wr fun e w' => ∃ r, e = .returned (.float .f64 r) ∧ NR (o i) r ∧ Below wr.heap.size wr w') :
    Calls Tryz.prog 98 #[.slice ao n cap, .slice bo m cap2, .func (.func 99) #[] #[.pointer (some ⟨A, 0, none⟩), .pointer (some ⟨B, 0, none⟩)]] w fun e w' => ∃ v, e = .returned (.tuple #[v, .int .i64 (fitN n m)]) ∧ GaveF w (ifFit n m (tab n o)) v w' := by
  have cf := fun w => fit_any n m cap cap2 ao bo (by omega) (by omega) w
  unfold ifFit
  by_cases hq : fitN n m = 0
  · rw [if_pos hq]
    have cg := filled_add o n A B w hn (hcl hq)
    rw [hq] at cf ⊢
    clear hcl hq
    go_enter Tryz.func98, Tryz.ntmps98
    go_wp2_with (first
      | (go_at_call 126; refine (cf _).mono ?_; rintro e w' ⟨rfl, rfl⟩)
      | (go_at_call 83; refine cg.mono ?_; rintro e w1 ⟨v, rfl, hv⟩))
    exact bodyPost_ret (v := .tuple #[v, .int .i64 0]) (by simp [results, Tryz.results98, go_sem]) rfl ⟨v, rfl, hv⟩
  · rw [if_neg hq]
    have hG := GaveF.nil (Below.refl w.heap.size w)
    clear hcl
    generalize fitN n m = q at *
    go_enter Tryz.func98, Tryz.ntmps98
    go_wp2_with (go_at_call 126; refine (cf _).mono ?_; rintro e w' ⟨rfl, rfl⟩)
    exact bodyPost_ret (v := .tuple #[.slice none 0 0, .int .i64 q]) (by simp [results, Tryz.results98, go_sem]) rfl ⟨_, rfl, hG⟩
set_option maxHeartbeats 1000000 in
theorem filled_scale (o : Nat → Option Nat) (n T A : Nat) (w : World) (hn : n ≤ 17592186044416) (hcl : ∀ (i : Nat) (wr : World), i < n → Below w.heap.size w wr → Calls Tryz.prog 84 #[.int .i64 i, .pointer (some ⟨T, 0, none⟩), .pointer (some ⟨A, 0, none⟩)] wr fun e w' => ∃ r, e = .returned (.float .f64 r) ∧ NR (o i) r ∧ Below wr.heap.size wr w') :
    Calls Tryz.prog 83 #[.int .i64 n, .func (.func 84) #[] #[.pointer (some ⟨T, 0, none⟩), .pointer (some ⟨A, 0, none⟩)]] w fun e w' => ∃ v, e = .returned v ∧ GaveF w (tab n o) v w' := by
  have hmk := run_make_row' (P := Tryz.prog) 22 48 (.float .f64 0) 8 Tryz.underlying22 Tryz.infoF rfl .i64 .i64 n (by omega) (by omega)
  have hmade := RRow.made w n
  have hbm : Below w.heap.size w (w.alloc (.cells (madeCells #[.float .f64 0] n) 48)) := (Below.refl _ _).alloc (Nat.le_refl _) _
  have hsz : w.heap.size < (w.alloc (.cells (madeCells #[.float .f64 0] n) 48)).heap.size := by simp
  go_enter Tryz.func83, Tryz.ntmps83
  go_wp2
  clear hmk
  go_loopg [6, 10] n (fun g _ i wr => ∃ (k : Nat) (f : Nat → Nat), k ≤ n ∧ g = n - k ∧ i = .int .i64 k ∧ Hid (∀ j, j < k → NR (o j) (f j)) ∧ Hid (RRow wr w.heap.size n (fun j => if j < k then f j else 0)) ∧ Hid (w.heap.size < wr.heap.size) ∧ Hid (Below w.heap.size w wr))
  case atStart => exact ⟨0, fun _ => 0, Nat.zero_le _, rfl, rfl, fun j hj => by omega, hmade.congr (fun j hj => by simp), hsz, hbm⟩
  case round =>
    obtain ⟨k, f, hk, hg, rfl, hN, hrow, hsz', hB⟩ := hrel
    have HG : Hid (gk = n - k) := hg
    clear hg hmade hbm hsz
    by_cases hlt : k < n
    · have cc := hcl k wr hlt hB.out
      have hst := vstoref Tryz.prog
      have i1 : (k : Int) < (n : Int) := by omega
      go_wp2_with (go_at_call 84; refine cc.mono ?_; rintro e w1 ⟨r, rfl, hr, b1⟩; have row1 := hrow.out.below b1 hsz'.out; have g2 := World.rowIs.cell row1 hlt; have g3 := World.rowIs.frozen row1 k)
      have hs := row1.set k r
      have hB1 : Below w.heap.size w (w1.setCell ⟨w.heap.size, k, none⟩ (.float .f64 r)) := (hB.out.trans (b1.mono hB.out.size)).setCell (Nat.le_refl _) _
      have hz : w.heap.size < (w1.setCell ⟨w.heap.size, k, none⟩ (.float .f64 r)).heap.size := by have := b1.size; have := hsz'.out; simp; omega
      go_roundg (n - (k + 1))
      case measure => rw [HG.out]; omega
      case rel =>
        refine ⟨k + 1, fun j => if j = k then r else f j, by omega, rfl, by go_num, fun j hj => ?_, hs.congr (fun j hj => ?_), hz, hB1⟩
        · by_cases e : j = k
          · subst e; simpa using hr
          · simp only [e, if_false]; exact hN.out j (by omega)
        · by_cases e : j = k
          · subst e; simp
          · simp only [e, if_false]
            by_cases e2 : j < k
            · rw [if_pos e2, if_pos (by omega)]
            · rw [if_neg e2, if_neg (by omega)]
    · have ek : k = n := by omega
      subst ek
      have i1 : ¬ (k : Int) < (k : Int) := by omega
      have hrow2 : RRow wr w.heap.size k f := hrow.out.congr (fun j hj => by rw [if_pos hj])
      have hG := GaveF.row hrow2 hN.out hB.out
      clear hrow2 hrow hN
      go_wp2
      go_ret
      exact ⟨_, rfl, hG⟩
end Go.Proofs.YtmbcmhncicbbjaaGreatDoor

namespace Go.Proofs.YtmbcmhncicbbjaaGreatDoor
open Go.RowKit

theorem at_lt {R C i j : Nat} (hi : i < R) (hj : j < C) : i * C + j < R * C := by
  have h : (i + 1) * C ≤ R * C := Nat.mul_le_mul hi (Nat.le_refl _)
  rw [Nat.succ_mul] at h
  omega
theorem at_div {C i j : Nat} (hj : j < C) : (i * C + j) / C = i ∧ (i * C + j) % C = j := by
  have hC : 0 < C := by omega
  constructor
  · rw [Nat.add_comm, Nat.add_mul_div_right _ _ hC, Nat.div_eq_of_lt hj, Nat.zero_add]
  · rw [Nat.add_comm, Nat.add_mul_mod_self_right, Nat.mod_eq_of_lt hj]
/-- The entry at (i, j), as a number. -/
def enO (C : Nat) (xs : List Nat) (i j : Nat) : Option Nat := toO (xs.getD (i * C + j) 0)
/-- The sum in order of the first k products of row i and column j. -/
def muO (C D : Nat) (xs ys : List Nat) (i j : Nat) : Nat → Option Nat
  | 0 => some 0
  | k + 1 => opO .add (muO C D xs ys i j k) (opO .mul (enO C xs i k) (enO D ys k j))
def idO (i j : Nat) : Option Nat := if i = j then some 4607182418800017408 else some 0
end Go.Proofs.YtmbcmhncicbbjaaGreatDoor
