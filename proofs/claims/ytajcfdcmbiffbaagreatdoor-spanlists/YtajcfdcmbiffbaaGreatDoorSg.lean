/- What the document's sum tells, and that it is what round's tells. -/
import Derived.Test.YtajcfdcmbiffbaaGreatDoorSf
namespace Go.Proofs.YtajcfdcmbiffbaaGreatDoor
open Go.RowKit

/-- The document's answer for a finite sum. -/
def refM (a b n r : Nat) (m : Int) : Nat := if finB n then (if rung n == 0 then noughtR (rung a == 0) (sgn a) b m else sideR n (signF r) m) else greatR n m
set_option maxHeartbeats 2000000 in
theorem dadd_fin (a b n t r : Nat) (c : Bool) (m : Int) (ha : a < 18446744073709551616) (hb : b < 18446744073709551616) (fa : finB a = true) (fb : finB b = true) (hc : (FloatKind.f64.format.order (rung a) (rung b) == some .lt) = c)
    (hn : floatBits .add .f64 a b = some n) (ht : floatBits .sub .f64 n (if c then b else a) = some t) (hr : floatBits .sub .f64 (if c then a else b) t = some r) (hnl : n < 18446744073709551616) (hni : rung n ≤ 9218868437227405312) (hrl : r < 18446744073709551616) (w : World) :
    Calls Tryz.prog 41 #[.float .f64 a, .float .f64 b, .int .i8 m] w fun e w' => e = .returned (.float .f64 (refM a b n r m)) ∧ Below w.heap.size w w' := by
  have HE : Hid (refM a b n r m = if finB n then (if rung n == 0 then noughtR (rung a == 0) (sgn a) b m else sideR n (signF r) m) else greatR n m) := rfl
  have hz := zero_eq hnl
  have hza := zero_eq ha
  have hnn : nanB n = false := by unfold nanB; simp; omega
  have h1 := fun w => run_float_arith (P := Tryz.prog) w .add 25 .f64 _ _ _ hn
  have h2 := fun w => run_float_arith (P := Tryz.prog) w .sub 25 .f64 _ _ _ ht
  have h3 := fun w => run_float_arith (P := Tryz.prog) w .sub 25 .f64 _ _ _ hr
  have ca := dfin_yes a ha fa
  have cb := dfin_yes b hb fb
  clear hn ht hr
  cases fn : finB n
  · have h0 : rung n ≠ 0 := by unfold finB at fn; simp at fn; omega
    have cn := dfin_no n hnl fn
    go_enter Tryz.func41, Tryz.ntmps41
    go_wp2_with (first
        | (go_at_call_of 60 (Value.float FloatKind.f64 a); refine (ca _).mono ?_; rintro e w' ⟨rfl, rfl⟩)
        | (go_at_call_of 60 (Value.float FloatKind.f64 b); refine (cb _).mono ?_; rintro e w' ⟨rfl, rfl⟩)
        | (go_at_call_of 60 (Value.float FloatKind.f64 n); refine (cn _).mono ?_; rintro e w' ⟨rfl, rfl⟩)
        | (go_at_call 61; refine (great_any _ _ hnl hnn h0 _).mono ?_; rintro e w' ⟨rfl, rfl⟩))
    go_ret
    exact ⟨end_flt (by rw [HE.out, fn]; rfl), (Below.refl _ _).drew⟩
  · have cn := dfin_yes n hnl fn
    cases e1 : (rung n == 0) <;> rw [e1] at hz
    · have h0 : rung n ≠ 0 := by simpa using e1
      cases c
      · simp only [Bool.false_eq_true, if_false] at h2 h3
        go_enter Tryz.func41, Tryz.ntmps41
        go_wp2_with (first
          | (go_at_call_of 60 (Value.float FloatKind.f64 a); refine (ca _).mono ?_; rintro e w' ⟨rfl, rfl⟩)
          | (go_at_call_of 60 (Value.float FloatKind.f64 b); refine (cb _).mono ?_; rintro e w' ⟨rfl, rfl⟩)
          | (go_at_call_of 60 (Value.float FloatKind.f64 n); refine (cn _).mono ?_; rintro e w' ⟨rfl, rfl⟩)
          | (go_at_call 49; refine (abs_any _ (by assumption) _).mono ?_; rintro e w' ⟨rfl, rfl⟩)
          | (go_at_call 64; refine (dsign_any _ hrl _).mono ?_; rintro e w' ⟨rfl, rfl⟩)
          | (go_at_call 63; refine (side_any _ _ _ hnl hnn h0 _).mono ?_; rintro e w' ⟨rfl, rfl⟩))
        go_ret
        exact ⟨end_flt (by rw [HE.out, fn, e1]; rfl), Below.refl _ _⟩
      · simp only [if_true] at h2 h3
        go_enter Tryz.func41, Tryz.ntmps41
        go_wp2_with (first
          | (go_at_call_of 60 (Value.float FloatKind.f64 a); refine (ca _).mono ?_; rintro e w' ⟨rfl, rfl⟩)
          | (go_at_call_of 60 (Value.float FloatKind.f64 b); refine (cb _).mono ?_; rintro e w' ⟨rfl, rfl⟩)
          | (go_at_call_of 60 (Value.float FloatKind.f64 n); refine (cn _).mono ?_; rintro e w' ⟨rfl, rfl⟩)
          | (go_at_call 49; refine (abs_any _ (by assumption) _).mono ?_; rintro e w' ⟨rfl, rfl⟩)
          | (go_at_call 64; refine (dsign_any _ hrl _).mono ?_; rintro e w' ⟨rfl, rfl⟩)
          | (go_at_call 63; refine (side_any _ _ _ hnl hnn h0 _).mono ?_; rintro e w' ⟨rfl, rfl⟩))
        go_ret
        exact ⟨end_flt (by rw [HE.out, fn, e1]; rfl), Below.refl _ _⟩
    · go_enter Tryz.func41, Tryz.ntmps41
      go_wp2_with (first
        | (go_at_call_of 60 (Value.float FloatKind.f64 a); refine (ca _).mono ?_; rintro e w' ⟨rfl, rfl⟩)
        | (go_at_call_of 60 (Value.float FloatKind.f64 b); refine (cb _).mono ?_; rintro e w' ⟨rfl, rfl⟩)
        | (go_at_call_of 60 (Value.float FloatKind.f64 n); refine (cn _).mono ?_; rintro e w' ⟨rfl, rfl⟩)
        | (go_at_call 51; refine (signbit_any _ (by assumption) _).mono ?_; rintro e w' ⟨rfl, rfl⟩)
        | (go_at_call 62; refine (dnought_any _ _ _ _ hb _).mono ?_; rintro e w' ⟨rfl, rfl⟩))
      go_ret
      exact ⟨end_flt (by rw [HE.out, fn, e1]; rfl), Below.refl _ _⟩
set_option maxHeartbeats 1000000 in
theorem dadd_inf (a b : Nat) (m : Int) (ha : a < 18446744073709551616) (hb : b < 18446744073709551616) (hf : finB a = false ∨ finB b = false) (w : World) :
    Calls Tryz.prog 41 #[.float .f64 a, .float .f64 b, .int .i8 m] w fun e w' => (∃ r, e = .returned (.float .f64 r) ∧ NR (floatBits .add .f64 a b) r) ∧ Below w.heap.size w w' := by
  have h1 := fun w => run_op (P := Tryz.prog) .add (Or.inr rfl) 25 a b w
  have hB := opW_below .add a b (Below.refl w.heap.size w)
  have hN := add_NR (a := a) (b := b) w
  cases fa : finB a
  · have ca := dfin_no a ha fa
    go_enter Tryz.func41, Tryz.ntmps41
    go_wp2_with (go_at_call 60; refine (ca _).mono ?_; rintro e w' ⟨rfl, rfl⟩)
    go_ret
    exact ⟨⟨_, rfl, hN⟩, hB.drew⟩
  · have fb : finB b = false := by
      rcases hf with h | h
      · rw [fa] at h; cases h
      · exact h
    have ca := dfin_yes a ha fa
    have cb := dfin_no b hb fb
    go_enter Tryz.func41, Tryz.ntmps41
    go_wp2_with (first
        | (go_at_call_of 60 (Value.float FloatKind.f64 a); refine (ca _).mono ?_; rintro e w' ⟨rfl, rfl⟩)
        | (go_at_call_of 60 (Value.float FloatKind.f64 b); refine (cb _).mono ?_; rintro e w' ⟨rfl, rfl⟩))
    go_ret
    exact ⟨⟨_, rfl, hN⟩, hB.drew⟩
/-- Both tell the same. -/
theorem refM_addM {a b n t r : Nat} {c : Bool} (m : Int) (ha : a < 18446744073709551616) (hb : b < 18446744073709551616) (fa : finB a = true) (fb : finB b = true)
    (hnl : n < 18446744073709551616) (hni : rung n ≤ 9218868437227405312) (h00 : rung n = 0 → sgn a = sgn b → rung a = 0 ∧ rung b = 0)
    (ht : floatBits .sub .f64 n (if c then b else a) = some t) (hr : floatBits .sub .f64 (if c then a else b) t = some r) : refM a b n r m = addM a b n r m := by
  unfold refM addM
  cases fn : finB n
  · have hi : rung n = 9218868437227405312 := by unfold finB at fn; simp at fn; omega
    have e1 : (rung n == 0) = false := by rw [hi]; rfl
    have hx : (if c then b else a) < 18446744073709551616 ∧ finB (if c then b else a) = true ∧ (if c then a else b) < 18446744073709551616 ∧ finB (if c then a else b) = true := by cases c <;> exact ⟨by assumption, by assumption, by assumption, by assumption⟩
    obtain ⟨g1, g2, g3⟩ := rest_inf hnl hi hx.1 hx.2.1 hx.2.2.1 hx.2.2.2
    rw [g1] at ht
    obtain rfl : n = t := Option.some.inj ht
    rw [g2] at hr
    obtain rfl : negW n = r := Option.some.inj hr
    rw [e1, g3]
    simp only [Bool.false_eq_true, if_false]
    exact (step_great m hnl hi).symm
  · cases e1 : (rung n == 0)
    · simp only [Bool.false_eq_true, if_false, if_true]
      exact (step_side _ m hnl (fin_rung fn) (by simpa using e1)).symm
    · simp only [if_true]
      unfold noughtR noughtF
      cases hs : (sgn a == sgn b)
      · simp
      · have hs' : sgn a = sgn b := by simpa using hs
        obtain ⟨r1, r2⟩ := h00 (by simpa using e1) hs'
        rw [r1, r2]
        simp only [beq_self_eq_true, Bool.and_true, if_true]
        rcases word_two ha with ⟨w1, s1⟩ | ⟨w1, s1⟩ <;> rcases word_two hb with ⟨w2, s2⟩ | ⟨w2, s2⟩ <;> rw [s1, s2] at hs' <;> first | (cases hs'; done) | omega
end Go.Proofs.YtajcfdcmbiffbaaGreatDoor
