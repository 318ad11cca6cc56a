/- What round's Add answers. -/
import Derived.Test.YtlhoidkfphellaaDoorY8
import Derived.Test.YtlhoidkfphellaaDoorZb
import Derived.Deep.RegionHeld3
namespace Go.Proofs.YtlhoidkfphellaaDoor
open Go.RowKit

theorem write_word {d : Ieee.Datum} (h : d.isNaN = false) : ∃ s q, q ≤ 9218868437227405312 ∧ Ieee.double.write d = Ieee.double.word s q := by
  cases d with
  | number s m p => obtain ⟨q, hq, e⟩ := nearest_bd s m p; exact ⟨s, q, hq, e⟩
  | infinity s => exact ⟨s, 9218868437227405312, Nat.le_refl _, rfl⟩
  | nan s t => cases h
theorem sum_nan {x y d : Ieee.Datum} (h : x.sum y = some d) : d.isNaN = false := by
  unfold Ieee.Datum.sum at h
  split at h
  · cases h
  · cases h
  · split at h
    · cases h; rfl
    · cases h
  · cases h; rfl
  · cases h; rfl
  · cases h; rfl
theorem sum_word {o : Option Ieee.Datum} {r : Nat} (hn : ∀ d, o = some d → d.isNaN = false) (h : o.map Ieee.double.write = some r) : r < 18446744073709551616 ∧ rung r ≤ 9218868437227405312 := by
  cases o with
  | none => cases h
  | some d =>
    obtain ⟨s, q, hq, e⟩ := write_word (hn d rfl)
    simp only [Option.map_some, Option.some.injEq] at h
    rw [← h, e]
    exact ⟨word_lt64 s (by omega), by rw [(word_rung s (by omega)).1]; exact hq⟩
theorem add_word {a b r : Nat} (h : floatBits .add .f64 a b = some r) : r < 18446744073709551616 ∧ rung r ≤ 9218868437227405312 :=
  sum_word (fun _ h => sum_nan h) (show ((Ieee.double.read a).sum (Ieee.double.read b)).map Ieee.double.write = some r from h)

/-- What an operation of floats answers, and the world behind it: drawn on where there is no answer. -/
def opR (op : BinOp) (a b : Nat) (w : World) : Nat := match floatBits op .f64 a b with | some r => r | none => nanW a b w
def opW (op : BinOp) (a b : Nat) (w : World) : World := match floatBits op .f64 a b with | some _ => w | none => w.drew
theorem run_op {P : Program} (op : BinOp) (hop : op = .sub ∨ op = .add) (t : TypeId) (x y : Nat) (w : World) : (binOp op t (.float .f64 x) (.float .f64 y)).run P w = .ok (.float .f64 (opR op x y w)) (opW op x y w) := by
  unfold opR opW
  cases h : floatBits op .f64 x y with
  | none => exact run_nan op hop t x y h w
  | some r => exact run_float_arith w op t .f64 x y r h
theorem opW_below (op : BinOp) (a b : Nat) {w0 w : World} (h : Below w0.heap.size w0 w) : Below w0.heap.size w0 (opW op a b w) := by
  unfold opW
  split
  · exact h
  · exact h.drew
theorem add_NR {a b : Nat} (w : World) : NR (floatBits .add .f64 a b) (opR .add a b w) := by
  unfold opR NR
  cases h : floatBits .add .f64 a b with
  | none => exact ⟨(nanW_nan a b w).2, (nanW_nan a b w).1⟩
  | some r => exact ⟨(add_word h).1, rfl⟩
theorem end_ff {a b c d : Nat} (h : a = b) (g : c = d) : Ending.returned (.tuple #[.float .f64 a, .float .f64 c]) = .returned (.tuple #[.float .f64 b, .float .f64 d]) := by subst h; subst g; rfl

set_option maxHeartbeats 400000 in
theorem sum_fin (a b n t r : Nat) (c : Bool) (ha : a < 18446744073709551616) (hb : b < 18446744073709551616) (hc : (FloatKind.f64.format.order (rung a) (rung b) == some .lt) = c)
    (hn : floatBits .add .f64 a b = some n) (ht : floatBits .sub .f64 n (if c then b else a) = some t) (hr : floatBits .sub .f64 (if c then a else b) t = some r) (w : World) :
    Calls Tryd.prog 45 #[.float .f64 a, .float .f64 b] w fun e w' => e = .returned (.tuple #[.float .f64 n, .float .f64 r]) ∧ w' = w := by
  have h1 := fun w => run_float_arith (P := Tryd.prog) w .add 38 .f64 _ _ _ hn
  have h2 := fun w => run_float_arith (P := Tryd.prog) w .sub 38 .f64 _ _ _ ht
  have h3 := fun w => run_float_arith (P := Tryd.prog) w .sub 38 .f64 _ _ _ hr
  have hcv := conv64 n
  clear hn ht hr
  cases c
  · simp only [Bool.false_eq_true, if_false] at h2 h3
    go_enter Tryd.func45, Tryd.ntmps45
    go_wp2_with (go_at_call 74; refine (abs_any _ (by assumption) _).mono ?_; rintro e w' ⟨rfl, rfl⟩)
    go_ret2
    exact ⟨rfl, rfl⟩
  · simp only [if_true] at h2 h3
    go_enter Tryd.func45, Tryd.ntmps45
    go_wp2_with (go_at_call 74; refine (abs_any _ (by assumption) _).mono ?_; rintro e w' ⟨rfl, rfl⟩)
    go_ret2
    exact ⟨rfl, rfl⟩
set_option maxHeartbeats 400000 in
theorem sum_all (a b : Nat) (ha : a < 18446744073709551616) (hb : b < 18446744073709551616) (w : World) :
    Calls Tryd.prog 45 #[.float .f64 a, .float .f64 b] w fun e w' => (∃ n r, e = .returned (.tuple #[.float .f64 n, .float .f64 r]) ∧ NR (floatBits .add .f64 a b) n) ∧ Below w.heap.size w w' := by
  have h1 := fun w => run_op (P := Tryd.prog) .add (Or.inr rfl) 38 a b w
  have h2 := fun x y w => run_op (P := Tryd.prog) .sub (Or.inl rfl) 38 x y w
  have hcv := conv64
  have hB := opW_below .add a b (Below.refl w.heap.size w)
  have hN := add_NR (a := a) (b := b) w
  cases hc : (FloatKind.f64.format.order (rung a) (rung b) == some .lt)
  · go_enter Tryd.func45, Tryd.ntmps45
    go_wp2_with (go_at_call 74; refine (abs_any _ (by assumption) _).mono ?_; rintro e w' ⟨rfl, rfl⟩)
    go_ret2
    exact ⟨⟨_, _, rfl, hN⟩, opW_below _ _ _ (opW_below _ _ _ hB)⟩
  · go_enter Tryd.func45, Tryd.ntmps45
    go_wp2_with (go_at_call 74; refine (abs_any _ (by assumption) _).mono ?_; rintro e w' ⟨rfl, rfl⟩)
    go_ret2
    exact ⟨⟨_, _, rfl, hN⟩, opW_below _ _ _ (opW_below _ _ _ hB)⟩
theorem cpy_nought : cpy 0 13830554455654793216 = 9223372036854775808 := by kernel_rfl
set_option maxHeartbeats 400000 in
theorem rnought_any (a b : Nat) (m : Int) (ha : a < 18446744073709551616) (hb : b < 18446744073709551616) (w : World) :
    Calls Tryd.prog 47 #[.float .f64 a, .float .f64 b, .int .i8 m] w fun e w' => e = .returned (.float .f64 (noughtF a b m)) ∧ w' = w := by
  have HE : Hid (noughtF a b m = if sgn a == sgn b then a else if m == 1 then 9223372036854775808 else 0) := rfl
  cases e1 : (sgn a == sgn b) <;> cases e2 : (m == 1) <;>
    (go_enter Tryd.func47, Tryd.ntmps47
     go_wp2_with (first
        | (go_at_call 75; refine (signbit_any _ (by assumption) _).mono ?_; rintro e w' ⟨rfl, rfl⟩)
        | (go_at_call 76; refine (copysign_any _ _ (by omega) (by omega) _).mono ?_; rintro e w' ⟨rfl, rfl⟩))
     go_ret
     exact ⟨end_flt (by rw [HE.out, e1, e2]; first | rfl | exact cpy_nought), rfl⟩)
/-- What is told of a finite sum. -/
def addM (a b n r : Nat) (m : Int) : Nat := if rung n == 0 then noughtF a b m else stepF n (signF r) m
end Go.Proofs.YtlhoidkfphellaaDoor

namespace Go.Proofs.YtlhoidkfphellaaDoor
open Go.RowKit

set_option maxHeartbeats 1000000 in
theorem radd_fin (a b n t r : Nat) (c : Bool) (m : Int) (ha : a < 18446744073709551616) (hb : b < 18446744073709551616) (fa : finB a = true) (fb : finB b = true) (hc : (FloatKind.f64.format.order (rung a) (rung b) == some .lt) = c)
    (hn : floatBits .add .f64 a b = some n) (ht : floatBits .sub .f64 n (if c then b else a) = some t) (hr : floatBits .sub .f64 (if c then a else b) t = some r) (hnl : n < 18446744073709551616) (hrl : r < 18446744073709551616) (w : World) :
    Calls Tryd.prog 28 #[.float .f64 a, .float .f64 b, .int .i8 m] w fun e w' => e = .returned (.float .f64 (addM a b n r m)) ∧ w' = w := by
  have cs := sum_fin a b n t r c ha hb hc hn ht hr
  have HE : Hid (addM a b n r m = if rung n == 0 then noughtF a b m else stepF n (signF r) m) := rfl
  have hz := zero_eq hnl
  clear hn ht hr hc
  cases e1 : (rung n == 0) <;> rw [e1] at hz <;>
    (go_enter Tryd.func28, Tryd.ntmps28
     go_wp2_with (first
        | (go_at_call 45; refine (cs _).mono ?_; rintro e w' ⟨rfl, rfl⟩)
        | (go_at_call_of 46 (Value.float FloatKind.f64 a); refine (rofin_any _ ha _).mono ?_; rw [fa]; rintro e w' ⟨rfl, rfl⟩)
        | (go_at_call_of 46 (Value.float FloatKind.f64 b); refine (rofin_any _ hb _).mono ?_; rw [fb]; rintro e w' ⟨rfl, rfl⟩)
        | (go_at_call 47; refine (rnought_any _ _ _ ha hb _).mono ?_; rintro e w' ⟨rfl, rfl⟩)
        | (go_at_call 49; refine (rsign_any _ hrl _).mono ?_; rintro e w' ⟨rfl, rfl⟩)
        | (go_at_call 48; refine (step_any _ _ _ hnl _).mono ?_; rintro e w' ⟨rfl, rfl⟩))
     go_ret
     exact ⟨end_flt (by rw [HE.out, e1]; rfl), rfl⟩)
set_option maxHeartbeats 1000000 in
theorem radd_inf (a b : Nat) (m : Int) (ha : a < 18446744073709551616) (hb : b < 18446744073709551616) (hf : finB a = false ∨ finB b = false) (w : World) :
    Calls Tryd.prog 28 #[.float .f64 a, .float .f64 b, .int .i8 m] w fun e w' => (∃ r, e = .returned (.float .f64 r) ∧ NR (floatBits .add .f64 a b) r) ∧ Below w.heap.size w w' := by
  have ca := rofin_any a ha
  have cb := rofin_any b hb
  cases fa : finB a <;> rw [fa] at ca
  · go_enter Tryd.func28, Tryd.ntmps28
    go_wp2_with (first
        | (go_at_call 45; refine (sum_all a b ha hb _).mono ?_; rintro e w1 ⟨⟨n, r, rfl, hN⟩, hB⟩)
        | (go_at_call 46; refine (ca _).mono ?_; rintro e w' ⟨rfl, rfl⟩))
    go_ret
    exact ⟨⟨_, rfl, hN⟩, hB⟩
  · have fb : finB b = false := by rcases hf with h | h; · rw [fa] at h; cases h
                                   · exact h
    rw [fb] at cb
    go_enter Tryd.func28, Tryd.ntmps28
    go_wp2_with (first
        | (go_at_call 45; refine (sum_all a b ha hb _).mono ?_; rintro e w1 ⟨⟨n, r, rfl, hN⟩, hB⟩)
        | (go_at_call_of 46 (Value.float FloatKind.f64 a); refine (ca _).mono ?_; rintro e w' ⟨rfl, rfl⟩)
        | (go_at_call_of 46 (Value.float FloatKind.f64 b); refine (cb _).mono ?_; rintro e w' ⟨rfl, rfl⟩))
    go_ret
    exact ⟨⟨_, rfl, hN⟩, hB⟩
theorem run_negf (b : Nat) : Op.unary .neg (.float .f64 b) = pure (.float .f64 (negW b)) := rfl
end Go.Proofs.YtlhoidkfphellaaDoor
