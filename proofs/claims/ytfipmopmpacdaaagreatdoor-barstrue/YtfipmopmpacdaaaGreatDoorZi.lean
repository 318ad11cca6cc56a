/- What math.FMA, math.Sqrt, and round's someSize, signOf (where floats tell it), Div and Sqrt there, and Add of finite floats, answer. -/
import Derived.Test.YtfipmopmpacdaaaGreatDoorY8
import Derived.Test.YtfipmopmpacdaaaGreatDoorZb
import Derived.Deep.RegionHeld3
namespace Go.Proofs.YtfipmopmpacdaaaGreatDoor
open Go.RowKit
theorem write_word {d : Ieee.Datum} (h : d.isNaN = false) : ∃ s q, q ≤ 9218868437227405312 ∧ Ieee.double.write d = Ieee.double.word s q := by
 cases d with
 | number s m p => obtain ⟨q, hq, e⟩ := nearest_bd s m p; exact ⟨s, q, hq, e⟩
 | infinity s => exact ⟨s, 9218868437227405312, Nat.le_refl _, rfl⟩
 | nan s t => cases h
theorem sum_nan {x y d : Ieee.Datum} (h : x.sum y = some d) : d.isNaN = false := by
 unfold Ieee.Datum.sum at h
 split at h
 ·cases h
 ·cases h
 ·split at h
  ·cases h; rfl
  ·cases h
 ·cases h; rfl
 ·cases h; rfl
 ·cases h; rfl
theorem sum_word {o : Option Ieee.Datum} {r : Nat} (hn : ∀ d, o = some d → d.isNaN = false) (h : o.map Ieee.double.write = some r) : r < 18446744073709551616 ∧ rung r ≤ 9218868437227405312 := by
 cases o with
 | none => cases h
 | some d =>
  obtain ⟨s, q, hq, e⟩ := write_word (hn d rfl)
  simp only [Option.map_some, Option.some.injEq] at h
  rw [← h, e]
  exact ⟨word_lt64 s (by omega), by rw [(word_rung s (by omega)).1]; exact hq⟩
theorem add_word {a b r : Nat} (h : floatBits .add .f64 a b = some r) : r < 18446744073709551616 ∧ rung r ≤ 9218868437227405312 :=
 sum_word (fun _ h => sum_nan h) (show ((Ieee.double.read a).sum (Ieee.double.read b)).map Ieee.double.write = some r from h)
def opR (op : BinOp) (a b : Nat) (w : World) : Nat := match floatBits op .f64 a b with | some r => r | none => nanW a b w
def opW (op : BinOp) (a b : Nat) (w : World) : World := match floatBits op .f64 a b with | some _ => w | none => w.drew
theorem opW_below (op : BinOp) (a b : Nat) {w0 w : World} (h : Below w0.heap.size w0 w) : Below w0.heap.size w0 (opW op a b w) := by
 unfold opW
 split
 ·exact h
 ·exact h.drew
def addM (a b n r : Nat) (m : Int) : Nat := if rung n == 0 then noughtF a b m else stepF n (signF r) m
theorem run_negf (b : Nat) : Op.unary .neg (.float .f64 b) = pure (.float .f64 (negW b)) := rfl
theorem run_fma (x y z r : Nat) (h : FloatKind.f64.format.fma x y z = some r) (w : World) : (callFunc 93 #[.float .f64 x, .float .f64 y, .float .f64 z]).run Tryz.prog w = .ok (.value (.float .f64 r)) w := by
 rw [run_callFunc_extern (e := Extern.MathFMA.fma) Tryz.func93 (by kernel_rfl) (by kernel_rfl) (by kernel_rfl) (by kernel_rfl)]
 have e : Extern.MathFMA.fma #[.float .f64 x, .float .f64 y, .float .f64 z] = (pure (.float .f64 r) : Sem Value) := by
  show (match FloatKind.f64.format.fma x y z with | some r => (pure (.float .f64 r) : Sem Value) | none => _) = _
  rw [h]
 rw [e]
 rfl
theorem run_sqrt (x r : Nat) (h : FloatKind.f64.format.sqrt x = some r) (w : World) : (callFunc 98 #[.float .f64 x]).run Tryz.prog w = .ok (.value (.float .f64 r)) w := by
 rw [run_callFunc_extern (e := Extern.MathSqrt.sqrt) Tryz.func98 (by kernel_rfl) (by kernel_rfl) (by kernel_rfl) (by kernel_rfl)]
 have e : Extern.MathSqrt.sqrt #[.float .f64 x] = (pure (.float .f64 r) : Sem Value) := by
  show (match FloatKind.f64.format.sqrt x with | some r => (pure (.float .f64 r) : Sem Value) | none => _) = _
  rw [h]
 rw [e]
 rfl
def someB (a : Nat) : Bool := finB a && rung a != 0
theorem some_rung {a : Nat} (h : someB a = true) : finB a = true ∧ (rung a == 0) = false := by
 unfold someB at h
 simp at h
 exact ⟨h.1, by simpa using h.2⟩
set_option maxHeartbeats 400000 in
theorem some_any (a : Nat) (ha : a < 18446744073709551616) (w : World) :
    Calls Tryz.prog 73 #[.float .f64 a] w fun e w' => e = .returned (.bool (someB a)) ∧ w' = w := by
  have hz := zero_ne ha
  have HE : Hid (someB a = (finB a && rung a != 0)) := rfl
  have ca := rofin_any a ha
  cases fa : finB a <;> rw [fa] at ca <;> cases e1 : (rung a != 0) <;> rw [e1] at hz <;>
    (go_enter Tryz.func73, Tryz.ntmps73
     go_wp2_with (go_at_call 86; refine (ca _).mono ?_; rintro e w' ⟨rfl, rfl⟩)
     go_ret
     exact ⟨end_bool (by rw [HE.out, fa, e1]; rfl), rfl⟩)
set_option maxHeartbeats 400000 in
theorem signOf_great (x y z f : Nat) (hz : z < 18446744073709551616) (hc : (FloatKind.f64.format.order (rung z) 553942754166571008 == some .lt) = false) (hf : FloatKind.f64.format.fma x y z = some f) (hfl : f < 18446744073709551616) (w : World) :
  Calls Tryz.prog 75 #[.float .f64 x, .float .f64 y, .float .f64 z] w fun e w' => e = .returned (.int .i64 (signF f)) ∧ w' = w := by
 have h1 := run_fma x y z f hf
 clear hf
 go_enter Tryz.func75, Tryz.ntmps75
 go_wp2_with (first
  | (go_at_call 83; refine (abs_any _ hz _).mono ?_; rintro e w' ⟨rfl, rfl⟩)
  | (go_at_call 92; refine (rsign_any _ hfl _).mono ?_; rintro e w' ⟨rfl, rfl⟩))
 go_ret
 exact ⟨rfl, rfl⟩
set_option maxHeartbeats 1000000 in
theorem rmul_great (a b q f : Nat) (m : Int) (ha : a < 18446744073709551616) (hb : b < 18446744073709551616) (sa : someB a = true) (sb : someB b = true) (hq : floatBits .mul .f64 a b = some q) (hql : q < 18446744073709551616)
  (hc : (FloatKind.f64.format.order (rung (negW q)) 553942754166571008 == some .lt) = false) (hf : FloatKind.f64.format.fma a b (negW q) = some f) (hfl : f < 18446744073709551616) (w : World) :
  Calls Tryz.prog 56 #[.float .f64 a, .float .f64 b, .int .i8 m] w fun e w' => e = .returned (.float .f64 (stepF q (signF f) m)) ∧ w' = w := by
 have h1 := fun w => run_float_arith (P := Tryz.prog) w .mul 36 .f64 _ _ _ hq
 have hu := run_negf
 have ca := some_any a ha
 have cb := some_any b hb
 have cs := signOf_great a b (negW q) f (negW_lt hql) hc hf hfl
 have hcv := conv64 q
 rw [sa] at ca
 rw [sb] at cb
 clear hq hf hc
 go_enter Tryz.func56, Tryz.ntmps56
 go_wp2_with (first
  | (go_at_call_of 73 (Value.float FloatKind.f64 a); refine (ca _).mono ?_; rintro e w' ⟨rfl, rfl⟩)
  | (go_at_call_of 73 (Value.float FloatKind.f64 b); refine (cb _).mono ?_; rintro e w' ⟨rfl, rfl⟩)
  | (go_at_call 75; refine (cs _).mono ?_; rintro e w' ⟨rfl, rfl⟩)
  | (go_at_call 74; refine (step_any _ _ _ hql _).mono ?_; rintro e w' ⟨rfl, rfl⟩))
 go_ret
 exact ⟨rfl, rfl⟩
set_option maxHeartbeats 400000 in
theorem msqrt_any (a q : Nat) (hq : FloatKind.f64.format.sqrt a = some q) (w : World) :
  Calls Tryz.prog 82 #[.float .f64 a] w fun e w' => e = .returned (.float .f64 q) ∧ w' = w := by
 have h1 := run_sqrt a q hq
 clear hq
 go_enter Tryz.func82, Tryz.ntmps82
 go_wp2
 go_ret
 exact ⟨rfl, rfl⟩
set_option maxHeartbeats 1000000 in
theorem rsqrt_great (a q f : Nat) (m : Int) (ha : a < 18446744073709551616) (sa : someB a = true) (hq : FloatKind.f64.format.sqrt a = some q) (hql : q < 18446744073709551616)
  (hc : (FloatKind.f64.format.order (rung a) 553942754166571008 == some .lt) = false) (hf : FloatKind.f64.format.fma (negW q) q a = some f) (hfl : f < 18446744073709551616) (ha0 : (FloatKind.f64.format.order a 0 == some .lt) = false) (w : World) :
  Calls Tryz.prog 69 #[.float .f64 a, .int .i8 m] w fun e w' => e = .returned (.float .f64 (stepF q (signF f) m)) ∧ w' = w := by
 have hu := run_negf
 have ca := some_any a ha
 have cq := msqrt_any a q hq
 have cs := signOf_great (negW q) q a f ha hc hf hfl
 rw [sa] at ca
 clear hq hf hc
 go_enter Tryz.func69, Tryz.ntmps69
 go_wp2_with (first
  | (go_at_call 82; refine (cq _).mono ?_; rintro e w' ⟨rfl, rfl⟩)
  | (go_at_call 73; refine (ca _).mono ?_; rintro e w' ⟨rfl, rfl⟩)
  | (go_at_call 75; refine (cs _).mono ?_; rintro e w' ⟨rfl, rfl⟩)
  | (go_at_call 74; refine (step_any _ _ _ hql _).mono ?_; rintro e w' ⟨rfl, rfl⟩))
 go_ret
 exact ⟨rfl, rfl⟩
def sumN (a b : Nat) : Nat := (floatBits .add .f64 a b).getD 0
def sumC (a b : Nat) : Bool := FloatKind.f64.format.order (rung a) (rung b) == some .lt
def sumT (a b : Nat) : Nat := (floatBits .sub .f64 (sumN a b) (if sumC a b then b else a)).getD 0
def sumR (a b : Nat) : Nat := (floatBits .sub .f64 (if sumC a b then a else b) (sumT a b)).getD 0
def addV (a b : Nat) (m : Int) : Nat := addM a b (sumN a b) (sumR a b) m
theorem inf_sub {y t : Nat} (hy : y < 18446744073709551616) (fy : finB y = true) (ht : t < 18446744073709551616) (hr : rung t ≤ 9218868437227405312) : ∃ r, floatBits .sub .f64 y t = some r ∧ r < 18446744073709551616 := by
 cases ft : finB t
 ·have hi : rung t = 9218868437227405312 := by unfold finB at ft; simp at ft; omega
  refine ⟨negW t, ?_, negW_lt ht⟩
  rw [fsub_add ht]; exact add_inf_r (negW_lt ht) ((neg_rung ht).1.trans hi) hy fy
 ·obtain ⟨r, h1, h2, _⟩ := sub_told hy ht fy ft
  exact ⟨r, h1, h2⟩
theorem sub_fin_r {n x : Nat} (hn : n < 18446744073709551616) (hr : rung n ≤ 9218868437227405312) (hx : x < 18446744073709551616) (fx : finB x = true) : ∃ t, floatBits .sub .f64 n x = some t ∧ t < 18446744073709551616 ∧ rung t ≤ 9218868437227405312 := by
 cases fn : finB n
 ·have hi : rung n = 9218868437227405312 := by unfold finB at fn; simp at fn; omega
  exact ⟨n, by rw [fsub_add hx]; exact add_inf_l hn hi (negW_lt hx) ((neg_fin hx).trans fx), hn, hr⟩
 ·exact sub_told hn hx fn fx
theorem sum_parts {a b : Nat} (ha : a < 18446744073709551616) (hb : b < 18446744073709551616) (fa : finB a = true) (fb : finB b = true) :
  floatBits .add .f64 a b = some (sumN a b) ∧ floatBits .sub .f64 (sumN a b) (if sumC a b then b else a) = some (sumT a b) ∧ floatBits .sub .f64 (if sumC a b then a else b) (sumT a b) = some (sumR a b) ∧
  sumN a b < 18446744073709551616 ∧ rung (sumN a b) ≤ 9218868437227405312 ∧ sumR a b < 18446744073709551616 ∧ (rung (sumN a b) = 0 → sgn a = sgn b → rung a = 0 ∧ rung b = 0) := by
 obtain ⟨n, h1, h2, h3, h4⟩ := add_told ha hb fa fb
 have en : sumN a b = n := by unfold sumN; rw [h1]; rfl
 have hx : (if sumC a b then b else a) < 18446744073709551616 ∧ finB (if sumC a b then b else a) = true ∧ (if sumC a b then a else b) < 18446744073709551616 ∧ finB (if sumC a b then a else b) = true := by cases sumC a b <;> exact ⟨by assumption, by assumption, by assumption, by assumption⟩
 obtain ⟨t, t1, t2, t3⟩ := sub_fin_r h2 h3 hx.1 hx.2.1
 have et : sumT a b = t := by unfold sumT; rw [en, t1]; rfl
 obtain ⟨r, r1, r2⟩ := inf_sub hx.2.2.1 hx.2.2.2 t2 t3
 have er : sumR a b = r := by unfold sumR; rw [et, r1]; rfl
 rw [en, et, er]
 exact ⟨h1, t1, r1, h2, h3, r2, h4⟩
theorem stepF_lt {x : Nat} (r m : Int) (hx : x < 18446744073709551616) : stepF x r m < 18446744073709551616 := by
 unfold stepF cpy
 have := rung_lt (nextF x (decide (0 < r)))
 (repeat' split) <;> omega
end Go.Proofs.YtfipmopmpacdaaaGreatDoor
