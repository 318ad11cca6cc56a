/- What round's Add answers. -/
import Derived.Test.YtjcmhgkdbjnaeaaGreatDoorSd
namespace Go.Proofs.YtjcmhgkdbjnaeaaGreatDoor
open Go.RowKit

set_option maxHeartbeats 1000000 in
theorem radd_fin (a b n t r : Nat) (c : Bool) (m : Int) (ha : a < 18446744073709551616) (hb : b < 18446744073709551616) (fa : finB a = true) (fb : finB b = true) (hc : (FloatKind.f64.format.order (rung a) (rung b) == some .lt) = c)
    (hn : floatBits .add .f64 a b = some n) (ht : floatBits .sub .f64 n (if c then b else a) = some t) (hr : floatBits .sub .f64 (if c then a else b) t = some r) (hnl : n < 18446744073709551616) (hrl : r < 18446744073709551616) (w : World) :
    Calls Tryz.prog 37 #[.float .f64 a, .float .f64 b, .int .i8 m] w fun e w' => e = .returned (.float .f64 (addM a b n r m)) ∧ w' = w := by
  have cs := sum_fin a b n t r c ha hb hc hn ht hr
  have HE : Hid (addM a b n r m = if rung n == 0 then noughtF a b m else stepF n (signF r) m) := rfl
  have hz := zero_eq hnl
  clear hn ht hr hc
  cases e1 : (rung n == 0) <;> rw [e1] at hz <;>
    (go_enter Tryz.func37, Tryz.ntmps37
     go_wp2_with (first
        | (go_at_call 71; refine (cs _).mono ?_; rintro e w' ⟨rfl, rfl⟩)
        | (go_at_call_of 43 (Value.float FloatKind.f64 a); refine (rofin_any _ ha _).mono ?_; rw [fa]; rintro e w' ⟨rfl, rfl⟩)
        | (go_at_call_of 43 (Value.float FloatKind.f64 b); refine (rofin_any _ hb _).mono ?_; rw [fb]; rintro e w' ⟨rfl, rfl⟩)
        | (go_at_call 45; refine (rnought_any _ _ _ ha hb _).mono ?_; rintro e w' ⟨rfl, rfl⟩)
        | (go_at_call 46; refine (rsign_any _ hrl _).mono ?_; rintro e w' ⟨rfl, rfl⟩)
        | (go_at_call 25; refine (step_any _ _ _ hnl _).mono ?_; rintro e w' ⟨rfl, rfl⟩))
     go_ret
     exact ⟨end_flt (by rw [HE.out, e1]; rfl), rfl⟩)
set_option maxHeartbeats 1000000 in
theorem radd_inf (a b : Nat) (m : Int) (ha : a < 18446744073709551616) (hb : b < 18446744073709551616) (hf : finB a = false ∨ finB b = false) (w : World) :
    Calls Tryz.prog 37 #[.float .f64 a, .float .f64 b, .int .i8 m] w fun e w' => (∃ r, e = .returned (.float .f64 r) ∧ NR (floatBits .add .f64 a b) r) ∧ Below w.heap.size w w' := by
  have ca := rofin_any a ha
  have cb := rofin_any b hb
  cases fa : finB a <;> rw [fa] at ca
  · go_enter Tryz.func37, Tryz.ntmps37
    go_wp2_with (first
        | (go_at_call 71; refine (sum_all a b ha hb _).mono ?_; rintro e w1 ⟨⟨n, r, rfl, hN⟩, hB⟩)
        | (go_at_call 43; refine (ca _).mono ?_; rintro e w' ⟨rfl, rfl⟩))
    go_ret
    exact ⟨⟨_, rfl, hN⟩, hB⟩
  · have fb : finB b = false := by rcases hf with h | h; · rw [fa] at h; cases h
                                   · exact h
    rw [fb] at cb
    go_enter Tryz.func37, Tryz.ntmps37
    go_wp2_with (first
        | (go_at_call 71; refine (sum_all a b ha hb _).mono ?_; rintro e w1 ⟨⟨n, r, rfl, hN⟩, hB⟩)
        | (go_at_call_of 43 (Value.float FloatKind.f64 a); refine (ca _).mono ?_; rintro e w' ⟨rfl, rfl⟩)
        | (go_at_call_of 43 (Value.float FloatKind.f64 b); refine (cb _).mono ?_; rintro e w' ⟨rfl, rfl⟩))
    go_ret
    exact ⟨⟨_, rfl, hN⟩, hB⟩
theorem run_negf (b : Nat) : Op.unary .neg (.float .f64 b) = pure (.float .f64 (negW b)) := rfl
set_option maxHeartbeats 400000 in
theorem rsub_of (a b : Nat) (m : Int) (w : World) (R : Nat → World → Prop) (h : Calls Tryz.prog 37 #[.float .f64 a, .float .f64 (negW b), .int .i8 m] w fun e w' => ∃ r, e = .returned (.float .f64 r) ∧ R r w') :
    Calls Tryz.prog 58 #[.float .f64 a, .float .f64 b, .int .i8 m] w fun e w' => ∃ r, e = .returned (.float .f64 r) ∧ R r w' := by
  have hu := run_negf b
  go_enter Tryz.func58, Tryz.ntmps58
  go_wp2_with (go_at_call 37; refine h.mono ?_; rintro e w' ⟨r, rfl, hq⟩)
  go_ret
  exact ⟨_, rfl, hq⟩
set_option maxHeartbeats 400000 in
theorem dsub_of (a b : Nat) (m : Int) (w : World) (R : Nat → World → Prop) (h : Calls Tryz.prog 57 #[.float .f64 a, .float .f64 (negW b), .int .i8 m] w fun e w' => ∃ r, e = .returned (.float .f64 r) ∧ R r w') :
    Calls Tryz.prog 59 #[.float .f64 a, .float .f64 b, .int .i8 m] w fun e w' => ∃ r, e = .returned (.float .f64 r) ∧ R r w' := by
  have hu := run_negf b
  go_enter Tryz.func59, Tryz.ntmps59
  go_wp2_with (go_at_call 57; refine h.mono ?_; rintro e w' ⟨r, rfl, hq⟩)
  go_ret
  exact ⟨_, rfl, hq⟩
end Go.Proofs.YtjcmhgkdbjnaeaaGreatDoor
