/- What the document's answer for sums (Finite, up, down, side, great, nought, Add) tells. -/
import Derived.Test.YtpllknjomjbpnaaZi
namespace Go.Proofs.Ytpllknjomjbpnaa
open Go.RowKit

set_option maxHeartbeats 400000 in
theorem dfin_yes (a : Nat) (ha : a < 18446744073709551616) (hf : finB a = true) (w : World) :
    Calls Try.prog 34 #[.float .f64 a] w fun e w' => e = .returned (.bool true) ∧ w' = w := by
  have hm := fun w => run_float_arith (P := Try.prog) w .sub 38 .f64 _ _ _ (sub_self ha hf)
  have ho : (FloatKind.f64.format.order 0 0 == some .eq) = true := by kernel_rfl
  go_enter Try.func34, Try.ntmps34
  go_wp2
  go_ret
  exact ⟨end_bool ho, rfl⟩
set_option maxHeartbeats 400000 in
theorem dfin_no (a : Nat) (ha : a < 18446744073709551616) (hf : finB a = false) (w : World) :
    Calls Try.prog 34 #[.float .f64 a] w fun e w' => e = .returned (.bool false) ∧ w' = w.drew := by
  have hm := run_nan (P := Try.prog) .sub (Or.inl rfl) 38 a a (sub_inf ha hf)
  obtain ⟨h1, h2⟩ := nanW_nan a a w
  have ho : (FloatKind.f64.format.order (nanW a a w) 0 == some .eq) = false := by rw [ord_nan h2 (by omega) (Or.inl h1)]; rfl
  go_enter Try.func34, Try.ntmps34
  go_wp2
  go_ret
  exact ⟨rfl, rfl⟩
theorem u64_up {x : Nat} (h : x + 1 < 18446744073709551616) : IntKind.u64.wrap ((x : Int) + 1) = ((x + 1 : Nat) : Int) := by
  rw [IntKind.wrap_u64]; omega
theorem u64_dn {x : Nat} (h : x < 18446744073709551616) (h0 : x ≠ 0) : IntKind.u64.wrap ((x : Int) - 1) = ((x - 1 : Nat) : Int) := by
  rw [IntKind.wrap_u64]; omega
theorem nan_two {x : Nat} (hn : nanB x = false) (h0 : rung x ≠ 0) : (!nanB x && decide (0 < place x)) = !sgn x ∧ (!nanB x && decide (place x < 0)) = sgn x := by
  rw [hn]
  unfold place
  cases sgn x <;> simp <;> omega
end Go.Proofs.Ytpllknjomjbpnaa
