/- What TrailingZeros64 and Split answer, where the library's table lies as its initialiser lays it; and that the fixed answers of 'awake' are so. -/
import Derived.Test.YtnclddfljghebaaDoorRows
import Derived.Test.YtnclddfljghebaaDoorZf
namespace Go.Proofs.YtnclddfljghebaaDoor
open Go.RowKit

theorem run_fbits (a : Nat) (w : World) : (callFunc 24 #[.float .f64 a]).run Tryd.prog w = .ok (.value (.int .u64 a)) w := by
  rw [run_callFunc_extern (e := Extern.MathFloatBits.float64bits) Tryd.func24 (by kernel_rfl) (by kernel_rfl) (by kernel_rfl) (by kernel_rfl)]
  rfl
theorem run_ffrom (n : Int) (w : World) : (callFunc 89 #[.int .u64 n]).run Tryd.prog w = .ok (.value (.float .f64 n.toNat)) w := by
  rw [run_callFunc_extern (e := Extern.MathFloatBits.float64frombits) Tryd.func89 (by kernel_rfl) (by kernel_rfl) (by kernel_rfl) (by kernel_rfl)]
  rfl

end Go.Proofs.YtnclddfljghebaaDoor

namespace Go.Proofs.YtnclddfljghebaaDoor
open Go.RowKit

set_option maxHeartbeats 400000 in
theorem abs_any (a : Nat) (ha : a < 18446744073709551616) (w : World) :
    Calls Tryd.prog 98 #[.float .f64 a] w fun e w' => e = .returned (.float .f64 (rung a)) ∧ w' = w := by
  have fa := run_fbits a
  have ff := run_ffrom
  go_enter Tryd.func98, Tryd.ntmps98
  go_wp2
  go_ret
  exact ⟨end_flt (by rw [andNot_sign a ha]; rfl), rfl⟩

set_option maxHeartbeats 400000 in
theorem finite_any (a : Nat) (ha : a < 18446744073709551616) (w : World) :
    Calls Tryd.prog 97 #[.float .f64 a] w fun e w' => e = .returned (.bool (finB a)) ∧ w' = w := by
  go_enter Tryd.func97, Tryd.ntmps97
  go_wp2_with (go_at_call 98; refine (abs_any _ (by assumption) _).mono ?_; rintro e w' ⟨rfl, rfl⟩)
  go_ret
  exact ⟨end_bool (fin_le a), rfl⟩

set_option maxHeartbeats 400000 in
theorem inf_any (w : World) :
    Calls Tryd.prog 67 #[.int .i64 1] w fun e w' => e = .returned (.float .f64 9218868437227405312) ∧ w' = w := by
  have ff := run_ffrom
  go_enter Tryd.func67, Tryd.ntmps67
  go_wp2
  go_ret
  exact ⟨rfl, rfl⟩
end Go.Proofs.YtnclddfljghebaaDoor

namespace Go.Proofs.YtnclddfljghebaaDoor
open Go.RowKit

/-- The table in its variable. -/
def TabW (w : World) : Prop := ∀ j, j < 64 → w.cell? ⟨3, j, none⟩ = some (.int .u8 (Lib.deBruijn64tab.getD j 0))

/-- Where the library's look-up points: the lowest set bit t, times the de Bruijn number, its six highest bits. -/
theorem low_index {x t : Nat} (h : x < 18446744073709551616) (h0 : x ≠ 0) (ht : x &&& (18446744073709551616 - x) = t) :
    IntKind.u64.wrap (bits BinOp.and IntKind.u64 (x : Int) (IntKind.u64.wrap (-(x : Int))) * 285870213051353865) / 288230376151711744 = ((t * 285870213051353865 % 18446744073709551616 / 288230376151711744 : Nat) : Int) := by
  have g := u64_and_nat x (18446744073709551616 - x) h (by omega)
  have n : IntKind.u64.wrap (-(x : Int)) = ((18446744073709551616 - x : Nat) : Int) := by simp only [IntKind.wrap_u64]; omega
  rw [n, g, ht]
  simp only [IntKind.wrap_u64]
  omega

set_option maxHeartbeats 1000000 in
theorem zeros_at (x j z : Nat) (w : World) (b0 : ((x : Int) == 0) = false) (hj : j < 64) (hz : z < 64) (hc : w.cell? ⟨3, j, none⟩ = some (.int .u8 z))
    (hi : IntKind.u64.wrap (bits BinOp.and IntKind.u64 (x : Int) (IntKind.u64.wrap (-(x : Int))) * 285870213051353865) / 288230376151711744 = (j : Int)) :
    Calls Tryd.prog 65 #[.int .u64 x] w fun e w' => e = .returned (.int .i64 z) ∧ w' = w := by
  go_enter Tryd.func65, Tryd.ntmps65
  go_wp2_with (simp only [hi])
  go_ret
  exact ⟨rfl, rfl⟩

theorem zeros_any (x : Nat) (h : x < 18446744073709551616) (h0 : x ≠ 0) (w : World) (hT : TabW w) :
    Calls Tryd.prog 65 #[.int .u64 x] w fun e w' => e = .returned (.int .i64 (Lib.ctz 64 x)) ∧ w' = w := by
  have low := Lib.lowest_bit 64 x h0 h
  have tab := Lib.deBruijn64_at (Lib.ctz 64 x) low.2
  have cell := hT _ tab.1
  rw [tab.2] at cell
  exact zeros_at x _ _ w (by simp; omega) tab.1 low.2 cell (low_index h h0 low.1)

def frc (a : Nat) : Nat := rung a % 4503599627370496
theorem frc_eq {a : Nat} (ha : a < 18446744073709551616) : bits .and .u64 (a : Int) 4503599627370495 = (frc a : Int) := frac_and ha

theorem tabW_below {w w' : World} (hT : TabW w) (hb : Below w.heap.size w w') : TabW w' := by
  intro j hj
  rw [hb.cell (World.block_lt_of_cell? w _ (hT j hj))]
  exact hT j hj

theorem up_lt {a : Nat} (hf : finB a = true) : up (rung a) < 2046 := by
  unfold finB at hf
  have : rung a < 9218868437227405312 := by simpa using hf
  unfold up; split <;> omega

end Go.Proofs.YtnclddfljghebaaDoor
