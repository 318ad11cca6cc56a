/- What math/bits.Add64, Sub64, Mul64 answer; addTimes; product. -/
import Derived.Test.YtokfkooffbihcaaDoorDn
import Derived.Shelf.Spec.BitsCarry
namespace Go.Proofs.YtokfkooffbihcaaDoor
open Go.RowKit

theorem add64_run (x y c : Int) (hx : 0 ≤ x) (hy : 0 ≤ y) (hc0 : 0 ≤ c) (hc : c ≤ 1) (w : World) : (callFunc 46 #[.int .u64 x, .int .u64 y, .int .u64 c]).run Tryd.prog w =
    .ok (.value (.tuple #[.int .u64 ((x + y + c) % 18446744073709551616), .int .u64 ((x + y + c) / 18446744073709551616)])) w := by
  rw [run_callFunc_extern Tryd.func46 (by kernel_rfl) (by kernel_rfl) (by kernel_rfl) (e := add64Entry) (by kernel_rfl), run_add64 x y c hx hy hc0 hc]
  rfl
theorem sub64_run (x y c : Nat) (hc : c ≤ 1) (w : World) : (callFunc 47 #[.int .u64 x, .int .u64 y, .int .u64 c]).run Tryd.prog w =
    .ok (.value (.tuple #[.int .u64 (((x + 18446744073709551616 - y - c) % 18446744073709551616 : Nat) : Int), .int .u64 ((if x < y + c then 1 else 0 : Nat) : Int)])) w := by
  rw [run_callFunc_extern Tryd.func47 (by kernel_rfl) (by kernel_rfl) (by kernel_rfl) (e := sub64Entry) (by kernel_rfl), run_sub64 x y c hc]
  rfl
theorem ret2U {a b c d : Int} (h : a = b) (g : c = d) : Ending.returned (.tuple #[.int .u64 a, .int .u64 c]) = .returned (.tuple #[.int .u64 b, .int .u64 d]) := by rw [h, g]

theorem wrapU_bd (n : Int) : 0 ≤ IntKind.u64.wrap n ∧ IntKind.u64.wrap n < 18446744073709551616 := by rw [IntKind.wrap_u64]; omega
theorem mul64_high (x y : Int) (hx0 : 0 ≤ x) (hx : x < 18446744073709551616) (hy0 : 0 ≤ y) (hy : y < 18446744073709551616) :
    IntKind.u64.wrap (IntKind.u64.wrap (IntKind.u64.wrap (x / 4294967296 * (y / 4294967296)) + IntKind.u64.wrap (IntKind.u64.wrap (x / 4294967296 * (y % 4294967296)) + IntKind.u64.wrap (x % 4294967296 * (y % 4294967296)) / 4294967296) / 4294967296) +
      IntKind.u64.wrap (bits BinOp.and IntKind.u64 (IntKind.u64.wrap (IntKind.u64.wrap (x / 4294967296 * (y % 4294967296)) + IntKind.u64.wrap (x % 4294967296 * (y % 4294967296)) / 4294967296)) 4294967295 + IntKind.u64.wrap (x % 4294967296 * (y / 4294967296))) / 4294967296) = x * y / 18446744073709551616 := by
  have t := wrapU_bd (IntKind.u64.wrap (x / 4294967296 * (y % 4294967296)) + IntKind.u64.wrap (x % 4294967296 * (y % 4294967296)) / 4294967296)
  rw [and_low32 _ t.1 t.2]
  simp only [IntKind.wrap_u64]
  exact mul64_arith x y hx0 hx hy0 hy

set_option maxHeartbeats 1000000 in
theorem mul64_any (x y : Int) (hx0 : 0 ≤ x) (hx : x < 18446744073709551616) (hy0 : 0 ≤ y) (hy : y < 18446744073709551616) (w : World) :
    Calls Tryd.prog 60 #[.int .u64 x, .int .u64 y] w fun e w' => e = .returned (.tuple #[.int .u64 (x * y / 18446744073709551616), .int .u64 (x * y % 18446744073709551616)]) ∧ w' = w := by
  have m1 := and_low32 x hx0 hx
  have m2 := and_low32 y hy0 hy
  go_enter Tryd.func60, Tryd.ntmps60
  go_wp2
  go_ret2
  exact ⟨ret2U (mul64_high x y hx0 hx hy0 hy) (by rw [IntKind.wrap_u64]), rfl⟩

/-- One limb of a row: what the three steps come to. -/
theorem times_step {x b t c : Int} (hx0 : 0 ≤ x) (hx : x < 18446744073709551616) (hb0 : 0 ≤ b) (hb : b < 18446744073709551616) (ht0 : 0 ≤ t) (ht : t < 18446744073709551616) (hc0 : 0 ≤ c) (hc : c < 18446744073709551616) :
    ((x * b % 18446744073709551616 + t) % 18446744073709551616 + c) % 18446744073709551616 = (x * b + t + c) % 18446744073709551616 ∧
    x * b / 18446744073709551616 + (x * b % 18446744073709551616 + t) / 18446744073709551616 + ((x * b % 18446744073709551616 + t) % 18446744073709551616 + c) / 18446744073709551616 = (x * b + t + c) / 18446744073709551616 ∧
    x * b / 18446744073709551616 + (x * b % 18446744073709551616 + t) / 18446744073709551616 < 18446744073709551616 ∧ (x * b + t + c) / 18446744073709551616 < 18446744073709551616 ∧ 0 ≤ x * b / 18446744073709551616 := by
  have p0 : 0 ≤ x * b := Int.mul_nonneg hx0 hb0
  have p1 : x * b ≤ 18446744073709551615 * 18446744073709551615 := Int.mul_le_mul (by omega) (by omega) hb0 (by omega)
  generalize x * b = p at *
  omega
end Go.Proofs.YtokfkooffbihcaaDoor
