/- That round's fixed answers ('awake') are so. -/
import Derived.Test.YtdjljbcigobdpaaDoorSh
namespace Go.Proofs.YtdjljbcigobdpaaDoor
open Go.RowKit

theorem lm_one {x : Nat} (h : x < 18446744073709551616) : Lm [x] := fun y hy => by simp at hy; omega
theorem awi : intD 9007199254740993 = ⟨false, [9007199254740993], 0⟩ := by kernel_rfl
theorem awr : rndW ⟨false, [9007199254740993], 0⟩ 2 = 4845873199050653697 := by kernel_rfl
def divQ (a b : Nat) : Nat := (floatBits .quo .f64 a b).getD 0
def divF (a b : Nat) : Nat := (FloatKind.f64.format.fma (negW (divQ a b)) b a).getD 0
end Go.Proofs.YtdjljbcigobdpaaDoor
