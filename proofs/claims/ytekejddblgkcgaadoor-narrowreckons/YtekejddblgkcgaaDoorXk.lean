/- NarrowTells, whatever narrow float and bits it is given: the walk (the library's table lying as its initialiser lays it). -/
import Derived.Test.YtekejddblgkcgaaDoorXj
namespace Go.Proofs.YtekejddblgkcgaaDoor
open Go.RowKit

theorem neg_lt32 (a : Nat) (ha : a < 4294967296) : Op.negFloat .f32 a < 4294967296 := by
  have h : Op.negFloat .f32 a = a ^^^ 2147483648 := by unfold Op.negFloat; congr 1
  rw [h]
  exact Nat.xor_lt_two_pow (n := 32) ha (by omega)
theorem sSame_self2 (a : Nat) : sSame a a = true := by unfold sSame; simp
end Go.Proofs.YtekejddblgkcgaaDoor
