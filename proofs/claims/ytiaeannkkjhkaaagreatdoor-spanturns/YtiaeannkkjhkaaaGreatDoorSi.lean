/- That round's fixed answers ('awake') are so. -/
import Derived.Test.YtiaeannkkjhkaaaGreatDoorSh
namespace Go.Proofs.YtiaeannkkjhkaaaGreatDoor
open Go.RowKit

theorem lm_one {x : Nat} (h : x < 18446744073709551616) : Lm [x] := fun y hy => by simp at hy; omega
theorem awi : intD 9007199254740993 = ⟨false, [9007199254740993], 0⟩ := by kernel_rfl
theorem awr : rndW ⟨false, [9007199254740993], 0⟩ 2 = 4845873199050653697 := by kernel_rfl
def divQ (a b : Nat) : Nat := (floatBits .quo .f64 a b).getD 0
def divF (a b : Nat) : Nat := (FloatKind.f64.format.fma (negW (divQ a b)) b a).getD 0
theorem rdiv_gen (a b : Nat) (m : Int) (ha : a < 18446744073709551616) (hb : b < 18446744073709551616) (sa : someB a = true) (sb : someB b = true) (hq : floatBits .quo .f64 a b = some (divQ a b)) (hql : Nat.blt (divQ a b) 18446744073709551616 = true)
    (hc : (FloatKind.f64.format.order (rung a) 553942754166571008 == some .lt) = false) (hf : FloatKind.f64.format.fma (negW (divQ a b)) b a = some (divF a b)) (hfl : Nat.blt (divF a b) 18446744073709551616 = true) (hb0 : (FloatKind.f64.format.order b 0 == some .lt) = false) (w : World) :
    Calls Tryz.prog 89 #[.float .f64 a, .float .f64 b, .int .i8 m] w fun e w' => e = .returned (.float .f64 (stepF (divQ a b) (signF (divF a b)) m)) ∧ w' = w :=
  rdiv_great a b _ _ m ha hb sa sb hq (by simpa using hql) hc hf (by simpa using hfl) hb0 w
end Go.Proofs.YtiaeannkkjhkaaaGreatDoor
