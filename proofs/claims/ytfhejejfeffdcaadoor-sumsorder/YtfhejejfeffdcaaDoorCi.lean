/- A list's length as a float, times 2^-52: no program in this text. -/
import Derived.Test.YtfhejejfeffdcaaDoorZg
import Derived.KernelRfl
namespace Go.Proofs.YtfhejejfeffdcaaDoor
open Go.RowKit

/-- A length times 2^-52. -/
def cW (n : Nat) : Nat := (floatBits .mul .f64 (floatOfInt .f64 (n : Int)) 4372995238176751616).getD 0
def cOk (n : Nat) : Bool := (floatBits .mul .f64 (floatOfInt .f64 (n : Int)) 4372995238176751616 == some (cW n)) && (floatBits .quo .f64 (floatOfInt .f64 (n : Int)) 4841369599423283200 == some (cW n)) && Nat.blt (cW n) 18446744073709551616
theorem cOk_all : (List.range 4097).all cOk = true := by kernel_rfl
theorem cOk_at {n : Nat} (h : n ≤ 4096) : floatBits .mul .f64 (floatOfInt .f64 (n : Int)) 4372995238176751616 = some (cW n) ∧ floatBits .quo .f64 (floatOfInt .f64 (n : Int)) 4841369599423283200 = some (cW n) ∧ cW n < 18446744073709551616 := by
  have := List.all_eq_true.1 cOk_all n (List.mem_range.2 (by omega))
  unfold cOk at this
  simp only [Bool.and_eq_true, beq_iff_eq] at this
  exact ⟨this.1.1, this.1.2, by simpa using this.2⟩
end Go.Proofs.YtfhejejfeffdcaaDoor
