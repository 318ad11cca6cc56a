/- Fixed sums of dyads. -/
import Derived.Test.YtdjljbcigobdpaaDoorZe
namespace Go.Proofs.YtdjljbcigobdpaaDoor
open Go.RowKit

def lA : List Nat := [4607182418800017408, 4877398396442247168, 14100770433297022976]
def lD (k : Nat) : Dy := if k = 0 then ⟨false, [1], 0⟩ else if k = 1 then ⟨false, [1], 60⟩ else ⟨true, [1], 60⟩
def lT (k : Nat) : Dy := if k = 0 then dy0 else if k = 1 then ⟨false, [1], 0⟩ else if k = 2 then ⟨false, [1152921504606846977], 0⟩ else ⟨false, [1], 0⟩
/-- A sum in units of the lesser power. -/
theorem addD_low {a b : Dy} (ha : rightB a = true) (hb : rightB b = true) (p q : Nat) (e : Int) (he : -65536 ≤ e) (hp : a.exp = e + p) (hq : b.exp = e + q) : addD a b = nrm (sv a * 2 ^ p + sv b * 2 ^ q) e := by
  unfold addD
  rw [ha, hb]
  simp only [Bool.and_self, if_true]
  have := nrm_shift (sv a * 2 ^ p + sv b * 2 ^ q) e (e + 65536).toNat
  rw [show e - (((e + 65536).toNat : Nat) : Int) = -65536 by omega] at this
  rw [← this]
  unfold qd
  rw [hp, hq, show (e + (p : Int) + 65536).toNat = p + (e + 65536).toNat by omega, show (e + (q : Int) + 65536).toNat = q + (e + 65536).toNat by omega, pow_add_int, pow_add_int, Int.add_mul, Int.mul_assoc, Int.mul_assoc]
theorem lA_a1 : addD dy0 ⟨false, [1], 0⟩ = (⟨false, [1], 0⟩, 0) := by
  rw [addD_low (a := dy0) (by kernel_rfl) (by kernel_rfl) 0 0 0 (by omega) rfl rfl]
  kernel_rfl
theorem lA_a2 : addD ⟨false, [1], 0⟩ ⟨false, [1], 60⟩ = (⟨false, [1152921504606846977], 0⟩, 0) := by
  rw [addD_low (a := ⟨false, [1], 0⟩) (b := ⟨false, [1], 60⟩) (by kernel_rfl) (by kernel_rfl) 0 60 0 (by omega) rfl rfl]
  kernel_rfl
theorem lA_a3 : addD ⟨false, [1152921504606846977], 0⟩ ⟨true, [1], 60⟩ = (⟨false, [1], 0⟩, 0) := by
  rw [addD_low (a := ⟨false, [1152921504606846977], 0⟩) (b := ⟨true, [1], 60⟩) (by kernel_rfl) (by kernel_rfl) 0 60 0 (by omega) rfl rfl]
  kernel_rfl
end Go.Proofs.YtdjljbcigobdpaaDoor
