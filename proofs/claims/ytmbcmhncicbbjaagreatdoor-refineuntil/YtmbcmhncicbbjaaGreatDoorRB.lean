/- The exact sum of products of finite floats: plain. -/
import Derived.Test.YtmbcmhncicbbjaaGreatDoorRA
import Derived.Test.YtmbcmhncicbbjaaGreatDoorTd
namespace Go.Proofs.YtmbcmhncicbbjaaGreatDoor
open Go.RowKit

/-- The sum of the first k floats, in units of 2^-1074. -/
def sI (xs : List Nat) : Nat → Int
  | 0 => 0
  | k + 1 => sI xs k + vI (xs.getD k 0)
/-- .. as a right dyad. -/
def sD (xs : List Nat) (k : Nat) : Dy := (nrm (sI xs k) (-1074)).1
/-- The exact sum rounded. -/
def exW (xs : List Nat) (m : Int) : Nat := rndW (sD xs xs.length) m
theorem fin_at {xs : List Nat} (h : xs.all finB = true) {k : Nat} (hk : k < xs.length) : finB (xs.getD k 0) = true := by
  rw [getD_at hk]
  exact List.all_eq_true.1 h _ (List.getElem_mem hk)
theorem sI_lt {xs : List Nat} (h : xs.all finB = true) {V : Nat} (hV : V = 2098) : ∀ k, k ≤ xs.length → (sI xs k).natAbs ≤ k * 2 ^ V
  | 0, _ => by simp [sI]
  | k + 1, hk => by
    have i1 := sI_lt h hV k (by omega)
    have i2 := vI_lt (fin_at h (k := k) (by omega)) hV
    have i3 := Int.natAbs_add_le (sI xs k) (vI (xs.getD k 0))
    rw [sI, Nat.add_mul, Nat.one_mul]
    omega
theorem sI_bl {xs : List Nat} (h : xs.all finB = true) (hn : xs.length ≤ 1125899906842624) {k : Nat} (hk : k ≤ xs.length) : bl (sI xs k).natAbs ≤ 3000 := by
  obtain ⟨V, hV⟩ : ∃ V : Nat, V = 2098 := ⟨_, rfl⟩
  obtain ⟨E, hE⟩ : ∃ E : Nat, E = 902 := ⟨_, rfl⟩
  have h1 := sI_lt h hV k hk
  refine bl_le_iff.2 (Nat.lt_of_le_of_lt h1 ?_)
  calc k * 2 ^ V < 2 ^ E * 2 ^ V := (Nat.mul_lt_mul_right (Nat.two_pow_pos _)).2 (Nat.lt_of_lt_of_le (show k < 2 ^ 51 by omega) (Nat.pow_le_pow_right (by omega) (by omega)))
    _ = 2 ^ (E + V) := by rw [← Nat.pow_add]
    _ = 2 ^ 3000 := by rw [show E + V = 3000 by omega]
theorem sD_told {xs : List Nat} (h : xs.all finB = true) (hn : xs.length ≤ 1125899906842624) {k : Nat} (hk : k ≤ xs.length) : nrm (sI xs k) (-1074) = (sD xs k, 0) := by
  have := nrm_told (X := sI xs k) (e := -1074) (by have := sI_bl h hn hk; omega) (by omega) (by omega)
  unfold sD
  rw [← this]
theorem sD_qd {xs : List Nat} (h : xs.all finB = true) (hn : xs.length ≤ 1125899906842624) {k : Nat} (hk : k ≤ xs.length) {K : Nat} (hK : K = 64462) : rightB (sD xs k) = true ∧ Lm (sD xs k).mag ∧ qd (sD xs k) = sI xs k * 2 ^ K := by
  have ht := sD_told h hn hk
  have h2 : (nrm (sI xs k) (-1074)).2 = 0 := by rw [ht]
  obtain ⟨r1, r2⟩ := nrm_ok h2
  have r3 := r2 (-65536) (by omega) (by omega)
  rw [ht] at r1 r3
  refine ⟨r1, nrm_lm _ _, ?_⟩
  simp only at r3
  unfold qd
  rw [show (sD xs k).exp + 65536 = (sD xs k).exp - -65536 by omega, r3, hK]
  rfl
theorem sD_add {xs : List Nat} (h : xs.all finB = true) (hn : xs.length ≤ 1125899906842624) {k : Nat} (hk : k < xs.length) : addD (sD xs k) (ofD (xs.getD k 0)).1 = (sD xs (k + 1), 0) := by
  obtain ⟨K, hK⟩ : ∃ K : Nat, K = 64462 := ⟨_, rfl⟩
  obtain ⟨a1, a2, a3⟩ := sD_qd h hn (show k ≤ xs.length by omega) hK
  obtain ⟨_, b2, _, b4⟩ := fq_qd (fin_at h hk) hK
  unfold addD
  rw [a1, b2]
  simp only [Bool.and_self, if_true]
  rw [a3, b4, ← Int.add_mul, show sI xs k + vI (xs.getD k 0) = sI xs (k + 1) from rfl, shift_nrm, hK, ← sD_told h hn hk]
  rfl
end Go.Proofs.YtmbcmhncicbbjaaGreatDoor

namespace Go.Proofs.YtmbcmhncicbbjaaGreatDoor
open Go.RowKit

/-- The sum of the first k products, in units of 2^-2148. -/
def dI (xs ys : List Nat) : Nat → Int
  | 0 => 0
  | k + 1 => dI xs ys k + vI (xs.getD k 0) * vI (ys.getD k 0)
/-- The exact sum of products rounded. -/
def dxW (xs ys : List Nat) (m : Int) : Nat := rndW (dz (dI xs ys xs.length)) m
theorem dI_lt {xs ys : List Nat} (h : xs.all finB = true) (g : ys.all finB = true) (hl : ys.length = xs.length) {V : Nat} (hV : V = 2098) : ∀ k, k ≤ xs.length → (dI xs ys k).natAbs ≤ k * 2 ^ (V + V)
  | 0, _ => by simp [dI]
  | k + 1, hk => by
    have i1 := dI_lt h g hl hV k (by omega)
    have i2 := vI_lt (fin_at h (k := k) (by omega)) hV
    have i3 := vI_lt (fin_at g (k := k) (by omega)) hV
    have i4 : (vI (xs.getD k 0) * vI (ys.getD k 0)).natAbs ≤ 2 ^ (V + V) := by
      rw [Int.natAbs_mul, Nat.pow_add]
      exact Nat.mul_le_mul (Nat.le_of_lt i2) (Nat.le_of_lt i3)
    have i5 := Int.natAbs_add_le (dI xs ys k) (vI (xs.getD k 0) * vI (ys.getD k 0))
    rw [dI, Nat.add_mul, Nat.one_mul]
    omega
theorem dI_bl {xs ys : List Nat} (h : xs.all finB = true) (g : ys.all finB = true) (hl : ys.length = xs.length) (hn : xs.length ≤ 1125899906842624) {k : Nat} (hk : k ≤ xs.length) : bl (dI xs ys k).natAbs ≤ 5000 := by
  obtain ⟨V, hV⟩ : ∃ V : Nat, V = 2098 := ⟨_, rfl⟩
  obtain ⟨E, hE⟩ : ∃ E : Nat, E = 804 := ⟨_, rfl⟩
  have h1 := dI_lt h g hl hV k hk
  refine bl_le_iff.2 (Nat.lt_of_le_of_lt h1 ?_)
  calc k * 2 ^ (V + V) < 2 ^ E * 2 ^ (V + V) := (Nat.mul_lt_mul_right (Nat.two_pow_pos _)).2 (Nat.lt_of_lt_of_le (show k < 2 ^ 51 by omega) (Nat.pow_le_pow_right (by omega) (by omega)))
    _ = 2 ^ (E + (V + V)) := by rw [← Nat.pow_add]
    _ = 2 ^ 5000 := by rw [show E + (V + V) = 5000 by omega]
/-- Sums of exact numbers in units of 2^-2148. -/
theorem dz_add {X Y : Int} (h1 : bl X.natAbs ≤ 16384) (h2 : bl Y.natAbs ≤ 16384) (h3 : bl (X + Y).natAbs ≤ 16384) : addD (dz X) (dz Y) = (dz (X + Y), 0) := by
  obtain ⟨K, hK⟩ : ∃ K : Nat, K = 63388 := ⟨_, rfl⟩
  obtain ⟨r1, _, q1⟩ := dz_qd h1 hK
  obtain ⟨r2, _, q2⟩ := dz_qd h2 hK
  unfold addD
  rw [r1, r2, q1, q2]
  simp only [Bool.and_self, if_true]
  rw [← Int.add_mul, shift_nrm, show (-65536 : Int) + (K : Nat) = -2148 by omega]
  exact dz_told h3
theorem dt_add {xs ys : List Nat} (h : xs.all finB = true) (g : ys.all finB = true) (hl : ys.length = xs.length) (hn : xs.length ≤ 1125899906842624) {k : Nat} (hk : k < xs.length) : addD (dz (dI xs ys k)) (dz (vI (xs.getD k 0) * vI (ys.getD k 0))) = (dz (dI xs ys (k + 1)), 0) := by
  have b1 := dI_bl h g hl hn (Nat.le_of_lt hk)
  have b2 := (exX_lt (fin_at h hk) (fin_at g (k := k) (by omega)) (fin_at h hk)).1
  have b3 := dI_bl h g hl hn (show k + 1 ≤ xs.length from hk)
  exact dz_add (by omega) b2 (show bl (dI xs ys (k + 1)).natAbs ≤ 16384 by omega)
theorem dt_qd {xs ys : List Nat} (h : xs.all finB = true) (g : ys.all finB = true) (hl : ys.length = xs.length) (hn : xs.length ≤ 1125899906842624) {k : Nat} (hk : k ≤ xs.length) {K : Nat} (hK : K = 63388) : rightB (dz (dI xs ys k)) = true ∧ Lm (dz (dI xs ys k)).mag ∧ qd (dz (dI xs ys k)) = dI xs ys k * 2 ^ K :=
  dz_qd (by have := dI_bl h g hl hn hk; omega) hK
theorem dt_zero : dz 0 = dy0 := rfl
end Go.Proofs.YtmbcmhncicbbjaaGreatDoor
