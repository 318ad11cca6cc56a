/- Norm and Most, of the program and of the document. -/
import Derived.Test.YtclldmdhpojciaaAb
import Derived.Test.YtclldmdhpojciaaSh
namespace Go.Proofs.Ytclldmdhpojciaa
open Go.RowKit

/-- A sum upwards, of any two floats. -/
def adU (a b : Nat) : Option Nat := if finB a && finB b then some (addV a b 2) else floatBits .add .f64 a b
theorem vnan_fin {s : Nat} (h : nanB s = true) : finB s = false := by
  unfold nanB at h; unfold finB
  simp only [decide_eq_true_eq] at h
  simp; omega
theorem adU_nan {a b : Nat} (ha : a < 18446744073709551616) (hb : b < 18446744073709551616) (h : nanB a = true ∨ nanB b = true) : adU a b = none := by
  unfold adU
  have hf : (finB a && finB b) = false := by
    rcases h with h | h
    · rw [vnan_fin h, Bool.false_and]
    · rw [vnan_fin h, Bool.and_false]
  rw [hf]
  exact op_nan (op := .add) (Or.inl rfl) ha hb h
/-- The sizes of the first k floats summed, each sum upwards. -/
def nrO (xs : List Nat) : Nat → Option Nat
  | 0 => some 0
  | k + 1 => (nrO xs k).bind fun s => adU s (rung (xs.getD k 0))
theorem vrung64 (a : Nat) : rung a < 18446744073709551616 := by have := rung_lt a; omega
theorem nrO_step {xs : List Nat} {k s r : Nat} (h : NR (nrO xs k) s) (hr : NR (adU s (rung (xs.getD k 0))) r) : NR (nrO xs (k + 1)) r := by
  show NR ((nrO xs k).bind _) r
  cases ho : nrO xs k with
  | none =>
    rw [ho] at h
    rw [adU_nan h.1 (vrung64 _) (Or.inl h.2)] at hr
    exact hr
  | some v =>
    rw [ho] at h
    have e : s = v := h.2
    subst e
    exact hr
/-- The place of the greatest size so far, and that size. -/
def msL (xs : List Nat) : Nat → Int × Nat
  | 0 => (-1, 0)
  | k + 1 => if nanB (xs.getD k 0) = false ∧ ((msL xs k).1 < 0 ∨ (msL xs k).2 < rung (xs.getD k 0)) then ((k : Int), rung (xs.getD k 0)) else msL xs k
theorem msL_bounds (xs : List Nat) (k : Nat) : -1 ≤ (msL xs k).1 ∧ (msL xs k).1 < k ∧ (msL xs k).2 ≤ 9218868437227405312 := by
  induction k with
  | zero => exact ⟨by simp [msL], by simp [msL], by simp [msL]⟩
  | succ k ih =>
    unfold msL
    split
    · rename_i h
      refine ⟨by omega, by omega, ?_⟩
      have := h.1
      unfold nanB at this
      simpa using this
    · exact ⟨ih.1, by omega, ih.2.2⟩
theorem msL_yes {xs : List Nat} {k : Nat} (h1 : nanB (xs.getD k 0) = false) (h2 : (msL xs k).1 < 0 ∨ (msL xs k).2 < rung (xs.getD k 0)) : msL xs (k + 1) = ((k : Int), rung (xs.getD k 0)) := by
  show (if _ then _ else _) = _
  rw [if_pos ⟨h1, h2⟩]
theorem msL_no {xs : List Nat} {k : Nat} (h : nanB (xs.getD k 0) = true ∨ (0 ≤ (msL xs k).1 ∧ rung (xs.getD k 0) ≤ (msL xs k).2)) : msL xs (k + 1) = msL xs k := by
  show (if _ then _ else _) = _
  rw [if_neg]
  rintro ⟨h1, h2⟩
  rcases h with h | ⟨h3, h4⟩
  · rw [h1] at h; cases h
  · omega
theorem nan_rung (x : Nat) : nanB (rung x) = nanB x := by
  unfold nanB
  rw [rung_small (rung_lt x)]
theorem size_gt {u v : Nat} (hu : u ≤ 9218868437227405312) (hv : v ≤ 9218868437227405312) : (FloatKind.f64.format.order u v == some .gt) = decide (v < u) := by
  have nu := nan_small hu
  have nv := nan_small hv
  rw [ord_num (by omega) (by omega) nu nv, place_small (by omega), place_small (by omega)]
  rw [cmp_gt]
  by_cases h : v < u
  · rw [decide_eq_true h]; exact decide_eq_true (by omega)
  · rw [decide_eq_false h]; exact decide_eq_false (by omega)
theorem size_gt_nan {u v : Nat} (hu : u < 18446744073709551616) (hv : v < 18446744073709551616) (h : nanB u = true) : (FloatKind.f64.format.order u v == some .gt) = false := by
  rw [ord_nan hu hv (Or.inl h)]; rfl
end Go.Proofs.Ytclldmdhpojciaa
