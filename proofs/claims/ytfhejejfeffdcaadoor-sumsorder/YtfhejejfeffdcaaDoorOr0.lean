/- SumsOrder, plain: the exact sum does not hang on the order of its numbers. -/
import Derived.Test.YtfhejejfeffdcaaDoorDE
import Derived.Test.YtfhejejfeffdcaaDoorZ14
namespace Go.Proofs.YtfhejejfeffdcaaDoor
open Go.RowKit

/-- The exact sum, in units of 2^-1074. -/
def sL : List Nat → Int
  | [] => 0
  | x :: r => vI x + sL r
theorem sL_app (xs ys : List Nat) : sL (xs ++ ys) = sL xs + sL ys := by
  induction xs with
  | nil => simp [sL]
  | cons x r ih => rw [List.cons_append, sL, sL, ih]; omega
theorem sL_perm {xs ys : List Nat} (h : xs.Perm ys) : sL xs = sL ys := by
  induction h with
  | nil => rfl
  | cons x _ ih => rw [sL, sL, ih]
  | swap x y l => rw [sL, sL, sL, sL]; omega
  | trans _ _ h1 h2 => exact h1.trans h2
theorem sI_take (xs : List Nat) : ∀ k, k ≤ xs.length → sI xs k = sL (xs.take k)
  | 0, _ => rfl
  | k + 1, hk => by
    rw [sI, sI_take xs k (by omega), getD_at (show k < xs.length by omega), List.take_succ_eq_append_getElem (show k < xs.length by omega), sL_app, sL, sL]
    omega
theorem sI_sum (xs : List Nat) : sI xs xs.length = sL xs := by
  have := sI_take xs xs.length (Nat.le_refl _)
  rwa [List.take_length] at this
theorem exW_sum {xs ys : List Nat} (h : sL xs = sL ys) (m : Int) : exW xs m = exW ys m := by
  unfold exW sD
  rw [sI_sum, sI_sum, h]
theorem one_val' : vI 4607182418800017408 = 2 ^ 1074 := by kernel_rfl
theorem dI_ones (xs : List Nat) : ∀ k, k ≤ xs.length → dI xs (List.replicate xs.length 4607182418800017408) k = sI xs k * 2 ^ 1074
  | 0, _ => by rw [dI, sI, Int.zero_mul]
  | k + 1, hk => by
    rw [dI, sI, dI_ones xs k (by omega), getD_at (xs := List.replicate xs.length 4607182418800017408) (by simp; omega), List.getElem_replicate, one_val', Int.add_mul]
theorem dx_ones (xs : List Nat) (m : Int) : dxW xs (List.replicate xs.length 4607182418800017408) m = exW xs m := by
  unfold dxW exW dz sD
  rw [dI_ones xs xs.length (Nat.le_refl _), shift_nrm]
  rfl
theorem fin_one : finB 4607182418800017408 = true := by kernel_rfl
theorem dxA_ones (xs : List Nat) (m : Int) (h : xs.all finB = true) : dxA xs (List.replicate xs.length 4607182418800017408) m = (exW xs m, 0) := by
  rw [dx_yes (by simp) h (List.all_eq_true.2 fun x hx => by rw [(List.mem_replicate.1 hx).2]; exact fin_one), dx_ones]
/-- What holds of every list that is asked. -/
structure Rw (l P : List Nat) : Prop where
  fin : P.all finB = true
  fw : FW P
  sum : sL P = sL l
  len : P.length ≤ l.length + 2
theorem Rw.perm {l P : List Nat} (h : P.Perm l) (hf : l.all finB = true) (hF : FW l) : Rw l P :=
  ⟨List.all_eq_true.2 fun x hx => List.all_eq_true.1 hf x (h.mem_iff.1 hx), fun x hx => hF x (h.mem_iff.1 hx), sL_perm h, by rw [h.length_eq]; omega⟩
theorem Rw.more {l : List Nat} {x y : Nat} (hf : l.all finB = true) (hF : FW l) (h1 : finB x = true) (h2 : finB y = true) (f1 : x < 18446744073709551616) (f2 : y < 18446744073709551616) (hv : vI y = - vI x) : Rw l (x :: l ++ [y]) := by
  refine ⟨List.all_eq_true.2 fun z hz => ?_, fun z hz => ?_, ?_, by simp⟩
  · simp at hz
    rcases hz with rfl | hz | rfl
    · exact h1
    · exact List.all_eq_true.1 hf z hz
    · exact h2
  · simp at hz
    rcases hz with rfl | hz | rfl
    · exact f1
    · exact hF z hz
    · exact f2
  · rw [sL_app, sL, sL, sL, hv]; omega
/-- Turned about. -/
theorem turn_perm (l : List Nat) : ((List.range l.length).map fun p => l.getD (l.length - 1 - p) 0).Perm l := by
  have e : ((List.range l.length).map fun p => l.getD (l.length - 1 - p) 0) = l.reverse := by
    refine List.ext_getElem (by simp) fun i h1 h2 => ?_
    have hi : i < l.length := by simpa using h1
    rw [List.getElem_map, List.getElem_range, List.getElem_reverse, getD_at (by omega)]
  rw [e]
  exact List.reverse_perm l
/-- From some place on. -/
theorem round_perm (l : List Nat) {k : Nat} (hk : k < l.length) : ((List.range l.length).map fun p => l.getD ((p + k) % l.length) 0).Perm l := by
  have e : ((List.range l.length).map fun p => l.getD ((p + k) % l.length) 0) = l.drop k ++ l.take k := by
    refine List.ext_getElem (by simp; omega) fun i h1 h2 => ?_
    have hi : i < l.length := by simpa using h1
    rw [List.getElem_map, List.getElem_range, getD_at (Nat.mod_lt _ (by omega))]
    by_cases c : i < l.length - k
    · rw [List.getElem_append_left (by simpa using c), List.getElem_drop]
      congr 1
      rw [Nat.mod_eq_of_lt (by omega)]; omega
    · rw [List.getElem_append_right (by simp; omega), List.getElem_take]
      congr 1
      have : i + k = (i - (l.length - k)) + l.length := by omega
      rw [this, Nat.add_mod_right, Nat.mod_eq_of_lt (by omega)]
      simp
  rw [e]
  refine (List.perm_append_comm).trans ?_
  rw [List.take_append_drop]
theorem even_step {a b l : List Nat} {i : Nat} (h : (a ++ b).Perm (l.take i)) (hi : i < l.length) : ((a ++ [l.getD i 0]) ++ b).Perm (l.take (i + 1)) := by
  rw [List.take_succ_eq_append_getElem hi, getD_at hi, List.append_assoc]
  refine List.Perm.trans ?_ (h.append_right _)
  rw [List.append_assoc]
  exact (List.perm_append_comm).append_left a
theorem odd_step {a b l : List Nat} {i : Nat} (h : (a ++ b).Perm (l.take i)) (hi : i < l.length) : (a ++ (b ++ [l.getD i 0])).Perm (l.take (i + 1)) := by
  rw [List.take_succ_eq_append_getElem hi, getD_at hi, ← List.append_assoc]
  exact h.append_right _
end Go.Proofs.YtfhejejfeffdcaaDoor
