/- What the kit's LentReals, KeptReals, LentMatrix, KeptMatrix answer: numbers lent, with room behind them that is marked. -/
import Derived.Test.YtfhejejfeffdcaaDoorMx7
import Derived.Test.YtfhejejfeffdcaaDoorA1
namespace Go.Proofs.YtfhejejfeffdcaaDoor
open Go.RowKit

/-- The marks, as floats. -/
def mkF (i : Nat) : Nat := floatOfInt .f64 ((1000003 * 8 + i : Nat) : Int)
theorem mkF_ok : (List.range 12).all (fun i => Nat.blt (mkF i) 9218868437227405312) = true := by kernel_rfl
theorem mkF_lt {i : Nat} (h : i < 12) : mkF i < 9218868437227405312 := by
  have := List.all_eq_true.1 mkF_ok i (List.mem_range.2 h)
  simpa using this
def mkL (n : Nat) : List Nat := (List.range n).map mkF
theorem mkL_len (n : Nat) : (mkL n).length = n := by simp [mkL]
theorem mkL_succ (n : Nat) : mkL (n + 1) = mkL n ++ [mkF n] := by simp [mkL, List.range_succ]
theorem mkL_at {n i : Nat} (h : i < n) : (mkL n).getD i 0 = mkF i := by simp [mkL, List.getD_eq_getElem?_getD, h]
theorem rown_base {w : World} {b c : Nat} {e : TypeId} {v : Value} {n : Nat} {xs : List Value} (h : w.ownsRow b e 1 v n xs) (hc : c ≤ b) : w.ownsRow c e 1 v n xs := by
  refine ⟨h.1, ?_⟩
  rcases h.2 with hn | ⟨g, cap, cur, h1, h2, h3⟩
  · exact Or.inl hn
  · exact Or.inr ⟨g, cap, cur, h1, Nat.le_trans hc h2, h3⟩
/-- Numbers that were lent. -/
def LentF (w : World) (g : Nat) (xs : List Nat) : Prop := w.ownsRow 0 25 1 (.slice (some ⟨g, 0, none⟩) (xs.length + 12) (xs.length + 12)) (xs.length + 12) (fv (xs ++ mkL 12))
theorem LentF.cell {w : World} {g : Nat} {xs : List Nat} (h : LentF w g xs) {j : Nat} (hj : j < xs.length + 12) : w.cell? ⟨g, j, none⟩ = some (.float .f64 ((xs ++ mkL 12).getD j 0)) := by
  have e := World.ownsRow.cellAt h j (by omega)
  rw [e, fv_at (by rw [List.length_append, mkL_len]; exact hj)]
theorem LentF.row {w : World} {g : Nat} {xs : List Nat} (h : LentF w g xs) : GRow w (some ⟨g, 0, none⟩) xs := by
  refine Or.inr ⟨g, 0, rfl, fun j hj => ?_⟩
  rw [Nat.zero_add, h.cell (by omega), List.getD_eq_getElem?_getD, List.getD_eq_getElem?_getD, List.getElem?_append_left hj]
theorem LentF.lt {w : World} {g : Nat} {xs : List Nat} (h : LentF w g xs) : g < w.heap.size := World.block_lt_of_cell? w _ (h.cell (j := 0) (by omega))
theorem LentF.below {w w' : World} {g : Nat} {xs : List Nat} (h : LentF w g xs) (hb : Below w.heap.size w w') : LentF w' g xs := by
  have hl := h.lt
  refine ⟨h.1, ?_⟩
  rcases h.2 with ⟨e, _⟩ | ⟨g', cap, cur, e, h1, h2, h3⟩
  · cases e
  · cases e
    exact Or.inr ⟨g, xs.length + 12, cur, rfl, h1, by rw [hb.block g hl]; exact h2, h3⟩
theorem LentF.far {w : World} {g : Nat} {xs : List Nat} (h : LentF w g xs) {c : Nat} (hc : c ≠ g) (o : Nat) (v : Value) : LentF (w.setCell ⟨c, o, none⟩ v) g xs := by
  refine ⟨h.1, ?_⟩
  rcases h.2 with ⟨e, _⟩ | ⟨g', cap, cur, e, h1, h2, h3⟩
  · cases e
  · cases e
    exact Or.inr ⟨g, xs.length + 12, cur, rfl, h1, by rw [Below.heap_setCell w ⟨c, o, none⟩ v g (Ne.symm hc)]; exact h2, h3⟩
theorem fv_one (xs : List Nat) : ∀ u ∈ fv xs, u.oneCell' = true := fun u hu => by
  obtain ⟨x, _, rfl⟩ := List.mem_map.1 hu
  rfl
theorem lentF_low {xs : List Nat} {k : Nat} (h : k < xs.length) : (xs ++ mkL 12).getD k 0 = xs.getD k 0 := by
  rw [List.getD_eq_getElem?_getD, List.getD_eq_getElem?_getD, List.getElem?_append_left h]
theorem lentF_high {xs : List Nat} {k : Nat} (h : xs.length ≤ k) (h2 : k < xs.length + 12) : (xs ++ mkL 12).getD k 0 = mkF (k - xs.length) := by
  rw [List.getD_eq_getElem?_getD, List.getElem?_append_right h, ← List.getD_eq_getElem?_getD, mkL_at (by omega)]
theorem sameB_me (a : Nat) : sameB a a = true := by unfold sameB; cases nanB a <;> simp
end Go.Proofs.YtfhejejfeffdcaaDoor
