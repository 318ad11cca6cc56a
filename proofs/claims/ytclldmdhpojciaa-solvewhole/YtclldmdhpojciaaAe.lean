/- Rows of floats that are made: by places, by appending; lists told by what they are. -/
import Derived.Test.YtclldmdhpojciaaAb
import Derived.Test.YtclldmdhpojciaaZl
import Derived.Laws.OwnMore
import Derived.Deep.AppendLies
namespace Go.Proofs.Ytclldmdhpojciaa
open Go.RowKit

theorem Try.infoF : (Try.prog.info? 29).map (fun i => (i.zero, i.size, i.bytes)) = some (some (.float .f64 0), 1, 8) := by kernel_rfl
/-- A new row of floats. -/
def RRow (w : World) (b n : Nat) (f : Nat → Nat) : Prop := w.rowIs b 29 n (fun j => .float .f64 (f j))
theorem RRow.set {w : World} {b n : Nat} {f : Nat → Nat} (h : RRow w b n f) (i v : Nat) : RRow (w.setCell ⟨b, i, none⟩ (.float .f64 v)) b n (fun j => if j = i then v else f j) := by
  have := World.rowIs.set h i (.float .f64 v)
  refine World.rowIs.congr this fun j _ => ?_
  by_cases hj : j = i <;> simp [hj]
theorem RRow.congr {w : World} {b n : Nat} {f g : Nat → Nat} (h : RRow w b n f) (e : ∀ j, j < n → f j = g j) : RRow w b n g := World.rowIs.congr h fun j hj => by rw [e j hj]
theorem RRow.made (w : World) (n : Nat) : RRow (w.alloc (.cells (madeCells #[.float .f64 0] n) 29)) w.heap.size n (fun _ => 0) := World.rowIs_made w (.float .f64 0) n 29
theorem RRow.below {w w' : World} {b n B : Nat} {f : Nat → Nat} (h : RRow w b n f) (hb : Below B w w') (hB : b < B) : RRow w' b n f := World.rowIs.of_block h (hb.block b hB)
theorem RRow.grow {w : World} {b n : Nat} {f : Nat → Nat} {xs : List Nat} (h : RRow w b n f) (hn : xs.length = n) (hx : ∀ j, j < n → xs.getD j 0 = f j) : GRow w (some ⟨b, 0, none⟩) xs := by
  right
  refine ⟨b, 0, rfl, fun j hj => ?_⟩
  have := h.cell (i := j) (by omega)
  rw [Nat.zero_add, this, hx j (by omega)]
/-- The same by appending: floats as values. -/
def fv (xs : List Nat) : List Value := xs.map fun x => .float .f64 x
theorem fv_length (xs : List Nat) : (fv xs).length = xs.length := by simp [fv]
theorem fv_app (xs ys : List Nat) : fv (xs ++ ys) = fv xs ++ fv ys := by unfold fv; rw [List.map_append]
theorem fv_at {xs : List Nat} {j : Nat} (hj : j < xs.length) : (fv xs)[j]? = some (.float .f64 (xs.getD j 0)) := by
  unfold fv
  rw [List.getElem?_map, List.getElem?_eq_getElem hj, getD_at hj]; rfl
theorem owned_grow {w : World} {base : Nat} {t : TypeId} {v : Value} {xs : List Nat} (h : w.ownsRow base t 1 v xs.length (fv xs)) : ∃ ao cap, v = .slice ao xs.length cap ∧ GRow w ao xs ∧ xs.length ≤ cap ∧ Frs base ao := by
  obtain ⟨h1, h2⟩ := h
  rcases h2 with ⟨rfl, hn⟩ | ⟨g, cap, cur, rfl, hg, hh, hc⟩
  · exact ⟨none, 0, by rw [hn], Or.inl hn, by omega, Frs.none _⟩
  · refine ⟨some ⟨g, 0, none⟩, cap, rfl, Or.inr ⟨g, 0, rfl, fun j hj => ?_⟩, hc.1, fun a e => by cases e; exact hg⟩
    have own : w.ownsRow base t 1 (.slice (some ⟨g, 0, none⟩) xs.length cap) xs.length (fv xs) := ⟨h1, Or.inr ⟨g, cap, cur, rfl, hg, hh, hc⟩⟩
    rw [Nat.zero_add, own.cellAt j (by omega), fv_at hj]
theorem own_opW {w : World} {base : Nat} {e : TypeId} {v : Value} {n : Nat} {xs : List Value} (h : w.ownsRow base e 1 v n xs) (op : BinOp) (a b : Nat) : (opW op a b w).ownsRow base e 1 v n xs := by
  unfold opW
  split
  · exact h
  · exact h.drew
theorem opW_heap (op : BinOp) (a b : Nat) (w : World) : (opW op a b w).heap = w.heap := by
  unfold opW
  split <;> rfl
/-- A list of floats that is, place by place, what is told (a NaN as none). -/
def LN (os : List (Option Nat)) (rs : List Nat) : Prop := rs.length = os.length ∧ ∀ i, i < os.length → NR (os.getD i none) (rs.getD i 0)
theorem LN.fw {os : List (Option Nat)} {rs : List Nat} (h : LN os rs) : FW rs := by
  intro x hx
  obtain ⟨i, hi, rfl⟩ := List.getElem_of_mem hx
  have := (h.2 i (by rw [← h.1]; exact hi)).1
  rw [getD_at hi] at this
  exact this
theorem NR_sameB {o : Option Nat} {r s : Nat} (h : NR o r) (g : NR o s) : sameB r s = true := by
  cases o with
  | none =>
    have h1 : nanB r = true := h.2
    have h2 : nanB s = true := g.2
    unfold sameB; rw [h1, h2]; rfl
  | some v =>
    have e1 : r = v := h.2
    have e2 : s = v := g.2
    subst e1 e2
    unfold sameB
    cases nanB s <;> simp
theorem LN.same {os : List (Option Nat)} {rs ss : List Nat} (h : LN os rs) (g : LN os ss) : sameL rs ss = true :=
  sameL_yes (h.1.trans g.1.symm) fun j hj => NR_sameB (h.2 j (by rw [← h.1]; exact hj)) (g.2 j (by rw [← h.1]; exact hj))
/-- The list of what is told of each of n places. -/
def tab (n : Nat) (o : Nat → Option Nat) : List (Option Nat) := (List.range n).map o
theorem tab_len (n : Nat) (o : Nat → Option Nat) : (tab n o).length = n := by simp [tab]
theorem tab_at {n : Nat} {o : Nat → Option Nat} {i : Nat} (h : i < n) : (tab n o).getD i none = o i := by simp [tab, List.getD_eq_getElem?_getD, h]
theorem LN_tab {n : Nat} {o : Nat → Option Nat} {rs : List Nat} (hl : rs.length = n) (h : ∀ i, i < n → NR (o i) (rs.getD i 0)) : LN (tab n o) rs :=
  ⟨by rw [tab_len]; exact hl, fun i hi => by rw [tab_len] at hi; rw [tab_at hi]; exact h i hi⟩
def toL' (n : Nat) (f : Nat → Nat) : List Nat := (List.range n).map f
theorem toL'_len (n : Nat) (f : Nat → Nat) : (toL' n f).length = n := by simp [toL']
theorem toL'_at {n : Nat} {f : Nat → Nat} {i : Nat} (h : i < n) : (toL' n f).getD i 0 = f i := by simp [toL', List.getD_eq_getElem?_getD, h]
/-- A list handed back: what it is, in new memory. -/
def GaveF (w : World) (os : List (Option Nat)) (v : Value) (w' : World) : Prop := ∃ ao cap rs, v = .slice ao rs.length cap ∧ LN os rs ∧ GRow w' ao rs ∧ rs.length ≤ cap ∧ Frs w.heap.size ao ∧ Below w.heap.size w w'
theorem GaveF.nil {w w' : World} (h : Below w.heap.size w w') : GaveF w [] (.slice none 0 0) w' := ⟨none, 0, [], rfl, ⟨rfl, fun i hi => by simp at hi⟩, Or.inl rfl, Nat.le_refl _, Frs.none _, h⟩
theorem GaveF.row {w w' : World} {n : Nat} {f : Nat → Nat} {o : Nat → Option Nat} (h : RRow w' w.heap.size n f) (hN : ∀ i, i < n → NR (o i) (f i)) (hB : Below w.heap.size w w') : GaveF w (tab n o) (.slice (some ⟨w.heap.size, 0, none⟩) n n) w' :=
  ⟨some ⟨w.heap.size, 0, none⟩, n, toL' n f, by rw [toL'_len], LN_tab (toL'_len _ _) (fun i hi => by rw [toL'_at hi]; exact hN i hi), h.grow (toL'_len _ _) (fun j hj => toL'_at hj), by rw [toL'_len]; exact Nat.le_refl _, fun a e => by cases e; exact Nat.le_refl _, hB⟩
theorem GaveF.own {w w' : World} {v : Value} {rs : List Nat} {o : Nat → Option Nat} {n : Nat} {t : TypeId} (h : w'.ownsRow w.heap.size t 1 v rs.length (fv rs)) (hl : rs.length = n) (hN : ∀ i, i < n → NR (o i) (rs.getD i 0)) (hB : Below w.heap.size w w') : GaveF w (tab n o) v w' := by
  obtain ⟨ao, cap, rfl, h1, h2, h3⟩ := owned_grow h
  exact ⟨ao, cap, rs, rfl, LN_tab hl hN, h1, h2, h3, hB⟩
/-- Do two lists go together? -/
def fitN (n k : Nat) : Int := if n = k then (if 4096 < n then 3 else 0) else 4
def ifFit (n k : Nat) (l : List (Option Nat)) : List (Option Nat) := if fitN n k = 0 then l else []
end Go.Proofs.Ytclldmdhpojciaa
