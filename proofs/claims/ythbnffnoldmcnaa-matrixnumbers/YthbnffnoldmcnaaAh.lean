/- What the document's Axpy, Add, Sub and Scale answer: lists that grow by appending. -/
import Derived.Test.YthbnffnoldmcnaaAg
import Derived.Deep.RegionLaw
namespace Go.Proofs.Ythbnffnoldmcnaa
open Go.RowKit

/-- append to a row of the call's own, as one step of a region that draws its order. -/
theorem step_own {P : Program} {ops : Array Oper} {o : Oper} {a : Act} {w : World} {K : Act → World → Prop} {Q : Exit → Act → World → Prop} {E : Prop}
    (hg : o.guard = none) (s x : Operand) (t : TypeId) (ho : o.op = .call { callee := .builtin .append, args := #[s, x], argTypes := #[t, t] })
    (base : Nat) (e : TypeId) (i : TypeInfo) (z : Value) (size bytes : Nat) (ht : P.underlying t = some (.slice e)) (hi : P.info? e = some i) (hz : i.zero = some z)
    (hsize : i.size = size) (hby : i.bytes = bytes) (hzs : z.cells.size = size) (hsz : 0 < size)
    (v : Value) (n : Nat) (xs : List Value) (hs : a.eval s = v) (hown : w.ownsRow base e size v n xs)
    (ad : Addr) (m c : Nat) (news : List Value) (hx : a.eval x = .slice (some ad) m c) (hl : news.length = m * size) (hnews : ∀ j u, news[j]? = some u → w.cell? (ad.add j) = some u) (h1 : ∀ u ∈ news, u.oneCell' = true)
    (h63 : n + m ≤ maxLen) (hbytes : (n + m) * bytes ≤ 140737488355328) (hbase : base ≤ w.heap.size)
    (h : ∀ v' w', w'.ownsRow base e size v' (n + m) (xs ++ news) → w.grownBy w' v.ownBlock → (v' = .slice none 0 0 ↔ v = .slice none 0 0 ∧ m = 0) → K (a.put o.dst v') w') :
    if Region.wanted o (yielded ops a.tmps) = true then Oper.wp P o a w K Q else E := by
  have hw : Region.wanted o (yielded ops a.tmps) = true := by simp [Region.wanted, hg]
  rw [if_pos hw]
  exact wp_append_own w s x t ho base e i z size bytes ht hi hz hsize hby hzs hsz v n xs hs hown ad m c news hx hl hnews h1 h63 hbytes hbase h
theorem fv_snoc (rs : List Nat) (r : Nat) : fv (rs ++ [r]) = fv rs ++ [.float .f64 r] := by rw [fv_app]; rfl
theorem NR_snoc {o : Nat → Option Nat} {rs : List Nat} {k r : Nat} (hl : rs.length = k) (h : ∀ j, j < k → NR (o j) (rs.getD j 0)) (hr : NR (o k) r) : (rs ++ [r]).length = k + 1 ∧ ∀ j, j < k + 1 → NR (o j) ((rs ++ [r]).getD j 0) := by
  refine ⟨by simp [hl], fun j hj => ?_⟩
  by_cases e : j = k
  · subst e; subst hl
    rw [List.getD_eq_getElem?_getD, List.getElem?_append_right (Nat.le_refl _), Nat.sub_self]
    exact hr
  · have e2 : (rs ++ [r]).getD j 0 = rs.getD j 0 := by rw [List.getD_eq_getElem?_getD, List.getD_eq_getElem?_getD, List.getElem?_append_left (by omega)]
    rw [e2]
    exact h j (by omega)
theorem opW_size (op : BinOp) (a b : Nat) (w : World) : (opW op a b w).heap.size = w.heap.size := by rw [opW_heap]
end Go.Proofs.Ythbnffnoldmcnaa
