/- Sums of floats told by what they are, a NaN as none: plain, and the model's operations on them. -/
import Derived.Test.YtclldmdhpojciaaSy
namespace Go.Proofs.Ytclldmdhpojciaa
open Go.RowKit

/-- A float, all NaN as one. -/
def toO (x : Nat) : Option Nat := if nanB x then none else some x
def opO (op : BinOp) (o p : Option Nat) : Option Nat := o.bind fun u => p.bind fun v => floatBits op .f64 u v
theorem toO_NR {x : Nat} (hx : x < 18446744073709551616) : NR (toO x) x := by
  cases h : nanB x
  · have e : toO x = some x := by unfold toO; rw [h]; rfl
    rw [e]; exact ⟨hx, rfl⟩
  · have e : toO x = none := by unfold toO; rw [h]; rfl
    rw [e]; exact ⟨hx, h⟩
theorem opO_NR {op : BinOp} (hop : FourOp op) {o p : Option Nat} {r s : Nat} (hr : NR o r) (hs : NR p s) (w : World) : NR (opO op o p) (opR op r s w) := by
  have h := op_NR (op := op) hop (a := r) (b := s) w
  cases o with
  | none =>
    rw [op_nan (op := op) hop hr.1 hs.1 (Or.inl hr.2)] at h
    exact h
  | some u =>
    cases p with
    | none =>
      rw [op_nan (op := op) hop hr.1 hs.1 (Or.inr hs.2)] at h
      exact h
    | some v =>
      have e1 : r = u := hr.2
      have e2 : s = v := hs.2
      subst e1 e2
      exact h
theorem NR_word {o : Option Nat} {r : Nat} (h : NR o r) : r < 18446744073709551616 := h.1
/-- In order. -/
def naiveO (l : List Nat) : Option Nat := l.foldl (fun o x => opO .add o (toO x)) (some 0)
theorem naive_snoc (l : List Nat) (x : Nat) : naiveO (l ++ [x]) = opO .add (naiveO l) (toO x) := by
  unfold naiveO
  rw [List.foldl_append]
  rfl
/-- Is the size of the first not less? (Of NaN it is not.) -/
def geO (o p : Option Nat) : Bool := match o, p with
  | some u, some v => FloatKind.f64.format.order (rung u) (rung v) == some .gt || FloatKind.f64.format.order (rung u) (rung v) == some .eq
  | _, _ => false
theorem geO_NR {o p : Option Nat} {r s : Nat} (hr : NR o r) (hs : NR p s) : (FloatKind.f64.format.order (rung r) (rung s) == some .gt || FloatKind.f64.format.order (rung r) (rung s) == some .eq) = geO o p := by
  have nanr : ∀ {x : Nat}, nanB x = true → nanB (rung x) = true := by
    intro x h
    unfold nanB at h ⊢
    rw [rung_small (rung_lt x)]
    exact h
  have lr := rung_lt r
  have ls := rung_lt s
  cases o with
  | none =>
    have h : nanB r = true := hr.2
    rw [ord_nan (by omega) (by omega) (Or.inl (nanr h))]
    rfl
  | some u =>
    cases p with
    | none =>
      have h : nanB s = true := hs.2
      rw [ord_nan (by omega) (by omega) (Or.inr (nanr h))]
      rfl
    | some v =>
      have e1 : r = u := hr.2
      have e2 : s = v := hs.2
      rw [e1, e2]
      rfl
/-- With what is lost kept: the sum, and what was lost. -/
def keptS (q : Option Nat × Option Nat) (x : Nat) : Option Nat × Option Nat :=
  let t := opO .add q.1 (toO x)
  (t, if geO q.1 (toO x) then opO .add q.2 (opO .add (opO .sub q.1 t) (toO x)) else opO .add q.2 (opO .add (opO .sub (toO x) t) q.1))
def keptP (l : List Nat) : Option Nat × Option Nat := l.foldl keptS (some 0, some 0)
def keptO (l : List Nat) : Option Nat := opO .add (keptP l).1 (keptP l).2
theorem kept_snoc (l : List Nat) (x : Nat) : keptP (l ++ [x]) = keptS (keptP l) x := by
  unfold keptP
  rw [List.foldl_append]
  rfl
/-- By halves. -/
def pairF : Nat → List Nat → Option Nat
  | 0, _ => some 0
  | _ + 1, [] => some 0
  | _ + 1, [x] => toO x
  | n + 1, l => opO .add (pairF n (l.take (l.length / 2))) (pairF n (l.drop (l.length / 2)))
end Go.Proofs.Ytclldmdhpojciaa
