/- Regions that only read and call, drawn or not: every call's contract holds in any later world, the operations lie behind a letter. -/
import Derived.Test.YtmcnnnmlacpppaaDoorRu1
namespace Go.Proofs.YtmcnnnmlacpppaaDoor
open Go.RowKit

/-- A later world. -/
structure LO7 (W : World) where
  val : World
  below : Below W.heap.size W val
theorem quiet_ops {P : Program} {ops : Array Oper} {C : World → Prop} {Q : Act → Prop} {Q' : Exit → Act → World → Prop} (hQ : ∀ a w, C w → Q a → Q' .normal a w) : ∀ (l : List Oper) (k : Nat) (a : Act) (w : World), (∀ j, ops[k + j]? = l[j]?) → C w → wpQuiet P ops C Q l a → wpOps P ops Q' (List.range' k l.length) a w
  | [], _, a, w, _, hC, h => hQ a w hC h
  | o :: rest, k, a, w, hl, hC, h => by
    have ho := hl 0
    simp only [Nat.add_zero, List.getElem?_cons_zero] at ho
    rw [List.length_cons, List.range'_succ, wpOps_cons]
    refine wpOp_of_qOp hC (fun a' w' hC' hK => quiet_ops hQ rest (k + 1) a' w' (fun j => by have := hl (j + 1); simpa [Nat.add_assoc, Nat.add_comm 1 j] using this) hC' hK) ?_
    unfold qOp
    simp only [ho]
    exact h
/-- A region that is not drawn. -/
theorem region_plain7 {P : Program} {id : Nat} {Q : Exit → Act → World → Prop} {a : Act} {w : World} {l : List Oper}
    (h : ∀ O : Array Oper, (∀ j : Nat, O[j]? = l.toArray[j]?) → wpQuiet P O (fun w' => ∃ u : LO7 w, w' = u.val) (fun a' => ∀ w', (∃ u : LO7 w, w' = u.val) → Q .normal a' w') l a) : (Code.region id l.toArray false).wp P Q a w := by
  refine wp_region ?_
  have := quiet_ops (P := P) (ops := l.toArray) (C := fun w' => ∃ u : LO7 w, w' = u.val) (Q := fun a' => ∀ w', (∃ u : LO7 w, w' = u.val) → Q .normal a' w') (Q' := Q) (fun a w hw h => h w hw) l 0 a w (fun j => by simp) ⟨⟨w, Below.refl _ _⟩, rfl⟩ (h _ (fun _ => rfl))
  rw [List.range_eq_range']
  simpa using this
/-- A region that is drawn. -/
theorem region_drawn7 {P : Program} {id : Nat} {Q : Exit → Act → World → Prop} {a : Act} {w : World} {l : List Oper} (hm : P.follows .mixedOrders = true) (hB : Region.lexB .any l.toArray = true)
    (h : ∀ O : Array Oper, (∀ j : Nat, O[j]? = l.toArray[j]?) → wpQuiet P O (fun w' => ∃ u : LO7 w, w' = u.val) (fun a' => ∀ w', (∃ u : LO7 w, w' = u.val) → Q .normal a' w') l a) : (Code.region id l.toArray true).wp P Q a w :=
  wp_region_quiet (C := fun w' => ∃ u : LO7 w, w' = u.val) hm hB ⟨⟨w.drew, (Below.refl _ _).drew⟩, rfl⟩ (h _ (fun _ => rfl))
/-- A region that is not drawn, step by step, the operations behind a letter. -/
theorem region_list7 {P : Program} {id : Nat} {Q : Exit → Act → World → Prop} {a : Act} {w : World} {l : List Oper}
    (h : ∀ O : Array Oper, (∀ j : Nat, O[j]? = l.toArray[j]?) → wpList P O Q l a w) : (Code.region id l.toArray false).wp P Q a w := wp_region_lit (h _ (fun _ => rfl))
theorem later7 {P : Program} {f : Nat} {args : Array Value} {W : World} {u : LO7 W} {v : Value} (h : Calls P f args u.val fun e w' => e = .returned v ∧ Below u.val.heap.size u.val w') : Calls P f args u.val fun e w'' => e = .returned v ∧ ∃ u' : LO7 W, w'' = u'.val :=
  h.mono fun _ w' ⟨he, hb⟩ => ⟨he, ⟨w', u.below.trans (hb.mono u.below.size)⟩, rfl⟩
theorem later7s {P : Program} {f : Nat} {args : Array Value} {W : World} {u : LO7 W} {v : Value} (h : Calls P f args u.val fun e w' => e = .returned v ∧ w' = u.val) : Calls P f args u.val fun e w'' => e = .returned v ∧ ∃ u' : LO7 W, w'' = u'.val :=
  h.mono fun _ _ ⟨he, hb⟩ => ⟨he, u, hb⟩
theorem LO7.cell {W : World} (u : LO7 W) {p : Addr} {v : Value} (h : W.cell? p = some v) : u.val.cell? p = some v := by
  rw [u.below.cell (World.block_lt_of_cell? W _ h)]; exact h
theorem LO7.any (W : World) : Nonempty (LO7 W) := ⟨⟨W, Below.refl _ _⟩⟩
theorem LO7.row {W : World} (u : LO7 W) {ao : Option Addr} {xs : List Nat} (h : LRow W ao xs) : LRow u.val ao xs := h.below u.below
theorem LO7.box {W : World} {b : Nat} {x y z : Value} (h : B3q W b x y z) (u : LO7 W) : u.val.cell? ⟨b, 0, none⟩ = some x ∧ u.val.cell? ⟨b, 1, none⟩ = some y ∧ u.val.cell? ⟨b, 2, none⟩ = some z := ⟨(h.below u.below).c0, (h.below u.below).c1, (h.below u.below).c2⟩
end Go.Proofs.YtmcnnnmlacpppaaDoor
