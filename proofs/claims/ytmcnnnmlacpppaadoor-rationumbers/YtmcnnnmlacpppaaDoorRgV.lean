/- A region that draws its order, loads and calls: each operation's value is known ahead, but one (iv), of which something holds; no order is gone through. -/
import Derived.Test.YtmcnnnmlacpppaaDoorRuA
import Derived.Test.YtmcnnnmlacpppaaDoorMx17
namespace Go.Proofs.YtmcnnnmlacpppaaDoor
open Go.RowKit

theorem on_none {n i : Nat} : ¬ On (Array.replicate n false) i := by
  unfold On
  simp only [Array.getD_eq_getD_getElem?, Array.getElem?_replicate]
  split <;> simp
theorem off_not {L : Array Bool} {i : Nat} (hi : i < L.size) (h : L.getD i true = false) : ¬ On L i := by
  unfold On
  intro h2
  simp [Array.getD, hi] at h h2
  rw [h] at h2
  cases h2
theorem wpOp_of {P : Program} {ops : Array Oper} {Q : Exit → Act → World → Prop} {i : Nat} {a : Act} {w : World} {K' : Act → World → Prop} (h : ∀ K : Act → World → Prop, (∀ a w, K' a w → K a w) → wpOp P ops Q i K a w) : wpOp P ops Q i K' a w := h K' (fun _ _ h => h)
def put9 (v : Nat → Value) (i : Nat) (x : Value) (n : Nat) : Value := if n = i then x else v n
/-- Does operation j wait for k? -/
def waits (ops : Array Oper) (j k : Nat) : Bool := ((ops[j]?).map (fun o => o.after.any fun e => Region.binds .any e && e.on == k)).getD false
/-- What holds while the region is under way. -/
structure RgV (ops : Array Oper) (M : World → Prop) (iv : Nat) (PV : Value → World → Prop) (val : Nat → Value) (L : Array Bool) (w : World) (v : Nat → Value) : Prop where
  m : M w
  d : ∀ j, j ≠ iv → On L j → v j = val j
  p : On L iv → PV (v iv) w
  dc : ∀ j k, On L j → waits ops j k = true → On L k
theorem RgV.start {ops : Array Oper} {M : World → Prop} {iv : Nat} {PV : Value → World → Prop} {val : Nat → Value} {w : World} {v : Nat → Value} {n : Nat} (h : M w) : RgV ops M iv PV val (Array.replicate n false) w v :=
  ⟨h, fun _ _ q => absurd q on_none, fun q => absurd q on_none, fun _ _ q => absurd q on_none⟩
theorem RgV.step {ops : Array Oper} {M : World → Prop} {iv : Nat} {PV : Value → World → Prop} {val : Nat → Value} {L : Array Bool} {w w' : World} {v : Nat → Value} {i : Nat} {u : Value} (hM : ∀ w w', M w → Below w.heap.size w w' → M w') (hP : ∀ u w w', PV u w → Below w.heap.size w w' → PV u w') (h : RgV ops M iv PV val L w v) (hL : L.size = ops.size) (hi : i ∈ Region.ready .any ops L) (hiv : i ≠ iv) (hb : Below w.heap.size w w') (hu : u = val i) :
    RgV ops M iv PV val (L.setIfInBounds i true) w' (put9 v i u) := by
  have hi2 : i < L.size := by rw [hL]; exact (mem_ready hi).1
  have on := fun (j : Nat) (q : j ≠ i) (e : On (L.setIfInBounds i true) j) => ((on_set hi2 j).1 e).resolve_left q
  refine ⟨hM _ _ h.m hb, fun j qa e => ?_, fun e => ?_, fun j k e hw2 => ?_⟩
  · by_cases q : j = i
    · subst q; rw [put9, if_pos rfl]; exact hu
    · rw [put9, if_neg q]; exact h.d j qa (on j q e)
  · rw [put9, if_neg (Ne.symm hiv)]; exact hP _ _ _ (h.p (on _ (Ne.symm hiv) e)) hb
  · rcases (on_set hi2 j).1 e with q | q
    · subst q; exact (on_set hi2 k).2 (Or.inr (ready_dep hi k hw2))
    · exact (on_set hi2 k).2 (Or.inr (h.dc j k q hw2))
theorem RgV.tell {ops : Array Oper} {M : World → Prop} {iv : Nat} {PV : Value → World → Prop} {val : Nat → Value} {L : Array Bool} {w w' : World} {v : Nat → Value} {u : Value} (hM : ∀ w w', M w → Below w.heap.size w w' → M w') (h : RgV ops M iv PV val L w v) (hL : L.size = ops.size) (hi : iv ∈ Region.ready .any ops L) (hb : Below w.heap.size w w') (hu : PV u w') :
    RgV ops M iv PV val (L.setIfInBounds iv true) w' (put9 v iv u) := by
  have hi2 : iv < L.size := by rw [hL]; exact (mem_ready hi).1
  refine ⟨hM _ _ h.m hb, fun j qa e => ?_, fun _ => ?_, fun j k e hw2 => ?_⟩
  · rw [put9, if_neg qa]; exact h.d j qa (((on_set hi2 j).1 e).resolve_left qa)
  · rw [put9, if_pos rfl]; exact hu
  · rcases (on_set hi2 j).1 e with q | q
    · subst q; exact (on_set hi2 k).2 (Or.inr (ready_dep hi k hw2))
    · exact (on_set hi2 k).2 (Or.inr (h.dc j k q hw2))
theorem region_rgV {P : Program} {ops : Array Oper} {Q : Exit → Act → World → Prop} {id : Nat} {a : Act} {w : World} (hm : P.follows .mixedOrders = true) (F : (Nat → Value) → Act) (M : World → Prop) (iv : Nat) (PV : Value → World → Prop) (val : Nat → Value) (v0 : Nat → Value) (h0 : a = F v0) (hM0 : M w.drew)
    (hs : ∀ L v w i, L.size = ops.size → RgV ops M iv PV val L w v → i ∈ Region.ready .any ops L → wpOp P ops Q i (fun a' w' => ∃ v', a' = F v' ∧ RgV ops M iv PV val (L.setIfInBounds i true) w' v') (F v) w)
    (hf : ∀ L v w, L.size = ops.size → RgV ops M iv PV val L w v → Region.ready .any ops L = [] → Q .normal (F v) w) : (Code.region id ops true).wp P Q a w := by
  refine region_inv hm (fun L a w' => ∃ v, a = F v ∧ RgV ops M iv PV val L w' v) ⟨v0, h0, RgV.start hM0⟩ ?_ ?_
  · rintro L a w' i hL ⟨v, rfl, hS⟩ hi
    exact hs L v w' i hL hS hi
  · rintro L a w' hL ⟨v, rfl, hS⟩ hr
    exact hf L v w' hL hS hr
end Go.Proofs.YtmcnnnmlacpppaaDoor
