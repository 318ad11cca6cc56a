/- A region that draws its order, loads, makes boxes of two cells and fills them: no order is gone through. -/
import Derived.Orders
import Derived.RowKit
import Derived.Below
import Derived.Test.YtfipmopmpacdaaaGreatDoorZK
namespace Go.Proofs.YtfipmopmpacdaaaGreatDoor
open Go.RowKit
def On (L : Array Bool) (i : Nat) : Prop := L.getD i false = true
theorem on_set {L : Array Bool} {i : Nat} (hi : i < L.size) (j : Nat) : On (L.setIfInBounds i true) j ↔ j = i ∨ On L j := by
 unfold On
 simp only [Array.getD_eq_getD_getElem?, Array.getElem?_setIfInBounds]
 by_cases h : i = j
 ·subst h; simp [hi]
 ·have h2 : ¬ j = i := fun e => h e.symm
  simp [h, h2]
def lacks (L : Array Bool) : Nat := L.toList.count false
theorem count_set : ∀ (l : List Bool) (i : Nat) (hi : i < l.length), l[i] = false → (l.set i true).count false + 1 = l.count false
 | [], _, hi, _ => by simp at hi
 | x :: l, 0, _, h => by
  have h : x = false := h
  subst h
  simp
 | x :: l, i + 1, hi, h => by
  have := count_set l i (by simpa using hi) (by simpa using h)
  simp only [List.set_cons_succ, List.count_cons]
  omega
theorem lacks_set {L : Array Bool} {i : Nat} (hi : i < L.size) (h : L.getD i true = false) : lacks (L.setIfInBounds i true) + 1 = lacks L := by
 unfold lacks
 obtain ⟨l⟩ := L
 have hi : i < l.length := hi
 have h' : l[i] = false := by simpa [Array.getD, hi] using h
 have := count_set l i hi h'
 simpa using this
theorem all_on {L : Array Bool} (h : lacks L = 0) (i : Nat) : L.getD i true = true := by
 unfold lacks at h
 rw [List.count_eq_zero] at h
 obtain ⟨l⟩ := L
 by_cases hi : i < l.length
 ·have hm : l[i] ∈ l := List.getElem_mem hi
  cases hl : l[i]
  ·rw [hl] at hm; exact absurd hm h
  ·simp [Array.getD, hi, hl]
 ·simp [Array.getD, hi]
theorem mem_ready {ops : Array Oper} {L : Array Bool} {i : Nat} (h : i ∈ Region.ready .any ops L) : i < ops.size ∧ L.getD i true = false ∧ ∀ o, ops[i]? = some o → ∀ e ∈ o.after, Region.binds .any e = true → On L e.on := by
 unfold Region.ready at h
 rw [List.mem_filter, List.mem_range] at h
 obtain ⟨h1, h2⟩ := h
 simp only [Bool.and_eq_true, Bool.not_eq_true'] at h2
 refine ⟨h1, h2.1, fun o ho e he hb => ?_⟩
 have h3 := h2.2
 rw [ho] at h3
 simp only [Option.map_some, Option.getD_some, Array.all_eq_true_iff_forall_mem] at h3
 have := h3 e he
 rw [hb] at this
 simpa [On] using this
theorem ready_dep {ops : Array Oper} {L : Array Bool} {i : Nat} (h : i ∈ Region.ready .any ops L) (k : Nat) (hk : ((ops[i]?).map (fun o => o.after.any fun e => Region.binds .any e && e.on == k)).getD false = true) : On L k := by
 obtain ⟨h1, _, h3⟩ := mem_ready h
 cases ho : ops[i]? with
 | none => rw [ho] at hk; cases hk
 | some o =>
  rw [ho] at hk
  simp only [Option.map_some, Option.getD_some] at hk
  have hk2 : ∃ e, e ∈ o.after ∧ (Region.binds .any e && e.on == k) = true := by
   rw [← Array.any_toList] at hk
   obtain ⟨e, he, hb⟩ := List.any_eq_true.1 hk
   exact ⟨e, by simpa using he, hb⟩
  obtain ⟨e, he, hb⟩ := hk2
  simp only [Bool.and_eq_true, beq_iff_eq] at hb
  rw [← hb.2]
  exact h3 o ho e he hb.1
theorem all_done {ops : Array Oper} {L : Array Bool} (hL : L.size = ops.size) (h : Region.ready .any ops L = []) (hk : ((List.range ops.size).all fun i => ((ops[i]?).map (fun o => o.after.all fun e => !Region.binds .any e || decide (e.on < i))).getD true) = true) : ∀ i, i < ops.size → On L i := by
 intro i
 induction i using Nat.strongRecOn with
 | _ i ih =>
  intro hi
  by_cases hn : On L i
  ·exact hn
  ·exfalso
   have hm : i ∈ Region.ready .any ops L := by
    unfold Region.ready
    rw [List.mem_filter, List.mem_range]
    refine ⟨hi, ?_⟩
    simp only [Bool.and_eq_true, Bool.not_eq_true']
    constructor
    ·unfold On at hn
     simp [Array.getD, hL, hi] at hn ⊢
     exact hn
    ·rw [Array.getElem?_eq_getElem hi]
     simp only [Option.map_some, Option.getD_some]
     rw [Array.all_eq_true_iff_forall_mem]
     intro e he
     have h1 := List.all_eq_true.1 hk i (List.mem_range.2 hi)
     rw [Array.getElem?_eq_getElem hi] at h1
     simp only [Option.map_some, Option.getD_some] at h1
     have h2 := Array.all_eq_true_iff_forall_mem.1 h1 e he
     simp only [Bool.or_eq_true, Bool.not_eq_true', decide_eq_true_eq] at h2 ⊢
     rcases h2 with h2 | h2
     ·exact Or.inl h2
     ·exact Or.inr (ih e.on h2 (by omega))
   rw [h] at hm
   cases hm
theorem wpAny_inv {P : Program} {ops : Array Oper} {Q : Exit → Act → World → Prop} (Inv : Array Bool → Act → World → Prop)
  (hs : ∀ L a w i, L.size = ops.size → Inv L a w → i ∈ Region.ready .any ops L → wpOp P ops Q i (Inv (L.setIfInBounds i true)) a w)
  (hf : ∀ L a w, L.size = ops.size → Inv L a w → Region.ready .any ops L = [] → Q .normal a w) :
  ∀ fuel L a w, L.size = ops.size → lacks L ≤ fuel → Inv L a w → wpAny P .any ops Q fuel L a w := by
 intro fuel
 induction fuel with
 | zero =>
  intro L a w hL hc hI
  have hr : Region.ready .any ops L = [] := by
   rw [List.eq_nil_iff_forall_not_mem]
   intro i hi
   have h := (mem_ready hi).2.1
   rw [all_on (by omega) i] at h
   cases h
  exact ⟨hr, hf L a w hL hI hr⟩
 | succ fuel ih =>
  intro L a w hL hc hI
  refine ⟨hf L a w hL hI, fun i hi => ?_⟩
  obtain ⟨h1, h2, _⟩ := mem_ready hi
  refine wpOp_mono (fun a' w' h' => ih _ a' w' (by simp [hL]) ?_ h') (hs L a w i hL hI hi)
  have := lacks_set (by rw [hL]; exact h1) h2
  omega
theorem region_inv {P : Program} {ops : Array Oper} {Q : Exit → Act → World → Prop} {id : Nat} {a : Act} {w : World} (hm : P.follows .mixedOrders = true) (Inv : Array Bool → Act → World → Prop)
  (h0 : Inv (Array.replicate ops.size false) a w.drew)
  (hs : ∀ L a w i, L.size = ops.size → Inv L a w → i ∈ Region.ready .any ops L → wpOp P ops Q i (Inv (L.setIfInBounds i true)) a w)
  (hf : ∀ L a w, L.size = ops.size → Inv L a w → Region.ready .any ops L = [] → Q .normal a w) : (Code.region id ops true).wp P Q a w :=
 wp_region_any hm (wpAny_inv Inv hs hf ops.size _ _ _ (by simp) (by unfold lacks; simp) h0)
theorem onT_none {n i : Nat} : ¬ On (Array.replicate n false) i := by
 unfold On
 simp only [Array.getD_eq_getD_getElem?, Array.getElem?_replicate]
 split <;> simp
theorem offT_not {L : Array Bool} {i : Nat} (hi : i < L.size) (h : L.getD i true = false) : ¬ On L i := by
 unfold On
 intro h2
 simp [Array.getD, hi] at h h2
 rw [h] at h2
 cases h2
theorem onT_over {L : Array Bool} {k : Nat} (h : L.size ≤ k) : ¬ On L k := by
 unfold On
 simp [Array.getD, Nat.not_lt.2 h]
theorem wpOpT_of {P : Program} {ops : Array Oper} {Q : Exit → Act → World → Prop} {i : Nat} {a : Act} {w : World} {K' : Act → World → Prop} (h : ∀ K : Act → World → Prop, (∀ a w, K' a w → K a w) → wpOp P ops Q i K a w) : wpOp P ops Q i K' a w := h K' (fun _ _ h => h)
def putT (v : Nat → Value) (i : Nat) (x : Value) (n : Nat) : Value := if n = i then x else v n
def waitsT (ops : Array Oper) (j k : Nat) : Bool := ((ops[j]?).map (fun o => o.after.any fun e => Region.binds .any e && e.on == k)).getD false
section
variable {n : Nat} {ops : Array Oper} {W : World} {is : Nat} {pre : Nat → Bool} {F : Nat → World → Value → Prop} {K : Nat → Value → Prop} {Z : World → Prop} {L : Array Bool} {w : World} {v : Nat → Value}
end
inductive Lz where
 | is (x : Value)
 | tr
 | gn (P : World → Value → Prop) (h : ∀ w w' v, P w v → Below w.heap.size w w' → P w' v)
def Lz.holds : Lz → World → Value → Prop
 | .is x, _, v => v = x
 | .tr, _, _ => True
 | .gn P _, w, v => P w v
theorem Lz.mono (f : Nat → Lz) : ∀ j w w' v, (f j).holds w v → Below w.heap.size w w' → (f j).holds w' v := fun j w w' v h hb => by
 generalize f j = l at *
 cases l with
 | is x => exact h
 | tr => exact h
 | gn P hp => exact hp _ _ _ h hb
theorem Lz.ofIs {f : Nat → Lz} {j : Nat} {w : World} {v x : Value} (h : (f j).holds w v) (e : f j = .is x) : v = x := by rw [e] at h; exact h
theorem Lz.ofGn {f : Nat → Lz} {j : Nat} {w : World} {v : Value} {P : World → Value → Prop} {hp : ∀ w w' v, P w v → Below w.heap.size w w' → P w' v} (h : (f j).holds w v) (e : f j = .gn P hp) : P w v := by rw [e] at h; exact h
theorem Lz.toIs {f : Nat → Lz} {j : Nat} {w : World} {x : Value} (e : f j = .is x) : (f j).holds w x := by rw [e]; exact rfl
theorem Lz.toGn {f : Nat → Lz} {j : Nat} {w : World} {v : Value} {P : World → Value → Prop} {hp : ∀ w w' v, P w v → Below w.heap.size w w' → P w' v} (e : f j = .gn P hp) (h : P w v) : (f j).holds w v := by rw [e]; exact h
def Lz.free : Lz → Value → Prop
 | .is x, v => v = x
 | _, _ => True
theorem Lz.freeOf {l : Lz} {w : World} {v : Value} (h : l.holds w v) : l.free v := by
 cases l with
 | is x => exact h
 | tr => trivial
 | gn P hp => trivial
theorem Lz.ofFree {f : Nat → Lz} {j : Nat} {v x : Value} (h : (f j).free v) (e : f j = .is x) : v = x := by rw [e] at h; exact h
theorem Lz.toFree {f : Nat → Lz} {j : Nat} {x : Value} (e : f j = .is x) : (f j).free x := by rw [e]; exact rfl
structure RgU (n : Nat) (W : World) (is : Nat) (pre : Nat → Bool) (FL : Nat → Lz) (Z : World → Prop) (L : Array Bool) (w : World) (v : Nat → Value) : Prop where
 a : ¬ On L is → Below W.heap.size W w
 f : ¬ On L is → ∀ j, pre j = true → On L j → (FL j).holds w (v j)
 k : ∀ j, j ≠ is → On L j → (FL j).free (v j)
 z : On L is → Z w
 al : On L is → ∀ j, pre j = true → j < n → On L j
section
variable {n : Nat} {ops : Array Oper} {W : World} {is : Nat} {pre : Nat → Bool} {FL : Nat → Lz} {Z : World → Prop} {L : Array Bool} {w : World} {v : Nat → Value}
theorem RgU.start {m : Nat} (h : Below W.heap.size W w) : RgU n W is pre FL Z (Array.replicate m false) w v :=
 ⟨fun _ => h, fun _ _ _ q => absurd q onT_none, fun _ _ q => absurd q onT_none, fun q => absurd q onT_none, fun q => absurd q onT_none⟩
theorem RgU.open {i : Nat} (h : RgU ops.size W is pre FL Z L w v) (hL : L.size = ops.size) (hi : i ∈ Region.ready .any ops L) (hp : pre i = true) : ¬ On L is := by
 obtain ⟨h1, h2, _⟩ := mem_ready hi
 exact fun q => offT_not (by rw [hL]; exact h1) h2 (h.al q i hp h1)
theorem RgU.step {i : Nat} {u : Value} {w' : World} (h : RgU ops.size W is pre FL Z L w v) (hL : L.size = ops.size) (hi : i ∈ Region.ready .any ops L) (hp : pre i = true) (hne : i ≠ is) (hb : Below w.heap.size w w') (hu : (FL i).holds w' u) :
  RgU ops.size W is pre FL Z (L.setIfInBounds i true) w' (putT v i u) := by
 have hi2 : i < L.size := by rw [hL]; exact (mem_ready hi).1
 have on := fun (j : Nat) (q : j ≠ i) (e : On (L.setIfInBounds i true) j) => ((on_set hi2 j).1 e).resolve_left q
 have hns := h.open hL hi hp
 have a1 := h.a hns
 refine ⟨fun _ => a1.trans (hb.mono a1.size), fun _ j hj e => ?_, fun j hj e => ?_, fun e => absurd (on is (Ne.symm hne) e) hns, fun e => absurd (on is (Ne.symm hne) e) hns⟩
 ·by_cases q : j = i
  ·subst q; rw [putT, if_pos rfl]; exact hu
  ·rw [putT, if_neg q]; exact Lz.mono FL _ _ _ _ (h.f hns j hj (on j q e)) hb
 ·by_cases q : j = i
  ·subst q; rw [putT, if_pos rfl]; exact Lz.freeOf hu
  ·rw [putT, if_neg q]; exact h.k j hj (on j q e)
theorem RgU.late {i : Nat} {u : Value} (h : RgU ops.size W is pre FL Z L w v) (hL : L.size = ops.size) (hi : i ∈ Region.ready .any ops L) (hp : pre i = false) (hne : i ≠ is) (hu : (FL i).free u) :
  RgU ops.size W is pre FL Z (L.setIfInBounds i true) w (putT v i u) := by
 have hi2 : i < L.size := by rw [hL]; exact (mem_ready hi).1
 have on := fun (j : Nat) (q : j ≠ i) (e : On (L.setIfInBounds i true) j) => ((on_set hi2 j).1 e).resolve_left q
 have bac : ¬ On (L.setIfInBounds i true) is → ¬ On L is := fun q e => q ((on_set hi2 is).2 (Or.inr e))
 refine ⟨fun q => h.a (bac q), fun q j hj e => ?_, fun j hj e => ?_, fun e => h.z (on is (Ne.symm hne) e), fun e j hj hl => (on_set hi2 j).2 (Or.inr (h.al (on is (Ne.symm hne) e) j hj hl))⟩
 ·have r : j ≠ i := fun r => by rw [r, hp] at hj; cases hj
  rw [putT, if_neg r]; exact h.f (bac q) j hj (on j r e)
 ·by_cases r : j = i
  ·subst r; rw [putT, if_pos rfl]; exact hu
  ·rw [putT, if_neg r]; exact h.k j hj (on j r e)
theorem RgU.last {u : Value} {w' : World} (h : RgU ops.size W is pre FL Z L w v) (hL : L.size = ops.size) (hi : is ∈ Region.ready .any ops L) (hall : ((List.range ops.size).all fun j => !pre j || waitsT ops is j) = true) (hz : Z w') :
  RgU ops.size W is pre FL Z (L.setIfInBounds is true) w' (putT v is u) := by
 have hi2 : is < L.size := by rw [hL]; exact (mem_ready hi).1
 refine ⟨fun q => absurd ((on_set hi2 is).2 (Or.inl rfl)) q, fun q => absurd ((on_set hi2 is).2 (Or.inl rfl)) q, fun j hj e => ?_, fun _ => hz, fun _ j hj hl => ?_⟩
 ·rw [putT, if_neg hj]; exact h.k j hj (((on_set hi2 j).1 e).resolve_left hj)
 ·have := List.all_eq_true.1 hall j (List.mem_range.2 hl)
  simp only [hj, Bool.not_true, Bool.false_or] at this
  exact (on_set hi2 j).2 (Or.inr (ready_dep hi j this))
theorem region_rgU {Pr : Program} {Q : Exit → Act → World → Prop} {id : Nat} {a : Act} (hm : Pr.follows .mixedOrders = true) (G : (Nat → Value) → Act) (is : Nat) (pre : Nat → Bool) (FL : Nat → Lz) (Z : World → Prop) (v0 : Nat → Value) (h0 : a = G v0)
  (hs : ∀ L v w i, L.size = ops.size → RgU ops.size W is pre FL Z L w v → i ∈ Region.ready .any ops L → wpOp Pr ops Q i (fun a' w' => ∃ v', a' = G v' ∧ RgU ops.size W is pre FL Z (L.setIfInBounds i true) w' v') (G v) w)
  (hf : ∀ L v w, L.size = ops.size → RgU ops.size W is pre FL Z L w v → Region.ready .any ops L = [] → Q .normal (G v) w) : (Code.region id ops true).wp Pr Q a W := by
 refine region_inv hm (fun L a w' => ∃ v, a = G v ∧ RgU ops.size W is pre FL Z L w' v) ⟨v0, h0, RgU.start (Below.refl _ _).drew⟩ ?_ ?_
 ·rintro L a w' i hL ⟨v, rfl, hS⟩ hi
  exact hs L v w' i hL hS hi
 ·rintro L a w' hL ⟨v, rfl, hS⟩ hr
  exact hf L v w' hL hS hr
end
structure RgY (n : Nat) (W : World) (is : Nat) (FL : Nat → Lz) (Z : World → (Nat → Value) → Prop) (L : Array Bool) (w : World) (v : Nat → Value) : Prop where
 a : ¬ On L is → Below W.heap.size W w
 f : ¬ On L is → ∀ j, On L j → (FL j).holds w (v j)
 z : On L is → Z w v
 al : On L is → ∀ j, j < n → On L j
section
variable {n : Nat} {ops : Array Oper} {W : World} {is : Nat} {FL : Nat → Lz} {Z : World → (Nat → Value) → Prop} {L : Array Bool} {w : World} {v : Nat → Value}
theorem RgY.start {m : Nat} (h : Below W.heap.size W w) : RgY n W is FL Z (Array.replicate m false) w v :=
 ⟨fun _ => h, fun _ _ q => absurd q onT_none, fun q => absurd q onT_none, fun q => absurd q onT_none⟩
theorem RgY.open {i : Nat} (h : RgY ops.size W is FL Z L w v) (hL : L.size = ops.size) (hi : i ∈ Region.ready .any ops L) : ¬ On L is := by
 obtain ⟨h1, h2, _⟩ := mem_ready hi
 exact fun q => offT_not (by rw [hL]; exact h1) h2 (h.al q i h1)
theorem RgY.step {i : Nat} {u : Value} {w' : World} (h : RgY ops.size W is FL Z L w v) (hL : L.size = ops.size) (hi : i ∈ Region.ready .any ops L) (hne : i ≠ is) (hb : Below w.heap.size w w') (hu : (FL i).holds w' u) :
  RgY ops.size W is FL Z (L.setIfInBounds i true) w' (putT v i u) := by
 have hi2 : i < L.size := by rw [hL]; exact (mem_ready hi).1
 have on := fun (j : Nat) (q : j ≠ i) (e : On (L.setIfInBounds i true) j) => ((on_set hi2 j).1 e).resolve_left q
 have hns := h.open hL hi
 have a1 := h.a hns
 refine ⟨fun _ => a1.trans (hb.mono a1.size), fun _ j e => ?_, fun e => absurd (on is (Ne.symm hne) e) hns, fun e => absurd (on is (Ne.symm hne) e) hns⟩
 by_cases q : j = i
 ·subst q; rw [putT, if_pos rfl]; exact hu
 ·rw [putT, if_neg q]; exact Lz.mono FL _ _ _ _ (h.f hns j (on j q e)) hb
theorem RgY.last {u : Value} {w' : World} (_ : RgY ops.size W is FL Z L w v) (hL : L.size = ops.size) (hi : is ∈ Region.ready .any ops L) (hall : ∀ j, j < ops.size → j ≠ is → On L j) (hz : Z w' (putT v is u)) :
  RgY ops.size W is FL Z (L.setIfInBounds is true) w' (putT v is u) := by
 have hi2 : is < L.size := by rw [hL]; exact (mem_ready hi).1
 refine ⟨fun q => absurd ((on_set hi2 is).2 (Or.inl rfl)) q, fun q => absurd ((on_set hi2 is).2 (Or.inl rfl)) q, fun _ => hz, fun _ j hl => ?_⟩
 by_cases q : j = is
 ·exact (on_set hi2 j).2 (Or.inl q)
 ·exact (on_set hi2 j).2 (Or.inr (hall j hl q))
structure DcY (ops : Array Oper) (L : Array Bool) : Prop where
 dc : ∀ j k, On L j → waitsT ops j k = true → On L k
def reachY (ops : Array Oper) : Nat → Nat → Nat → Bool
 | 0, i, j => waitsT ops i j
 | d + 1, i, j => waitsT ops i j || (List.range ops.size).any fun k => waitsT ops i k && reachY ops d k j
theorem reachY_on (hD : DcY ops L) : ∀ d i j, On L i → reachY ops d i j = true → On L j
 | 0, i, j, h, e => hD.dc i j h e
 | d + 1, i, j, h, e => by
  simp only [reachY, Bool.or_eq_true, List.any_eq_true, Bool.and_eq_true] at e
  rcases e with e | ⟨k, _, e1, e2⟩
  ·exact hD.dc i j h e
  ·exact reachY_on hD d k j (hD.dc i k h e1) e2
theorem reachY_ready (hD : DcY ops L) {i : Nat} (hi : i ∈ Region.ready .any ops L) : ∀ d j, reachY ops d i j = true → On L j
 | 0, j, e => ready_dep hi j e
 | d + 1, j, e => by
  simp only [reachY, Bool.or_eq_true, List.any_eq_true, Bool.and_eq_true] at e
  rcases e with e | ⟨k, _, e1, e2⟩
  ·exact ready_dep hi j e
  ·exact reachY_on hD d k j (ready_dep hi k e1) e2
theorem allY (hD : DcY ops L) {i : Nat} (hi : i ∈ Region.ready .any ops L) (h : ((List.range ops.size).all fun j => j == i || reachY ops 7 i j) = true) : ∀ j, j < ops.size → j ≠ i → On L j := by
 intro j hj hne
 have := List.all_eq_true.1 h j (List.mem_range.2 hj)
 simp only [Bool.or_eq_true, beq_iff_eq] at this
 exact reachY_ready hD hi 7 j (this.resolve_left hne)
theorem region_rgY {Pr : Program} {Q : Exit → Act → World → Prop} {id : Nat} {a : Act} (hm : Pr.follows .mixedOrders = true) (G : (Nat → Value) → Act) (is : Nat) (FL : Nat → Lz) (Z : World → (Nat → Value) → Prop) (v0 : Nat → Value) (h0 : a = G v0)
  (hs : ∀ L v w i, L.size = ops.size → RgY ops.size W is FL Z L w v → DcY ops L → i ∈ Region.ready .any ops L → wpOp Pr ops Q i (fun a' w' => ∃ v', a' = G v' ∧ RgY ops.size W is FL Z (L.setIfInBounds i true) w' v') (G v) w)
  (hf : ∀ L v w, L.size = ops.size → RgY ops.size W is FL Z L w v → Region.ready .any ops L = [] → Q .normal (G v) w) : (Code.region id ops true).wp Pr Q a W := by
 refine region_inv hm (fun L a w' => (∃ v, a = G v ∧ RgY ops.size W is FL Z L w' v) ∧ DcY ops L) ⟨⟨v0, h0, RgY.start (Below.refl _ _).drew⟩, ⟨fun _ _ q => absurd q onT_none⟩⟩ ?_ ?_
 ·rintro L a w' i hL ⟨⟨v, rfl, hS⟩, hD⟩ hi
  have hi2 : i < L.size := by rw [hL]; exact (mem_ready hi).1
  have hD' : DcY ops (L.setIfInBounds i true) := ⟨fun j k e hw => by
   rcases (on_set hi2 j).1 e with q | q
   ·subst q; exact (on_set hi2 k).2 (Or.inr (ready_dep hi k hw))
   ·exact (on_set hi2 k).2 (Or.inr (hD.dc j k q hw))⟩
  exact wpOp_mono (fun a w h => ⟨h, hD'⟩) (hs L v w' i hL hS hD hi)
 ·rintro L a w' hL ⟨⟨v, rfl, hS⟩, _⟩ hr
  exact hf L v w' hL hS hr
end
structure RgZ (ops : Array Oper) (W : World) (is iz : Nat) (pre : Nat → Bool) (FL : Nat → Lz) (Z1 Z2 : World → (Nat → Value) → Prop) (L : Array Bool) (w : World) (v : Nat → Value) : Prop where
 a : ¬ On L is → Below W.heap.size W w
 f : ¬ On L is → ∀ j, pre j = true → On L j → (FL j).holds w (v j)
 k : ∀ j, pre j = false → j ≠ is → j ≠ iz → On L j → (FL j).free (v j)
 z1 : On L is → ¬ On L iz → Z1 w v
 z2 : On L iz → Z2 w v
 al : On L is → ∀ j, pre j = true → j < ops.size → On L j
 ord : On L iz → On L is
 dc : ∀ j k, On L j → waitsT ops j k = true → On L k
section
variable {ops : Array Oper} {W : World} {is iz : Nat} {pre : Nat → Bool} {FL : Nat → Lz} {Z1 Z2 : World → (Nat → Value) → Prop} {L : Array Bool} {w : World} {v : Nat → Value}
theorem setZ_dc {i j k : Nat} (hdc : ∀ j k, On L j → waitsT ops j k = true → On L k) (hi2 : i < L.size) (hi : i ∈ Region.ready .any ops L) (e : On (L.setIfInBounds i true) j) (hw : waitsT ops j k = true) : On (L.setIfInBounds i true) k := by
 rcases (on_set hi2 j).1 e with q | q
 ·subst q; exact (on_set hi2 k).2 (Or.inr (ready_dep hi k hw))
 ·exact (on_set hi2 k).2 (Or.inr (hdc j k q hw))
theorem RgZ.start {m : Nat} (h : Below W.heap.size W w) : RgZ ops W is iz pre FL Z1 Z2 (Array.replicate m false) w v :=
 ⟨fun _ => h, fun _ _ _ q => absurd q onT_none, fun _ _ _ _ q => absurd q onT_none, fun q => absurd q onT_none, fun q => absurd q onT_none, fun q => absurd q onT_none, fun q => absurd q onT_none, fun _ _ q => absurd q onT_none⟩
theorem RgZ.open {i : Nat} (h : RgZ ops W is iz pre FL Z1 Z2 L w v) (hL : L.size = ops.size) (hi : i ∈ Region.ready .any ops L) (hp : pre i = true) : ¬ On L is := by
 obtain ⟨h1, h2, _⟩ := mem_ready hi
 exact fun q => offT_not (by rw [hL]; exact h1) h2 (h.al q i hp h1)
theorem RgZ.step {i : Nat} {u : Value} {w' : World} (h : RgZ ops W is iz pre FL Z1 Z2 L w v) (hL : L.size = ops.size) (hi : i ∈ Region.ready .any ops L) (hp : pre i = true) (hne : i ≠ is) (hnz : i ≠ iz) (hb : Below w.heap.size w w') (hu : (FL i).holds w' u) :
  RgZ ops W is iz pre FL Z1 Z2 (L.setIfInBounds i true) w' (putT v i u) := by
 have hi2 : i < L.size := by rw [hL]; exact (mem_ready hi).1
 have on := fun (j : Nat) (q : j ≠ i) (e : On (L.setIfInBounds i true) j) => ((on_set hi2 j).1 e).resolve_left q
 have hns := h.open hL hi hp
 have hnz' : ¬ On L iz := fun q => hns (h.ord q)
 have a1 := h.a hns
 refine ⟨fun _ => a1.trans (hb.mono a1.size), fun _ j hj e => ?_, fun j hj h1 h2 e => ?_, fun e => absurd (on is (Ne.symm hne) e) hns, fun e => absurd (on iz (Ne.symm hnz) e) hnz', fun e => absurd (on is (Ne.symm hne) e) hns, fun e => absurd (on iz (Ne.symm hnz) e) hnz', fun j k e hw2 => setZ_dc h.dc hi2 hi e hw2⟩
 ·by_cases q : j = i
  ·subst q; rw [putT, if_pos rfl]; exact hu
  ·rw [putT, if_neg q]; exact Lz.mono FL _ _ _ _ (h.f hns j hj (on j q e)) hb
 ·have q : j ≠ i := fun q => by rw [q, hp] at hj; cases hj
  rw [putT, if_neg q]; exact h.k j hj h1 h2 (on j q e)
theorem RgZ.late {i : Nat} {u : Value} (h : RgZ ops W is iz pre FL Z1 Z2 L w v) (hL : L.size = ops.size) (hi : i ∈ Region.ready .any ops L) (hp : pre i = false) (hne : i ≠ is) (hnz : i ≠ iz) (hw : waitsT ops iz i = true) (hz : Z1 w v → Z1 w (putT v i u)) (hu : (FL i).free u) :
  RgZ ops W is iz pre FL Z1 Z2 (L.setIfInBounds i true) w (putT v i u) := by
 have hi2 : i < L.size := by rw [hL]; exact (mem_ready hi).1
 have on := fun (j : Nat) (q : j ≠ i) (e : On (L.setIfInBounds i true) j) => ((on_set hi2 j).1 e).resolve_left q
 have up := fun (j : Nat) (e : On L j) => (on_set hi2 j).2 (Or.inr e)
 have hno : ¬ On L i := offT_not hi2 (mem_ready hi).2.1
 have hnz' : ¬ On L iz := fun q => hno (h.dc iz i q hw)
 refine ⟨fun q => h.a fun e => q (up is e), fun q j hj e => ?_, fun j hj h1 h2 e => ?_, fun e q => hz (h.z1 (on is (Ne.symm hne) e) fun e2 => q (up iz e2)), fun e => absurd (on iz (Ne.symm hnz) e) hnz', fun e j hj hl => up j (h.al (on is (Ne.symm hne) e) j hj hl), fun e => absurd (on iz (Ne.symm hnz) e) hnz', fun j k e hw2 => setZ_dc h.dc hi2 hi e hw2⟩
 ·have r : j ≠ i := fun r => by rw [r, hp] at hj; cases hj
  rw [putT, if_neg r]; exact h.f (fun e => q (up is e)) j hj (on j r e)
 ·by_cases q : j = i
  ·subst q; rw [putT, if_pos rfl]; exact hu
  ·rw [putT, if_neg q]; exact h.k j hj h1 h2 (on j q e)
theorem RgZ.last1 {u : Value} {w' : World} (h : RgZ ops W is iz pre FL Z1 Z2 L w v) (hL : L.size = ops.size) (hi : is ∈ Region.ready .any ops L) (hne : is ≠ iz) (hall : ((List.range ops.size).all fun j => !pre j || reachY ops 7 is j) = true) (hz : Z1 w' (putT v is u)) :
  RgZ ops W is iz pre FL Z1 Z2 (L.setIfInBounds is true) w' (putT v is u) := by
 have hi2 : is < L.size := by rw [hL]; exact (mem_ready hi).1
 have hno : ¬ On L is := offT_not hi2 (mem_ready hi).2.1
 have hnz' : ¬ On L iz := fun q => hno (h.ord q)
 have ho : On (L.setIfInBounds is true) is := (on_set hi2 is).2 (Or.inl rfl)
 have hz' : ¬ On (L.setIfInBounds is true) iz := fun e => hnz' (((on_set hi2 iz).1 e).resolve_left (Ne.symm hne))
 refine ⟨fun q => absurd ho q, fun q => absurd ho q, fun j hj h1 h2 e => by rw [putT, if_neg h1]; exact h.k j hj h1 h2 (((on_set hi2 j).1 e).resolve_left h1), fun _ _ => hz, fun e => absurd e hz', fun _ j hj hl => ?_, fun e => absurd e hz', fun j k e hw2 => setZ_dc h.dc hi2 hi e hw2⟩
 have := List.all_eq_true.1 hall j (List.mem_range.2 hl)
 simp only [hj, Bool.not_true, Bool.false_or] at this
 exact (on_set hi2 j).2 (Or.inr (reachY_ready ⟨h.dc⟩ hi 7 j this))
theorem RgZ.last2 {u : Value} {w' : World} (h : RgZ ops W is iz pre FL Z1 Z2 L w v) (hL : L.size = ops.size) (hi : iz ∈ Region.ready .any ops L) (hw : waitsT ops iz is = true) (hz : Z2 w' (putT v iz u)) :
  RgZ ops W is iz pre FL Z1 Z2 (L.setIfInBounds iz true) w' (putT v iz u) := by
 have hi2 : iz < L.size := by rw [hL]; exact (mem_ready hi).1
 have ho : On L is := ready_dep hi is hw
 have ho' : On (L.setIfInBounds iz true) is := (on_set hi2 is).2 (Or.inr ho)
 have hz' : On (L.setIfInBounds iz true) iz := (on_set hi2 iz).2 (Or.inl rfl)
 exact ⟨fun q => absurd ho' q, fun q => absurd ho' q, fun j hj h1 h2 e => by rw [putT, if_neg h2]; exact h.k j hj h1 h2 (((on_set hi2 j).1 e).resolve_left h2), fun _ q => absurd hz' q, fun _ => hz, fun _ j hj hl => (on_set hi2 j).2 (Or.inr (h.al ho j hj hl)), fun _ => ho', fun j k e hw2 => setZ_dc h.dc hi2 hi e hw2⟩
theorem region_rgZ {Pr : Program} {Q : Exit → Act → World → Prop} {id : Nat} {a : Act} (hm : Pr.follows .mixedOrders = true) (G : (Nat → Value) → Act) (is iz : Nat) (pre : Nat → Bool) (FL : Nat → Lz) (Z1 Z2 : World → (Nat → Value) → Prop) (v0 : Nat → Value) (h0 : a = G v0)
  (hs : ∀ L v w i, L.size = ops.size → RgZ ops W is iz pre FL Z1 Z2 L w v → i ∈ Region.ready .any ops L → wpOp Pr ops Q i (fun a' w' => ∃ v', a' = G v' ∧ RgZ ops W is iz pre FL Z1 Z2 (L.setIfInBounds i true) w' v') (G v) w)
  (hf : ∀ L v w, L.size = ops.size → RgZ ops W is iz pre FL Z1 Z2 L w v → Region.ready .any ops L = [] → Q .normal (G v) w) : (Code.region id ops true).wp Pr Q a W := by
 refine region_inv hm (fun L a w' => ∃ v, a = G v ∧ RgZ ops W is iz pre FL Z1 Z2 L w' v) ⟨v0, h0, RgZ.start (Below.refl _ _).drew⟩ ?_ ?_
 ·rintro L a w' i hL ⟨v, rfl, hS⟩ hi
  exact hs L v w' i hL hS hi
 ·rintro L a w' hL ⟨v, rfl, hS⟩ hr
  exact hf L v w' hL hS hr
end
def waits (ops : Array Oper) (j k : Nat) : Bool := ((ops[j]?).map (fun o => o.after.any fun e => Region.binds .any e && e.on == k)).getD false
section
variable {ops : Array Oper} {W : World} {n A S : Nat} {new : Nat → Value × Value} {val : Nat → Value} {L : Array Bool} {w : World} {v : Nat → Value} {g : Nat → Nat}
end
end Go.Proofs.YtfipmopmpacdaaaGreatDoor
