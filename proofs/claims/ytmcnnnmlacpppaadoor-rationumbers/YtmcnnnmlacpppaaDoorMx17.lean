/- A region that draws its order, by what holds of each of its operations once it is done: no order is gone through. -/
import Derived.Orders
import Derived.RowKit
namespace Go.Proofs.YtmcnnnmlacpppaaDoor
open Go.RowKit

/-- Is operation i done? -/
def On (L : Array Bool) (i : Nat) : Prop := L.getD i false = true
theorem on_set {L : Array Bool} {i : Nat} (hi : i < L.size) (j : Nat) : On (L.setIfInBounds i true) j ↔ j = i ∨ On L j := by
  unfold On
  simp only [Array.getD_eq_getD_getElem?, Array.getElem?_setIfInBounds]
  by_cases h : i = j
  · subst h; simp [hi]
  · have h2 : ¬ j = i := fun e => h e.symm
    simp [h, h2]
def lacks (L : Array Bool) : Nat := L.toList.count false
theorem count_set : ∀ (l : List Bool) (i : Nat) (hi : i < l.length), l[i] = false → (l.set i true).count false + 1 = l.count false
  | [], _, hi, _ => by simp at hi
  | x :: l, 0, _, h => by
    have h : x = false := h
    subst h
    simp
  | x :: l, i + 1, hi, h => by
    have := count_set l i (by simpa using hi) (by simpa using h)
    simp only [List.set_cons_succ, List.count_cons]
    omega
theorem lacks_set {L : Array Bool} {i : Nat} (hi : i < L.size) (h : L.getD i true = false) : lacks (L.setIfInBounds i true) + 1 = lacks L := by
  unfold lacks
  obtain ⟨l⟩ := L
  have hi : i < l.length := hi
  have h' : l[i] = false := by simpa [Array.getD, hi] using h
  have := count_set l i hi h'
  simpa using this
theorem all_on {L : Array Bool} (h : lacks L = 0) (i : Nat) : L.getD i true = true := by
  unfold lacks at h
  rw [List.count_eq_zero] at h
  obtain ⟨l⟩ := L
  by_cases hi : i < l.length
  · have hm : l[i] ∈ l := List.getElem_mem hi
    cases hl : l[i]
    · rw [hl] at hm; exact absurd hm h
    · simp [Array.getD, hi, hl]
  · simp [Array.getD, hi]
theorem mem_ready {ops : Array Oper} {L : Array Bool} {i : Nat} (h : i ∈ Region.ready .any ops L) : i < ops.size ∧ L.getD i true = false ∧ ∀ o, ops[i]? = some o → ∀ e ∈ o.after, Region.binds .any e = true → On L e.on := by
  unfold Region.ready at h
  rw [List.mem_filter, List.mem_range] at h
  obtain ⟨h1, h2⟩ := h
  simp only [Bool.and_eq_true, Bool.not_eq_true'] at h2
  refine ⟨h1, h2.1, fun o ho e he hb => ?_⟩
  have h3 := h2.2
  rw [ho] at h3
  simp only [Option.map_some, Option.getD_some, Array.all_eq_true_iff_forall_mem] at h3
  have := h3 e he
  rw [hb] at this
  simpa [On] using this
/-- What an operation that may be next waits for is done. -/
theorem ready_dep {ops : Array Oper} {L : Array Bool} {i : Nat} (h : i ∈ Region.ready .any ops L) (k : Nat) (hk : ((ops[i]?).map (fun o => o.after.any fun e => Region.binds .any e && e.on == k)).getD false = true) : On L k := by
  obtain ⟨h1, _, h3⟩ := mem_ready h
  cases ho : ops[i]? with
  | none => rw [ho] at hk; cases hk
  | some o =>
    rw [ho] at hk
    simp only [Option.map_some, Option.getD_some] at hk
    have hk2 : ∃ e, e ∈ o.after ∧ (Region.binds .any e && e.on == k) = true := by
      rw [← Array.any_toList] at hk
      obtain ⟨e, he, hb⟩ := List.any_eq_true.1 hk
      exact ⟨e, by simpa using he, hb⟩
    obtain ⟨e, he, hb⟩ := hk2
    simp only [Bool.and_eq_true, beq_iff_eq] at hb
    rw [← hb.2]
    exact h3 o ho e he hb.1
/-- Where none may be next, all are done (each waits for earlier ones alone). -/
theorem all_done {ops : Array Oper} {L : Array Bool} (hL : L.size = ops.size) (h : Region.ready .any ops L = []) (hk : ((List.range ops.size).all fun i => ((ops[i]?).map (fun o => o.after.all fun e => !Region.binds .any e || decide (e.on < i))).getD true) = true) : ∀ i, i < ops.size → On L i := by
  intro i
  induction i using Nat.strongRecOn with
  | _ i ih =>
    intro hi
    by_cases hn : On L i
    · exact hn
    · exfalso
      have hm : i ∈ Region.ready .any ops L := by
        unfold Region.ready
        rw [List.mem_filter, List.mem_range]
        refine ⟨hi, ?_⟩
        simp only [Bool.and_eq_true, Bool.not_eq_true']
        constructor
        · unfold On at hn
          simp [Array.getD, hL, hi] at hn ⊢
          exact hn
        · rw [Array.getElem?_eq_getElem hi]
          simp only [Option.map_some, Option.getD_some]
          rw [Array.all_eq_true_iff_forall_mem]
          intro e he
          have h1 := List.all_eq_true.1 hk i (List.mem_range.2 hi)
          rw [Array.getElem?_eq_getElem hi] at h1
          simp only [Option.map_some, Option.getD_some] at h1
          have h2 := Array.all_eq_true_iff_forall_mem.1 h1 e he
          simp only [Bool.or_eq_true, Bool.not_eq_true', decide_eq_true_eq] at h2 ⊢
          rcases h2 with h2 | h2
          · exact Or.inl h2
          · exact Or.inr (ih e.on h2 (by omega))
      rw [h] at hm
      cases hm
theorem wpAny_inv {P : Program} {ops : Array Oper} {Q : Exit → Act → World → Prop} (Inv : Array Bool → Act → World → Prop)
    (hs : ∀ L a w i, L.size = ops.size → Inv L a w → i ∈ Region.ready .any ops L → wpOp P ops Q i (Inv (L.setIfInBounds i true)) a w)
    (hf : ∀ L a w, L.size = ops.size → Inv L a w → Region.ready .any ops L = [] → Q .normal a w) :
    ∀ fuel L a w, L.size = ops.size → lacks L ≤ fuel → Inv L a w → wpAny P .any ops Q fuel L a w := by
  intro fuel
  induction fuel with
  | zero =>
    intro L a w hL hc hI
    have hr : Region.ready .any ops L = [] := by
      rw [List.eq_nil_iff_forall_not_mem]
      intro i hi
      have h := (mem_ready hi).2.1
      rw [all_on (by omega) i] at h
      cases h
    exact ⟨hr, hf L a w hL hI hr⟩
  | succ fuel ih =>
    intro L a w hL hc hI
    refine ⟨hf L a w hL hI, fun i hi => ?_⟩
    obtain ⟨h1, h2, _⟩ := mem_ready hi
    refine wpOp_mono (fun a' w' h' => ih _ a' w' (by simp [hL]) ?_ h') (hs L a w i hL hI hi)
    have := lacks_set (by rw [hL]; exact h1) h2
    omega
theorem region_inv {P : Program} {ops : Array Oper} {Q : Exit → Act → World → Prop} {id : Nat} {a : Act} {w : World} (hm : P.follows .mixedOrders = true) (Inv : Array Bool → Act → World → Prop)
    (h0 : Inv (Array.replicate ops.size false) a w.drew)
    (hs : ∀ L a w i, L.size = ops.size → Inv L a w → i ∈ Region.ready .any ops L → wpOp P ops Q i (Inv (L.setIfInBounds i true)) a w)
    (hf : ∀ L a w, L.size = ops.size → Inv L a w → Region.ready .any ops L = [] → Q .normal a w) : (Code.region id ops true).wp P Q a w :=
  wp_region_any hm (wpAny_inv Inv hs hf ops.size _ _ _ (by simp) (by unfold lacks; simp) h0)
end Go.Proofs.YtmcnnnmlacpppaaDoor
