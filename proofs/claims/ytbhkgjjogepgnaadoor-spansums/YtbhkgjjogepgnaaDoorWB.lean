/- A region that draws its order, loads, makes boxes of two cells and fills them: no order is gone through. -/
import Derived.Orders
import Derived.RowKit
import Derived.Test.YtbhkgjjogepgnaaDoorZK
namespace Go.Proofs.YtbhkgjjogepgnaaDoor
open Go.RowKit

/-- Is operation i done? -/
def On (L : Array Bool) (i : Nat) : Prop := L.getD i false = true
theorem on_set {L : Array Bool} {i : Nat} (hi : i < L.size) (j : Nat) : On (L.setIfInBounds i true) j ↔ j = i ∨ On L j := by
  unfold On
  simp only [Array.getD_eq_getD_getElem?, Array.getElem?_setIfInBounds]
  by_cases h : i = j
  · subst h; simp [hi]
  · have h2 : ¬ j = i := fun e => h e.symm
    simp [h, h2]
def lacks (L : Array Bool) : Nat := L.toList.count false
theorem count_set : ∀ (l : List Bool) (i : Nat) (hi : i < l.length), l[i] = false → (l.set i true).count false + 1 = l.count false
  | [], _, hi, _ => by simp at hi
  | x :: l, 0, _, h => by
    have h : x = false := h
    subst h
    simp
  | x :: l, i + 1, hi, h => by
    have := count_set l i (by simpa using hi) (by simpa using h)
    simp only [List.set_cons_succ, List.count_cons]
    omega
theorem lacks_set {L : Array Bool} {i : Nat} (hi : i < L.size) (h : L.getD i true = false) : lacks (L.setIfInBounds i true) + 1 = lacks L := by
  unfold lacks
  obtain ⟨l⟩ := L
  have hi : i < l.length := hi
  have h' : l[i] = false := by simpa [Array.getD, hi] using h
  have := count_set l i hi h'
  simpa using this
theorem all_on {L : Array Bool} (h : lacks L = 0) (i : Nat) : L.getD i true = true := by
  unfold lacks at h
  rw [List.count_eq_zero] at h
  obtain ⟨l⟩ := L
  by_cases hi : i < l.length
  · have hm : l[i] ∈ l := List.getElem_mem hi
    cases hl : l[i]
    · rw [hl] at hm; exact absurd hm h
    · simp [Array.getD, hi, hl]
  · simp [Array.getD, hi]
theorem mem_ready {ops : Array Oper} {L : Array Bool} {i : Nat} (h : i ∈ Region.ready .any ops L) : i < ops.size ∧ L.getD i true = false ∧ ∀ o, ops[i]? = some o → ∀ e ∈ o.after, Region.binds .any e = true → On L e.on := by
  unfold Region.ready at h
  rw [List.mem_filter, List.mem_range] at h
  obtain ⟨h1, h2⟩ := h
  simp only [Bool.and_eq_true, Bool.not_eq_true'] at h2
  refine ⟨h1, h2.1, fun o ho e he hb => ?_⟩
  have h3 := h2.2
  rw [ho] at h3
  simp only [Option.map_some, Option.getD_some, Array.all_eq_true_iff_forall_mem] at h3
  have := h3 e he
  rw [hb] at this
  simpa [On] using this
/-- What an operation that may be next waits for is done. -/
theorem ready_dep {ops : Array Oper} {L : Array Bool} {i : Nat} (h : i ∈ Region.ready .any ops L) (k : Nat) (hk : ((ops[i]?).map (fun o => o.after.any fun e => Region.binds .any e && e.on == k)).getD false = true) : On L k := by
  obtain ⟨h1, _, h3⟩ := mem_ready h
  cases ho : ops[i]? with
  | none => rw [ho] at hk; cases hk
  | some o =>
    rw [ho] at hk
    simp only [Option.map_some, Option.getD_some] at hk
    have hk2 : ∃ e, e ∈ o.after ∧ (Region.binds .any e && e.on == k) = true := by
      rw [← Array.any_toList] at hk
      obtain ⟨e, he, hb⟩ := List.any_eq_true.1 hk
      exact ⟨e, by simpa using he, hb⟩
    obtain ⟨e, he, hb⟩ := hk2
    simp only [Bool.and_eq_true, beq_iff_eq] at hb
    rw [← hb.2]
    exact h3 o ho e he hb.1
/-- Where none may be next, all are done (each waits for earlier ones alone). -/
theorem all_done {ops : Array Oper} {L : Array Bool} (hL : L.size = ops.size) (h : Region.ready .any ops L = []) (hk : ((List.range ops.size).all fun i => ((ops[i]?).map (fun o => o.after.all fun e => !Region.binds .any e || decide (e.on < i))).getD true) = true) : ∀ i, i < ops.size → On L i := by
  intro i
  induction i using Nat.strongRecOn with
  | _ i ih =>
    intro hi
    by_cases hn : On L i
    · exact hn
    · exfalso
      have hm : i ∈ Region.ready .any ops L := by
        unfold Region.ready
        rw [List.mem_filter, List.mem_range]
        refine ⟨hi, ?_⟩
        simp only [Bool.and_eq_true, Bool.not_eq_true']
        constructor
        · unfold On at hn
          simp [Array.getD, hL, hi] at hn ⊢
          exact hn
        · rw [Array.getElem?_eq_getElem hi]
          simp only [Option.map_some, Option.getD_some]
          rw [Array.all_eq_true_iff_forall_mem]
          intro e he
          have h1 := List.all_eq_true.1 hk i (List.mem_range.2 hi)
          rw [Array.getElem?_eq_getElem hi] at h1
          simp only [Option.map_some, Option.getD_some] at h1
          have h2 := Array.all_eq_true_iff_forall_mem.1 h1 e he
          simp only [Bool.or_eq_true, Bool.not_eq_true', decide_eq_true_eq] at h2 ⊢
          rcases h2 with h2 | h2
          · exact Or.inl h2
          · exact Or.inr (ih e.on h2 (by omega))
      rw [h] at hm
      cases hm
theorem wpAny_inv {P : Program} {ops : Array Oper} {Q : Exit → Act → World → Prop} (Inv : Array Bool → Act → World → Prop)
    (hs : ∀ L a w i, L.size = ops.size → Inv L a w → i ∈ Region.ready .any ops L → wpOp P ops Q i (Inv (L.setIfInBounds i true)) a w)
    (hf : ∀ L a w, L.size = ops.size → Inv L a w → Region.ready .any ops L = [] → Q .normal a w) :
    ∀ fuel L a w, L.size = ops.size → lacks L ≤ fuel → Inv L a w → wpAny P .any ops Q fuel L a w := by
  intro fuel
  induction fuel with
  | zero =>
    intro L a w hL hc hI
    have hr : Region.ready .any ops L = [] := by
      rw [List.eq_nil_iff_forall_not_mem]
      intro i hi
      have h := (mem_ready hi).2.1
      rw [all_on (by omega) i] at h
      cases h
    exact ⟨hr, hf L a w hL hI hr⟩
  | succ fuel ih =>
    intro L a w hL hc hI
    refine ⟨hf L a w hL hI, fun i hi => ?_⟩
    obtain ⟨h1, h2, _⟩ := mem_ready hi
    refine wpOp_mono (fun a' w' h' => ih _ a' w' (by simp [hL]) ?_ h') (hs L a w i hL hI hi)
    have := lacks_set (by rw [hL]; exact h1) h2
    omega
theorem region_inv {P : Program} {ops : Array Oper} {Q : Exit → Act → World → Prop} {id : Nat} {a : Act} {w : World} (hm : P.follows .mixedOrders = true) (Inv : Array Bool → Act → World → Prop)
    (h0 : Inv (Array.replicate ops.size false) a w.drew)
    (hs : ∀ L a w i, L.size = ops.size → Inv L a w → i ∈ Region.ready .any ops L → wpOp P ops Q i (Inv (L.setIfInBounds i true)) a w)
    (hf : ∀ L a w, L.size = ops.size → Inv L a w → Region.ready .any ops L = [] → Q .normal a w) : (Code.region id ops true).wp P Q a w :=
  wp_region_any hm (wpAny_inv Inv hs hf ops.size _ _ _ (by simp) (by unfold lacks; simp) h0)
end Go.Proofs.YtbhkgjjogepgnaaDoor

namespace Go.Proofs.YtbhkgjjogepgnaaDoor
open Go.RowKit

theorem on_none {n i : Nat} : ¬ On (Array.replicate n false) i := by
  unfold On
  simp only [Array.getD_eq_getD_getElem?, Array.getElem?_replicate]
  split <;> simp
theorem off_not {L : Array Bool} {i : Nat} (hi : i < L.size) (h : L.getD i true = false) : ¬ On L i := by
  unfold On
  intro h2
  simp [Array.getD, hi] at h h2
  rw [h] at h2
  cases h2
theorem wpOp_of {P : Program} {ops : Array Oper} {Q : Exit → Act → World → Prop} {i : Nat} {a : Act} {w : World} {K' : Act → World → Prop} (h : ∀ K : Act → World → Prop, (∀ a w, K' a w → K a w) → wpOp P ops Q i K a w) : wpOp P ops Q i K' a w := h K' (fun _ _ h => h)
def put9 (v : Nat → Value) (i : Nat) (x : Value) (n : Nat) : Value := if n = i then x else v n
/-- Does operation j wait for k? -/
def waits (ops : Array Oper) (j k : Nat) : Bool := ((ops[j]?).map (fun o => o.after.any fun e => Region.binds .any e && e.on == k)).getD false
/-- What holds while the region is under way: M false ahead of the store s, M true behind it; val: what each operation tells. -/
structure Rg9 (ops : Array Oper) (M : Bool → World → Prop) (s : Nat) (val : Nat → Value) (L : Array Bool) (w : World) (v : Nat → Value) : Prop where
  n : ¬ On L s → M false w
  y : On L s → M true w
  d : ∀ j, On L j → v j = val j
  dc : ∀ j k, On L j → waits ops j k = true → On L k
theorem Rg9.start {ops : Array Oper} {M : Bool → World → Prop} {s : Nat} {val : Nat → Value} {w : World} {v : Nat → Value} {n : Nat} (h : M false w) : Rg9 ops M s val (Array.replicate n false) w v :=
  ⟨fun _ => h, fun g => absurd g on_none, fun _ g => absurd g on_none, fun _ _ g => absurd g on_none⟩
theorem Rg9.step {ops : Array Oper} {M : Bool → World → Prop} {s : Nat} {val : Nat → Value} {L : Array Bool} {w w' : World} {v : Nat → Value} {i : Nat} {u : Value} (hM : ∀ b w w', M b w → Below w.heap.size w w' → M b w') (h : Rg9 ops M s val L w v) (hL : L.size = ops.size) (hi : i ∈ Region.ready .any ops L) (his : i ≠ s) (hb : Below w.heap.size w w') (hu : u = val i) :
    Rg9 ops M s val (L.setIfInBounds i true) w' (put9 v i u) := by
  have h1 := (mem_ready hi).1
  have hi2 : i < L.size := by rw [hL]; exact h1
  refine ⟨fun g => hM _ _ _ (h.n fun q => g ((on_set hi2 s).2 (Or.inr q))) hb, fun g => hM _ _ _ (h.y (((on_set hi2 s).1 g).resolve_left (Ne.symm his))) hb, fun j g => ?_, fun j k g hw => ?_⟩
  · by_cases e : j = i
    · subst e; rw [put9, if_pos rfl]; exact hu
    · rw [put9, if_neg e]; exact h.d j (((on_set hi2 j).1 g).resolve_left e)
  · rcases (on_set hi2 j).1 g with e | q
    · subst e; exact (on_set hi2 k).2 (Or.inr (ready_dep hi k hw))
    · exact (on_set hi2 k).2 (Or.inr (h.dc j k q hw))
theorem Rg9.store {ops : Array Oper} {M : Bool → World → Prop} {s : Nat} {val : Nat → Value} {L : Array Bool} {w w' : World} {v : Nat → Value} {u : Value} (h : Rg9 ops M s val L w v) (hL : L.size = ops.size) (hi : s ∈ Region.ready .any ops L) (hst : M true w') (hu : u = val s) :
    Rg9 ops M s val (L.setIfInBounds s true) w' (put9 v s u) := by
  have h1 := (mem_ready hi).1
  have hi2 : s < L.size := by rw [hL]; exact h1
  refine ⟨fun g => absurd ((on_set hi2 s).2 (Or.inl rfl)) g, fun _ => hst, fun j g => ?_, fun j k g hw => ?_⟩
  · by_cases e : j = s
    · subst e; rw [put9, if_pos rfl]; exact hu
    · rw [put9, if_neg e]; exact h.d j (((on_set hi2 j).1 g).resolve_left e)
  · rcases (on_set hi2 j).1 g with e | q
    · subst e; exact (on_set hi2 k).2 (Or.inr (ready_dep hi k hw))
    · exact (on_set hi2 k).2 (Or.inr (h.dc j k q hw))
theorem region_rg9 {P : Program} {ops : Array Oper} {Q : Exit → Act → World → Prop} {id : Nat} {a : Act} {w : World} (hm : P.follows .mixedOrders = true) (F : (Nat → Value) → Act) (M : Bool → World → Prop) (s : Nat) (val : Nat → Value) (v0 : Nat → Value) (h0 : a = F v0) (hM0 : M false w.drew)
    (hs : ∀ L v w i, L.size = ops.size → Rg9 ops M s val L w v → i ∈ Region.ready .any ops L → wpOp P ops Q i (fun a' w' => ∃ v', a' = F v' ∧ Rg9 ops M s val (L.setIfInBounds i true) w' v') (F v) w)
    (hf : ∀ L v w, L.size = ops.size → Rg9 ops M s val L w v → Region.ready .any ops L = [] → Q .normal (F v) w) : (Code.region id ops true).wp P Q a w := by
  refine region_inv hm (fun L a w' => ∃ v, a = F v ∧ Rg9 ops M s val L w' v) ⟨v0, h0, Rg9.start hM0⟩ ?_ ?_
  · rintro L a w' i hL ⟨v, rfl, hS⟩ hi
    exact hs L v w' i hL hS hi
  · rintro L a w' hL ⟨v, rfl, hS⟩ hr
    exact hf L v w' hL hS hr
end Go.Proofs.YtbhkgjjogepgnaaDoor

namespace Go.Proofs.YtbhkgjjogepgnaaDoor
open Go.RowKit

/-- What holds while the region is under way: operation A + i makes the box g i, S + i fills it. -/
structure RgN (ops : Array Oper) (W : World) (n A S : Nat) (new : Nat → Value × Value) (val : Nat → Value) (L : Array Bool) (w : World) (v : Nat → Value) (g : Nat → Nat) : Prop where
  m : Below W.heap.size W w
  d : ∀ j, ¬ (A ≤ j ∧ j < A + n) → On L j → v j = val j
  p : ∀ i, i < n → On L (A + i) → v (A + i) = .pointer (some ⟨g i, 0, none⟩) ∧ W.heap.size ≤ g i
  nb : ∀ i, i < n → On L (A + i) → ¬ On L (S + i) → Bx w (g i) (.float .f64 0) (.float .f64 0)
  yb : ∀ i, i < n → On L (S + i) → Bx w (g i) (new i).1 (new i).2
  ap : ∀ i j, i < n → j < n → i ≠ j → On L (A + i) → On L (A + j) → g i ≠ g j
  dc : ∀ j k, On L j → waits ops j k = true → On L k
section
variable {ops : Array Oper} {W : World} {n A S : Nat} {new : Nat → Value × Value} {val : Nat → Value} {L : Array Bool} {w : World} {v : Nat → Value} {g : Nat → Nat}
theorem RgN.start {k : Nat} (h : Below W.heap.size W w) : RgN ops W n A S new val (Array.replicate k false) w v g :=
  ⟨h, fun _ _ q => absurd q on_none, fun _ _ q => absurd q on_none, fun _ _ q => absurd q on_none, fun _ _ q => absurd q on_none, fun _ _ _ _ _ q => absurd q on_none, fun _ _ q => absurd q on_none⟩
theorem RgN.step {i : Nat} {u : Value} {w' : World} (h : RgN ops W n A S new val L w v g) (hL : L.size = ops.size) (hi : i ∈ Region.ready .any ops L) (h1 : ¬ (A ≤ i ∧ i < A + n)) (h2 : ¬ (S ≤ i ∧ i < S + n)) (hb : Below w.heap.size w w') (hu : u = val i) :
    RgN ops W n A S new val (L.setIfInBounds i true) w' (put9 v i u) g := by
  have hi2 : i < L.size := by rw [hL]; exact (mem_ready hi).1
  have on := fun (j : Nat) (q : j ≠ i) (e : On (L.setIfInBounds i true) j) => ((on_set hi2 j).1 e).resolve_left q
  have up := fun (j : Nat) (e : On L j) => (on_set hi2 j).2 (Or.inr e)
  refine ⟨h.m.trans (hb.mono h.m.size), fun j qa e => ?_, fun k hk e => ?_, fun k hk e f => ?_, fun k hk e => ?_, fun k j hk hj hne e f => ?_, fun j k e hw => ?_⟩
  · by_cases q : j = i
    · subst q; rw [put9, if_pos rfl]; exact hu
    · rw [put9, if_neg q]; exact h.d j qa (on j q e)
  · have q : A + k ≠ i := fun q => h1 (by omega)
    rw [put9, if_neg q]; exact h.p k hk (on _ q e)
  · have q : A + k ≠ i := fun q => h1 (by omega)
    exact (h.nb k hk (on _ q e) (fun r => f (up _ r))).below hb
  · have q : S + k ≠ i := fun q => h2 (by omega)
    exact (h.yb k hk (on _ q e)).below hb
  · exact h.ap k j hk hj hne (on _ (fun q => h1 (by omega)) e) (on _ (fun q => h1 (by omega)) f)
  · rcases (on_set hi2 j).1 e with q | q
    · subst q; exact up k (ready_dep hi k hw)
    · exact up k (h.dc j k q hw)
theorem RgN.make {i : Nat} {t : TypeId} (h : RgN ops W n A S new val L w v g) (hL : L.size = ops.size) (hin : i < n) (hi : A + i ∈ Region.ready .any ops L) (hno : ¬ On L (A + i)) (hAS : A + n ≤ S) (hw2 : waits ops (S + i) (A + i) = true) :
    RgN ops W n A S new val (L.setIfInBounds (A + i) true) (w.alloc (.cells #[.float .f64 0, .float .f64 0] t)) (put9 v (A + i) (.pointer (some ⟨w.heap.size, 0, none⟩))) (fun k => if k = i then w.heap.size else g k) := by
  have hi2 : A + i < L.size := by rw [hL]; exact (mem_ready hi).1
  have on := fun (j : Nat) (q : j ≠ A + i) (e : On (L.setIfInBounds (A + i) true) j) => ((on_set hi2 j).1 e).resolve_left q
  have up := fun (j : Nat) (e : On L j) => (on_set hi2 j).2 (Or.inr e)
  have hb : Below w.heap.size w (w.alloc (.cells #[.float .f64 0, .float .f64 0] t)) := (Below.refl _ _).alloc (Nat.le_refl _) _
  have lt := fun k (hk : k < n) (e : On L (A + k)) => (show g k < w.heap.size by
    by_cases f : On L (S + k)
    · exact (h.yb k hk f).2.2.2.2
    · exact (h.nb k hk e f).2.2.2.2)
  refine ⟨h.m.trans (hb.mono h.m.size), fun j qa e => ?_, fun k hk e => ?_, fun k hk e f => ?_, fun k hk e => ?_, fun k j hk hj hne e f => ?_, fun j k e hw => ?_⟩
  · have q : j ≠ A + i := fun q => qa (by omega)
    rw [put9, if_neg q]; exact h.d j qa (on j q e)
  · by_cases q : k = i
    · subst q
      rw [put9, if_pos rfl, if_pos rfl]
      exact ⟨rfl, h.m.size⟩
    · rw [put9, if_neg (by omega), if_neg q]; exact h.p k hk (on _ (by omega) e)
  · by_cases q : k = i
    · subst q
      rw [if_pos rfl]
      exact Bx.new _ _ _ _
    · rw [if_neg q]
      exact (h.nb k hk (on _ (by omega) e) (fun r => f (up _ r))).below hb
  · by_cases q : k = i
    · subst q
      exact absurd (h.dc _ _ (on _ (by omega) e) hw2) hno
    · rw [if_neg q]; exact (h.yb k hk (on _ (by omega) e)).below hb
  · by_cases q : k = i
    · subst q
      rw [if_pos rfl, if_neg (Ne.symm hne)]
      have := lt j hj (on _ (by omega) f)
      omega
    · rw [if_neg q]
      by_cases r : j = i
      · subst r
        rw [if_pos rfl]
        have := lt k hk (on _ (by omega) e)
        omega
      · rw [if_neg r]
        exact h.ap k j hk hj hne (on _ (by omega) e) (on _ (by omega) f)
  · rcases (on_set hi2 j).1 e with q | q
    · subst q; exact up k (ready_dep hi k hw)
    · exact up k (h.dc j k q hw)
theorem RgN.store {i : Nat} {u : Value} (h : RgN ops W n A S new val L w v g) (hL : L.size = ops.size) (hin : i < n) (hi : S + i ∈ Region.ready .any ops L) (hno : ¬ On L (S + i)) (hAS : A + n ≤ S) (hw2 : ∀ k, k < n → waits ops (S + k) (A + k) = true) (hu : u = val (S + i)) :
    RgN ops W n A S new val (L.setIfInBounds (S + i) true) ((w.setCell ⟨g i, 0, none⟩ (new i).1).setCell ⟨g i, 1, none⟩ (new i).2) (put9 v (S + i) u) g := by
  have hi2 : S + i < L.size := by rw [hL]; exact (mem_ready hi).1
  have on := fun (j : Nat) (q : j ≠ S + i) (e : On (L.setIfInBounds (S + i) true) j) => ((on_set hi2 j).1 e).resolve_left q
  have up := fun (j : Nat) (e : On L j) => (on_set hi2 j).2 (Or.inr e)
  have ha := ready_dep hi (A + i) (hw2 i hin)
  have B := h.nb i hin ha hno
  refine ⟨set2 h.m (h.p i hin ha).2 _ _, fun j qa e => ?_, fun k hk e => ?_, fun k hk e f => ?_, fun k hk e => ?_, fun k j hk hj hne e f => ?_, fun j k e hw => ?_⟩
  · by_cases q : j = S + i
    · subst q; rw [put9, if_pos rfl]; exact hu
    · rw [put9, if_neg q]; exact h.d j qa (on j q e)
  · rw [put9, if_neg (by omega)]; exact h.p k hk (on _ (by omega) e)
  · have q : k ≠ i := fun q => f ((on_set hi2 (S + k)).2 (Or.inl (by omega)))
    have ek := on _ (show A + k ≠ S + i by omega) e
    exact (h.nb k hk ek (fun r => f (up _ r))).other (h.ap k i hk hin q ek ha) _ _
  · by_cases q : k = i
    · subst q; exact B.put _ _
    · have ek := on _ (show S + k ≠ S + i by omega) e
      exact (h.yb k hk ek).other (h.ap k i hk hin q (h.dc _ _ ek (hw2 k hk)) ha) _ _
  · exact h.ap k j hk hj hne (on _ (by omega) e) (on _ (by omega) f)
  · rcases (on_set hi2 j).1 e with q | q
    · subst q; exact up k (ready_dep hi k hw)
    · exact up k (h.dc j k q hw)
theorem region_rgN {P : Program} {Q : Exit → Act → World → Prop} {id : Nat} {a : Act} (hm : P.follows .mixedOrders = true) (F : (Nat → Value) → Act) (n A S : Nat) (new : Nat → Value × Value) (val : Nat → Value) (v0 : Nat → Value) (h0 : a = F v0)
    (hs : ∀ L v g w i, L.size = ops.size → RgN ops W n A S new val L w v g → i ∈ Region.ready .any ops L → wpOp P ops Q i (fun a' w' => ∃ v' g', a' = F v' ∧ RgN ops W n A S new val (L.setIfInBounds i true) w' v' g') (F v) w)
    (hf : ∀ L v g w, L.size = ops.size → RgN ops W n A S new val L w v g → Region.ready .any ops L = [] → Q .normal (F v) w) : (Code.region id ops true).wp P Q a W := by
  refine region_inv hm (fun L a w' => ∃ v g, a = F v ∧ RgN ops W n A S new val L w' v g) ⟨v0, fun _ => 0, h0, RgN.start (Below.refl _ _).drew⟩ ?_ ?_
  · rintro L a w' i hL ⟨v, g, rfl, hS⟩ hi
    exact hs L v g w' i hL hS hi
  · rintro L a w' hL ⟨v, g, rfl, hS⟩ hr
    exact hf L v g w' hL hS hr
end
end Go.Proofs.YtbhkgjjogepgnaaDoor
