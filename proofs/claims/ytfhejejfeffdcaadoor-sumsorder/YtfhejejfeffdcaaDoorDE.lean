/- What inNone of products answers; DotExact. -/
import Derived.Orders
import Derived.RowKit
import Derived.Test.YtfhejejfeffdcaaDoorRB
namespace Go.Proofs.YtfhejejfeffdcaaDoor
open Go.RowKit

/-- Is operation i done? -/
def On (L : Array Bool) (i : Nat) : Prop := L.getD i false = true
theorem on_set {L : Array Bool} {i : Nat} (hi : i < L.size) (j : Nat) : On (L.setIfInBounds i true) j ↔ j = i ∨ On L j := by
  unfold On
  simp only [Array.getD_eq_getD_getElem?, Array.getElem?_setIfInBounds]
  by_cases h : i = j
  · subst h; simp [hi]
  · have h2 : ¬ j = i := fun e => h e.symm
    simp [h, h2]
def lacks (L : Array Bool) : Nat := L.toList.count false
theorem count_set : ∀ (l : List Bool) (i : Nat) (hi : i < l.length), l[i] = false → (l.set i true).count false + 1 = l.count false
  | [], _, hi, _ => by simp at hi
  | x :: l, 0, _, h => by
    have h : x = false := h
    subst h
    simp
  | x :: l, i + 1, hi, h => by
    have := count_set l i (by simpa using hi) (by simpa using h)
    simp only [List.set_cons_succ, List.count_cons]
    omega
theorem lacks_set {L : Array Bool} {i : Nat} (hi : i < L.size) (h : L.getD i true = false) : lacks (L.setIfInBounds i true) + 1 = lacks L := by
  unfold lacks
  obtain ⟨l⟩ := L
  have hi : i < l.length := hi
  have h' : l[i] = false := by simpa [Array.getD, hi] using h
  have := count_set l i hi h'
  simpa using this
theorem all_on {L : Array Bool} (h : lacks L = 0) (i : Nat) : L.getD i true = true := by
  unfold lacks at h
  rw [List.count_eq_zero] at h
  obtain ⟨l⟩ := L
  by_cases hi : i < l.length
  · have hm : l[i] ∈ l := List.getElem_mem hi
    cases hl : l[i]
    · rw [hl] at hm; exact absurd hm h
    · simp [Array.getD, hi, hl]
  · simp [Array.getD, hi]
theorem mem_ready {ops : Array Oper} {L : Array Bool} {i : Nat} (h : i ∈ Region.ready .any ops L) : i < ops.size ∧ L.getD i true = false ∧ ∀ o, ops[i]? = some o → ∀ e ∈ o.after, Region.binds .any e = true → On L e.on := by
  unfold Region.ready at h
  rw [List.mem_filter, List.mem_range] at h
  obtain ⟨h1, h2⟩ := h
  simp only [Bool.and_eq_true, Bool.not_eq_true'] at h2
  refine ⟨h1, h2.1, fun o ho e he hb => ?_⟩
  have h3 := h2.2
  rw [ho] at h3
  simp only [Option.map_some, Option.getD_some, Array.all_eq_true_iff_forall_mem] at h3
  have := h3 e he
  rw [hb] at this
  simpa [On] using this
/-- What an operation that may be next waits for is done. -/
theorem ready_dep {ops : Array Oper} {L : Array Bool} {i : Nat} (h : i ∈ Region.ready .any ops L) (k : Nat) (hk : ((ops[i]?).map (fun o => o.after.any fun e => Region.binds .any e && e.on == k)).getD false = true) : On L k := by
  obtain ⟨h1, _, h3⟩ := mem_ready h
  cases ho : ops[i]? with
  | none => rw [ho] at hk; cases hk
  | some o =>
    rw [ho] at hk
    simp only [Option.map_some, Option.getD_some] at hk
    have hk2 : ∃ e, e ∈ o.after ∧ (Region.binds .any e && e.on == k) = true := by
      rw [← Array.any_toList] at hk
      obtain ⟨e, he, hb⟩ := List.any_eq_true.1 hk
      exact ⟨e, by simpa using he, hb⟩
    obtain ⟨e, he, hb⟩ := hk2
    simp only [Bool.and_eq_true, beq_iff_eq] at hb
    rw [← hb.2]
    exact h3 o ho e he hb.1
/-- Where none may be next, all are done (each waits for earlier ones alone). -/
theorem all_done {ops : Array Oper} {L : Array Bool} (hL : L.size = ops.size) (h : Region.ready .any ops L = []) (hk : ((List.range ops.size).all fun i => ((ops[i]?).map (fun o => o.after.all fun e => !Region.binds .any e || decide (e.on < i))).getD true) = true) : ∀ i, i < ops.size → On L i := by
  intro i
  induction i using Nat.strongRecOn with
  | _ i ih =>
    intro hi
    by_cases hn : On L i
    · exact hn
    · exfalso
      have hm : i ∈ Region.ready .any ops L := by
        unfold Region.ready
        rw [List.mem_filter, List.mem_range]
        refine ⟨hi, ?_⟩
        simp only [Bool.and_eq_true, Bool.not_eq_true']
        constructor
        · unfold On at hn
          simp [Array.getD, hL, hi] at hn ⊢
          exact hn
        · rw [Array.getElem?_eq_getElem hi]
          simp only [Option.map_some, Option.getD_some]
          rw [Array.all_eq_true_iff_forall_mem]
          intro e he
          have h1 := List.all_eq_true.1 hk i (List.mem_range.2 hi)
          rw [Array.getElem?_eq_getElem hi] at h1
          simp only [Option.map_some, Option.getD_some] at h1
          have h2 := Array.all_eq_true_iff_forall_mem.1 h1 e he
          simp only [Bool.or_eq_true, Bool.not_eq_true', decide_eq_true_eq] at h2 ⊢
          rcases h2 with h2 | h2
          · exact Or.inl h2
          · exact Or.inr (ih e.on h2 (by omega))
      rw [h] at hm
      cases hm
theorem wpAny_inv {P : Program} {ops : Array Oper} {Q : Exit → Act → World → Prop} (Inv : Array Bool → Act → World → Prop)
    (hs : ∀ L a w i, L.size = ops.size → Inv L a w → i ∈ Region.ready .any ops L → wpOp P ops Q i (Inv (L.setIfInBounds i true)) a w)
    (hf : ∀ L a w, L.size = ops.size → Inv L a w → Region.ready .any ops L = [] → Q .normal a w) :
    ∀ fuel L a w, L.size = ops.size → lacks L ≤ fuel → Inv L a w → wpAny P .any ops Q fuel L a w := by
  intro fuel
  induction fuel with
  | zero =>
    intro L a w hL hc hI
    have hr : Region.ready .any ops L = [] := by
      rw [List.eq_nil_iff_forall_not_mem]
      intro i hi
      have h := (mem_ready hi).2.1
      rw [all_on (by omega) i] at h
      cases h
    exact ⟨hr, hf L a w hL hI hr⟩
  | succ fuel ih =>
    intro L a w hL hc hI
    refine ⟨hf L a w hL hI, fun i hi => ?_⟩
    obtain ⟨h1, h2, _⟩ := mem_ready hi
    refine wpOp_mono (fun a' w' h' => ih _ a' w' (by simp [hL]) ?_ h') (hs L a w i hL hI hi)
    have := lacks_set (by rw [hL]; exact h1) h2
    omega
theorem region_inv {P : Program} {ops : Array Oper} {Q : Exit → Act → World → Prop} {id : Nat} {a : Act} {w : World} (hm : P.follows .mixedOrders = true) (Inv : Array Bool → Act → World → Prop)
    (h0 : Inv (Array.replicate ops.size false) a w.drew)
    (hs : ∀ L a w i, L.size = ops.size → Inv L a w → i ∈ Region.ready .any ops L → wpOp P ops Q i (Inv (L.setIfInBounds i true)) a w)
    (hf : ∀ L a w, L.size = ops.size → Inv L a w → Region.ready .any ops L = [] → Q .normal a w) : (Code.region id ops true).wp P Q a w :=
  wp_region_any hm (wpAny_inv Inv hs hf ops.size _ _ _ (by simp) (by unfold lacks; simp) h0)
end Go.Proofs.YtfhejejfeffdcaaDoor

namespace Go.Proofs.YtfhejejfeffdcaaDoor
open Go.RowKit

theorem on_no {n i : Nat} : ¬ On (Array.replicate n false) i := by
  unfold On
  simp only [Array.getD_eq_getD_getElem?, Array.getElem?_replicate]
  split <;> simp
theorem off_on {L : Array Bool} {i : Nat} (hi : i < L.size) (h : L.getD i true = false) : ¬ On L i := by
  unfold On
  intro h2
  simp [Array.getD, hi] at h h2
  rw [h] at h2
  cases h2
theorem wpOp_any {P : Program} {ops : Array Oper} {Q : Exit → Act → World → Prop} {i : Nat} {a : Act} {w : World} {K' : Act → World → Prop} (h : ∀ K : Act → World → Prop, (∀ a w, K' a w → K a w) → wpOp P ops Q i K a w) : wpOp P ops Q i K' a w := h K' (fun _ _ h => h)
def upd (v : Nat → Value) (i : Nat) (x : Value) (n : Nat) : Value := if n = i then x else v n
theorem upd_at (v : Nat → Value) (i : Nat) (x : Value) : upd v i x i = x := if_pos rfl
theorem upd_ne (v : Nat → Value) {i j : Nat} (x : Value) (h : j ≠ i) : upd v i x j = v j := if_neg h
/-- A dyad's limbs, not older than B, not in block p. -/
def Nb (w : World) (D : Dy) (ao : Option Addr) (p B : Nat) : Prop := LRow w ao D.mag ∧ Frs B ao ∧ ∀ b off, ao = some ⟨b, off, none⟩ → D.mag.length ≠ 0 → b ≠ p
def dyV (D : Dy) (ao : Option Addr) (cap : Nat) : Value := .agg #[.bool D.neg, .slice ao D.mag.length cap, .int .i64 D.exp]
def TD (D : Dy) (w : World) (u : Value) (p B : Nat) : Prop := ∃ ao cap, u = .agg #[.bool D.neg, .slice ao D.mag.length cap, .int .i64 D.exp] ∧ Nb w D ao p B
def TT (D : Dy) (w : World) (u : Value) (p B : Nat) : Prop := ∃ ao cap, u = .tuple #[.agg #[.bool D.neg, .slice ao D.mag.length cap, .int .i64 D.exp], .int .i64 0] ∧ Nb w D ao p B
theorem Nb.below {w w' : World} {D : Dy} {ao : Option Addr} {p B : Nat} (h : Nb w D ao p B) (hb : Below w.heap.size w w') : Nb w' D ao p B := ⟨h.1.below hb, h.2⟩
theorem Nb.alloc {w : World} {D : Dy} {ao : Option Addr} {p B : Nat} (h : Nb w D ao p B) (o : Obj) : Nb (w.alloc o) D ao w.heap.size B := ⟨h.1.alloc o, h.2.1, fun _b _off e l => Nat.ne_of_lt (by
  rcases h.1 with q | ⟨b', off', e', hc⟩
  · exact absurd q l
  · rw [e] at e'
    cases e'
    exact World.block_lt_of_cell? w _ (hc 0 (by omega)))⟩
theorem Nb.put {w : World} {D : Dy} {ao : Option Addr} {p B : Nat} (h : Nb w D ao p B) (x y z : Value) : Nb (((w.setCell ⟨p, 0, none⟩ x).setCell ⟨p, 1, none⟩ y).setCell ⟨p, 2, none⟩ z) D ao p B :=
  ⟨((h.1.setCell x h.2.2).setCell y h.2.2).setCell z h.2.2, h.2⟩
theorem Nb.new {w w' : World} {D : Dy} {ao : Option Addr} {p B : Nat} (h : LRow w' ao D.mag) (hf : Frs w.heap.size ao) (hp : p < w.heap.size) (hB : B ≤ w.heap.size) : Nb w' D ao p B := ⟨h, hf.mono hB, fun b off e _ => by
  have h1 : w.heap.size ≤ b := hf _ e
  omega⟩
theorem hd_put {w : World} {p B : Nat} {G E : Dy} {o a : Option Addr} {c c' : Nat} (h : Hd w p G o c') (hN : Nb w E a p B) : Hd (((w.setCell ⟨p, 0, none⟩ (.bool E.neg)).setCell ⟨p, 1, none⟩ (.slice a E.mag.length c)).setCell ⟨p, 2, none⟩ (.int .i64 E.exp)) p E a c := by
  have s0 : (w.setCell ⟨p, 0, none⟩ (.bool E.neg)).cell? ⟨p, 0, none⟩ = some (.bool E.neg) := World.cell?_setCell_same w _ _ h.c0
  have s1 : (w.setCell ⟨p, 0, none⟩ (.bool E.neg)).cell? ⟨p, 1, none⟩ = some (.slice o G.mag.length c') := (World.cell?_setCell_other w _ _ _ (by simp)).trans h.c1
  have s2 : (w.setCell ⟨p, 0, none⟩ (.bool E.neg)).cell? ⟨p, 2, none⟩ = some (.int .i64 G.exp) := (World.cell?_setCell_other w _ _ _ (by simp)).trans h.c2
  have t0 := (World.cell?_setCell_other _ ⟨p, 1, none⟩ ⟨p, 0, none⟩ (.slice a E.mag.length c) (by simp)).trans s0
  have t1 := World.cell?_setCell_same _ _ (.slice a E.mag.length c) s1
  have t2 := (World.cell?_setCell_other _ ⟨p, 1, none⟩ ⟨p, 2, none⟩ (.slice a E.mag.length c) (by simp)).trans s2
  exact ⟨(World.cell?_setCell_other _ _ _ _ (by simp)).trans t0, (World.cell?_setCell_other _ _ _ _ (by simp)).trans t1, World.cell?_setCell_same _ _ _ t2, (hN.put _ _ _).1⟩
/-- What holds of each operation once it is done. -/
def DxF (sa sb pa pb : Value) (k x y : Nat) (X Y P : Dy) (B j : Nat) (w : World) (u : Value) (p : Nat) : Prop := match j with
  | 0 => u = sa
  | 1 => u = .int .i64 k
  | 2 => u = pa
  | 3 => u = .float .f64 x
  | 4 => TD X w u p B
  | 5 => u = sb
  | 6 => u = .int .i64 k
  | 7 => u = pb
  | 8 => u = .float .f64 y
  | 9 => TD Y w u p B
  | 10 => TT P w u p B
  | 11 => TT P w u p B
  | 12 => TD P w u p B
  | 13 => u = .int .i64 0
  | 14 => u = .pointer (some ⟨p, 0, none⟩) ∧ B ≤ p ∧ (∃ G o c, Hd w p G o c) ∧ Fz w p
  | 15 => ∃ ao cap, Hd w p P ao cap ∧ Nb w P ao p B
  | 16 => u = .int .i64 0
  | _ => True
structure DxS (sa sb pa pb : Value) (k x y : Nat) (X Y P : Dy) (B : Nat) (W : World) (L : Array Bool) (w : World) (v : Nat → Value) (p : Nat) : Prop where
  bel : Below W.heap.size W w
  pl : p < w.heap.size
  c : On L 15 → On L 14
  d : ∀ j, On L j → DxF sa sb pa pb k x y X Y P B j w (v j) p
section
variable {sa sb pa pb : Value} {k x y : Nat} {X Y P : Dy} {B : Nat} {W : World} {L : Array Bool} {w : World} {v : Nat → Value} {p : Nat}
theorem DxF.below {j : Nat} {u : Value} {w' : World} (h : DxF sa sb pa pb k x y X Y P B j w u p) (hb : Below w.heap.size w w') : DxF sa sb pa pb k x y X Y P B j w' u p := by
  unfold DxF at h ⊢
  split at h <;> first | exact h | (obtain ⟨ao, cap, e, hn⟩ := h; exact ⟨ao, cap, e, hn.below hb⟩) | (obtain ⟨ao, cap, e, hn⟩ := h; exact ⟨ao, cap, e.below hb, hn.below hb⟩) | (obtain ⟨h1, h2, ⟨G, o, c, h3⟩, h4⟩ := h; exact ⟨h1, h2, ⟨G, o, c, h3.below hb⟩, h4.below (World.block_lt_of_cell? w _ h3.c0) hb⟩)
theorem DxF.alloc {j : Nat} {u : Value} (h : DxF sa sb pa pb k x y X Y P B j w u p) (h14 : j ≠ 14) (h15 : j ≠ 15) (o : Obj) : DxF sa sb pa pb k x y X Y P B j (w.alloc o) u w.heap.size := by
  unfold DxF at h ⊢
  split at h <;> first | exact h | (obtain ⟨ao, cap, e, hn⟩ := h; exact ⟨ao, cap, e, hn.alloc o⟩) | (exact absurd rfl h14) | (exact absurd rfl h15)
theorem DxF.put {j : Nat} {u : Value} (h : DxF sa sb pa pb k x y X Y P B j w u p) (h15 : j ≠ 15) (E : Dy) (a : Option Addr) (c : Nat) (hN : Nb w E a p B) : DxF sa sb pa pb k x y X Y P B j (((w.setCell ⟨p, 0, none⟩ (.bool E.neg)).setCell ⟨p, 1, none⟩ (.slice a E.mag.length c)).setCell ⟨p, 2, none⟩ (.int .i64 E.exp)) u p := by
  unfold DxF at h ⊢
  split at h <;> first | exact h | (obtain ⟨ao, cap, e, hn⟩ := h; exact ⟨ao, cap, e, hn.put _ _ _⟩) | (exact absurd rfl h15) | (obtain ⟨h1, h2, ⟨G, o, c', h3⟩, f0, f1, f2⟩ := h; exact ⟨h1, h2, ⟨E, a, c, hd_put h3 hN⟩, by simp [go_sem, f0], by simp [go_sem, f1], by simp [go_sem, f2]⟩)
theorem DxS.step (h : DxS sa sb pa pb k x y X Y P B W L w v p) {i : Nat} {w' : World} {u : Value} (hi : i < L.size) (h15 : i ≠ 15) (hb : Below w.heap.size w w') (hu : DxF sa sb pa pb k x y X Y P B i w' u p) : DxS sa sb pa pb k x y X Y P B W (L.setIfInBounds i true) w' (upd v i u) p where
  bel := h.bel.trans (hb.mono h.bel.size)
  pl := Nat.lt_of_lt_of_le h.pl hb.size
  c := fun g => (on_set hi 14).2 (Or.inr (h.c (((on_set hi 15).1 g).resolve_left (fun e => h15 e.symm))))
  d := fun j g => by
    by_cases e : j = i
    · subst e; rw [upd_at]; exact hu
    · rw [upd_ne v u e]; exact (h.d j (((on_set hi j).1 g).resolve_left e)).below hb
theorem DxS.stepA (h : DxS sa sb pa pb k x y X Y P B W L w v p) (hi : 14 < L.size) (hn : ¬ On L 14) (hB : B ≤ w.heap.size) (t : TypeId) : DxS sa sb pa pb k x y X Y P B W (L.setIfInBounds 14 true) (w.alloc (.cells #[.bool false, .slice none 0 0, .int .i64 0] t)) (upd v 14 (.pointer (some ⟨w.heap.size, 0, none⟩))) w.heap.size where
  bel := h.bel.alloc h.bel.size _
  pl := by go_simp
  c := fun _ => (on_set hi 14).2 (Or.inl rfl)
  d := fun j g => by
    by_cases e : j = 14
    · subst e; rw [upd_at]
      refine ⟨rfl, hB, ⟨dy0, none, 0, ⟨by go_simp; rfl, by go_simp; rfl, by go_simp; rfl, Or.inl rfl⟩⟩, by go_simp, by go_simp, by go_simp⟩
    · rw [upd_ne v _ e]
      have g' := ((on_set hi j).1 g).resolve_left e
      exact (h.d j g').alloc e (fun e2 => hn (h.c (e2 ▸ g'))) _
theorem DxS.stepS (h : DxS sa sb pa pb k x y X Y P B W L w v p) (hi : 15 < L.size) (h14 : On L 14) (hW : W.heap.size ≤ p) {ao : Option Addr} {c : Nat} (hN : Nb w P ao p B) (u : Value) : DxS sa sb pa pb k x y X Y P B W (L.setIfInBounds 15 true) (((w.setCell ⟨p, 0, none⟩ (.bool P.neg)).setCell ⟨p, 1, none⟩ (.slice ao P.mag.length c)).setCell ⟨p, 2, none⟩ (.int .i64 P.exp)) (upd v 15 u) p where
  bel := ((h.bel.setCell hW _).setCell hW _).setCell hW _
  pl := by simp [World.setCell]; exact h.pl
  c := fun _ => (on_set hi 14).2 (Or.inr h14)
  d := fun j g => by
    by_cases e : j = 15
    · subst e
      obtain ⟨_, _, ⟨G, o, c', h3⟩, _⟩ := h.d 14 h14
      exact ⟨ao, c, hd_put h3 hN, hN.put _ _ _⟩
    · rw [upd_ne v _ e]
      have g' := ((on_set hi j).1 g).resolve_left e
      exact (h.d j g').put e P ao c hN
end
end Go.Proofs.YtfhejejfeffdcaaDoor

namespace Go.Proofs.YtfhejejfeffdcaaDoor
open Go.RowKit

set_option maxRecDepth 100000 in
set_option maxHeartbeats 4000000 in
theorem dx1_any (n m b off cap b2 off2 cap2 A B k x y : Nat) (X Y P : Dy) (w : World) (hT : TabW w) (hx : x < 18446744073709551616) (hy : y < 18446744073709551616) (eX : ofD x = (X, 0)) (eY : ofD y = (Y, 0)) (eP : mulD X Y = (P, 0)) (lX : Lm X.mag) (lY : Lm Y.mag)
    (hc : w.cell? ⟨b, off + k, none⟩ = some (.float .f64 x)) (hd : w.cell? ⟨b2, off2 + k, none⟩ = some (.float .f64 y)) (hk : k < n) (hl : k < m) (hA : w.cell? ⟨A, 0, none⟩ = some (.slice (some ⟨b, off, none⟩) n cap)) (hB : w.cell? ⟨B, 0, none⟩ = some (.slice (some ⟨b2, off2, none⟩) m cap2)) :
    Calls Tryd.prog 30 #[.int .i64 k, .pointer (some ⟨A, 0, none⟩), .pointer (some ⟨B, 0, none⟩)] w (GaveD w P) := by
  have cx := fun W h => sexact_any x X hx eX W h
  have cy := fun W h => sexact_any y Y hy eY W h
  have om := fun ao bo cap bcap w h1 h2 h3 => mul_any X Y ao bo cap bcap w h1 h2 lX lY h3
  rw [eP] at om
  have i1 : (k : Int) < (n : Int) := by omega
  have i2 : (k : Int) < (m : Int) := by omega
  clear eX eY eP lX lY hx hy hk hl
  have qA := World.block_lt_of_cell? w _ hA
  have qB := World.block_lt_of_cell? w _ hB
  have qx := World.block_lt_of_cell? w _ hc
  have qy := World.block_lt_of_cell? w _ hd
  simp only at qA qB qx qy
  have hBq : Below w.heap.size w (w.alloc (.cells #[.bool false, .slice none 0 0, .int .i64 0] 32)) := (Below.refl _ _).alloc (Nat.le_refl _) _
  have hTq : TabW (w.alloc (.cells #[.bool false, .slice none 0 0, .int .i64 0] 32)) := tabW_alloc hT _
  have G0 : Hd (w.alloc (.cells #[.bool false, .slice none 0 0, .int .i64 0] 32)) w.heap.size dy0 none 0 := Hd.new (d := dy0) (Or.inl rfl)
  have Z0 : Fz (w.alloc (.cells #[.bool false, .slice none 0 0, .int .i64 0] 32)) w.heap.size := ⟨by go_simp, by go_simp, by go_simp⟩
  have hsz : (w.alloc (.cells #[.bool false, .slice none 0 0, .int .i64 0] 32)).heap.size = w.heap.size + 1 := by go_simp
  go_enter Tryd.func30, Tryd.ntmps30
  go_upto_region 1 with fail
  obtain ⟨wq, hwq⟩ : ∃ wq, w.alloc (.cells #[.bool false, .slice none 0 0, .int .i64 0] 32) = wq := ⟨_, rfl⟩
  rw [hwq] at hBq hTq G0 Z0 hsz ⊢
  clear hwq
  have kA := (hBq.cell (p := ⟨A, 0, none⟩) qA).trans hA
  have kB := (hBq.cell (p := ⟨B, 0, none⟩) qB).trans hB
  have kx := (hBq.cell (p := ⟨b, off + k, none⟩) qx).trans hc
  have ky := (hBq.cell (p := ⟨b2, off2 + k, none⟩) qy).trans hd
  clear hA hB hc hd
  refine region_inv (by kernel_rfl) (fun L a w' => ∃ v p, a = ⟨#[.int .i64 k, .pointer (some ⟨A, 0, none⟩), .pointer (some ⟨B, 0, none⟩), undef, .pointer (some ⟨w.heap.size, 0, none⟩), v 14, v 16, v 11, v 0, v 1, v 2, v 3, v 4, v 5, v 6, v 7, v 8, v 9, v 10, v 12, v 13, undef], []⟩ ∧ DxS (.slice (some ⟨b, off, none⟩) n cap) (.slice (some ⟨b2, off2, none⟩) m cap2) (.pointer (some ⟨b, off + k, none⟩)) (.pointer (some ⟨b2, off2 + k, none⟩)) k x y X Y P wq.heap.size wq L w' v p) ?_ ?_ ?_
  · exact ⟨fun _ => undef, w.heap.size, rfl, ⟨(Below.refl _ _).drew, by rw [show wq.drew.heap.size = wq.heap.size from rfl]; omega, fun h => absurd h on_no, fun j h => absurd h on_no⟩⟩
  · rintro L a w' i hL ⟨v, p, rfl, hS⟩ hi
    obtain ⟨h1, h2, h3⟩ := mem_ready hi
    have h1 : i < 17 := h1
    have hL : L.size = 17 := hL
    have hno := off_on (by rw [hL]; exact h1) h2
    have hcs : i = 0 ∨ i = 1 ∨ i = 2 ∨ i = 3 ∨ i = 4 ∨ i = 5 ∨ i = 6 ∨ i = 7 ∨ i = 8 ∨ i = 9 ∨ i = 10 ∨ i = 11 ∨ i = 12 ∨ i = 13 ∨ i = 14 ∨ i = 15 ∨ i = 16 := by omega
    have bl := hS.bel
    have hws := bl.size
    have kA := (bl.cell (p := ⟨A, 0, none⟩) (by show A < _; omega)).trans kA
    have kB := (bl.cell (p := ⟨B, 0, none⟩) (by show B < _; omega)).trans kB
    have kx := (bl.cell (p := ⟨b, off + k, none⟩) (by show b < _; omega)).trans kx
    have ky := (bl.cell (p := ⟨b2, off2 + k, none⟩) (by show b2 < _; omega)).trans ky
    have hT' := tabW_below hTq bl
    have ste := fun (w2 : World) (u : Value) (h15 : i ≠ 15) hb hu => DxS.step (w' := w2) (u := u) hS (by rw [hL]; exact h1) h15 hb hu
    rcases hcs with rfl | rfl | rfl | rfl | rfl | rfl | rfl | rfl | rfl | rfl | rfl | rfl | rfl | rfl | rfl | rfl | rfl
    · refine wpOp_any (fun K hK => ?_)
      unfold wpOp
      go_simp
      refine Or.inl ?_
      exact hK _ _ ⟨_, p, rfl, ste _ _ (by decide) (Below.refl _ _) rfl⟩
    · refine wpOp_any (fun K hK => ?_)
      unfold wpOp
      go_simp
      refine Or.inl ?_
      exact hK _ _ ⟨_, p, rfl, ste _ _ (by decide) (Below.refl _ _) rfl⟩
    · have dn0 := ready_dep hi 0 (by kernel_rfl)
      have dn1 := ready_dep hi 1 (by kernel_rfl)
      have e0 : v 0 = .slice (some ⟨b, off, none⟩) n cap := hS.d 0 dn0
      have e1 : v 1 = .int .i64 k := hS.d 1 dn1
      refine wpOp_any (fun K hK => ?_)
      unfold wpOp
      go_simp
      refine Or.inl ?_
      exact hK _ _ ⟨_, p, (by simp [upd, e0, e1]), ste _ _ (by decide) (Below.refl _ _) rfl⟩
    · have dn2 := ready_dep hi 2 (by kernel_rfl)
      have e2 : v 2 = .pointer (some ⟨b, off + k, none⟩) := hS.d 2 dn2
      refine wpOp_any (fun K hK => ?_)
      unfold wpOp
      go_simp
      refine Or.inl ?_
      exact hK _ _ ⟨_, p, (by simp [upd, e2]), ste _ _ (by decide) (Below.refl _ _) rfl⟩
    · have dn3 := ready_dep hi 3 (by kernel_rfl)
      have es : v 3 = .float .f64 x := hS.d 3 dn3
      refine wpOp_any (fun K hK => ?_)
      unfold wpOp
      go_simp
      refine Or.inl ?_
      refine (cx _ hT').mono (fun e w1 => ?_)
      rintro ⟨ax, cax, rfl, r1, f1, b1⟩
      exact hK _ _ ⟨_, p, (by simp [upd, es]), ste _ _ (by decide) b1 ⟨ax, cax, rfl, Nb.new r1 f1 hS.pl hws⟩⟩
    · refine wpOp_any (fun K hK => ?_)
      unfold wpOp
      go_simp
      refine Or.inl ?_
      exact hK _ _ ⟨_, p, rfl, ste _ _ (by decide) (Below.refl _ _) rfl⟩
    · refine wpOp_any (fun K hK => ?_)
      unfold wpOp
      go_simp
      refine Or.inl ?_
      exact hK _ _ ⟨_, p, rfl, ste _ _ (by decide) (Below.refl _ _) rfl⟩
    · have dn5 := ready_dep hi 5 (by kernel_rfl)
      have dn6 := ready_dep hi 6 (by kernel_rfl)
      have e0 : v 5 = .slice (some ⟨b2, off2, none⟩) m cap2 := hS.d 5 dn5
      have e1 : v 6 = .int .i64 k := hS.d 6 dn6
      refine wpOp_any (fun K hK => ?_)
      unfold wpOp
      go_simp
      refine Or.inl ?_
      exact hK _ _ ⟨_, p, (by simp [upd, e0, e1]), ste _ _ (by decide) (Below.refl _ _) rfl⟩
    · have dn7 := ready_dep hi 7 (by kernel_rfl)
      have e2 : v 7 = .pointer (some ⟨b2, off2 + k, none⟩) := hS.d 7 dn7
      refine wpOp_any (fun K hK => ?_)
      unfold wpOp
      go_simp
      refine Or.inl ?_
      exact hK _ _ ⟨_, p, (by simp [upd, e2]), ste _ _ (by decide) (Below.refl _ _) rfl⟩
    · have dn8 := ready_dep hi 8 (by kernel_rfl)
      have es : v 8 = .float .f64 y := hS.d 8 dn8
      refine wpOp_any (fun K hK => ?_)
      unfold wpOp
      go_simp
      refine Or.inl ?_
      refine (cy _ hT').mono (fun e w1 => ?_)
      rintro ⟨ax, cax, rfl, r1, f1, b1⟩
      exact hK _ _ ⟨_, p, (by simp [upd, es]), ste _ _ (by decide) b1 ⟨ax, cax, rfl, Nb.new r1 f1 hS.pl hws⟩⟩
    · have dn4 := ready_dep hi 4 (by kernel_rfl)
      have dn9 := ready_dep hi 9 (by kernel_rfl)
      obtain ⟨a1, c1, e1, n1⟩ : TD X w' (v 4) p wq.heap.size := hS.d 4 dn4
      obtain ⟨a2, c2, e2, n2⟩ : TD Y w' (v 9) p wq.heap.size := hS.d 9 dn9
      refine wpOp_any (fun K hK => ?_)
      unfold wpOp
      go_simp
      refine Or.inl ?_
      refine (om _ _ _ _ _ n1.1 n2.1 hT').mono (fun e w1 => ?_)
      rintro ⟨ap, cp, rfl, r3, f3, b3⟩
      exact hK _ _ ⟨_, p, (by simp [upd, e1, e2]), ste _ _ (by decide) b3 ⟨ap, cp, rfl, Nb.new r3 f3 hS.pl hws⟩⟩
    · have dn10 := ready_dep hi 10 (by kernel_rfl)
      obtain ⟨ap, cp, e1, n1⟩ : TT P w' (v 10) p wq.heap.size := hS.d 10 dn10
      refine wpOp_any (fun K hK => ?_)
      unfold wpOp
      go_simp
      refine Or.inl ?_
      exact hK _ _ ⟨_, p, (by simp [upd, e1]), ste _ _ (by decide) (Below.refl _ _) ⟨ap, cp, e1, n1⟩⟩
    · have dn11 := ready_dep hi 11 (by kernel_rfl)
      obtain ⟨ap, cp, e1, n1⟩ : TT P w' (v 11) p wq.heap.size := hS.d 11 dn11
      refine wpOp_any (fun K hK => ?_)
      unfold wpOp
      go_simp
      refine Or.inl ?_
      exact hK _ _ ⟨_, p, (by simp [upd, e1]), ste _ _ (by decide) (Below.refl _ _) ⟨ap, cp, rfl, n1⟩⟩
    · have dn11 := ready_dep hi 11 (by kernel_rfl)
      obtain ⟨ap, cp, e1, n1⟩ : TT P w' (v 11) p wq.heap.size := hS.d 11 dn11
      refine wpOp_any (fun K hK => ?_)
      unfold wpOp
      go_simp
      refine Or.inl ?_
      exact hK _ _ ⟨_, p, (by simp [upd, e1]), ste _ _ (by decide) (Below.refl _ _) rfl⟩
    · refine wpOp_any (fun K hK => ?_)
      unfold wpOp
      go_simp
      refine Or.inl ?_
      exact hK _ _ ⟨_, w'.heap.size, rfl, hS.stepA (by rw [hL]; decide) hno hws _⟩
    · have dn12 := ready_dep hi 12 (by kernel_rfl)
      have dn14 := ready_dep hi 14 (by kernel_rfl)
      obtain ⟨ap, cp, e1, n1⟩ : TD P w' (v 12) p wq.heap.size := hS.d 12 dn12
      obtain ⟨e2, hpW, ⟨G, o, c, hG⟩, z0, z1, z2⟩ : v 14 = .pointer (some ⟨p, 0, none⟩) ∧ wq.heap.size ≤ p ∧ (∃ G o c, Hd w' p G o c) ∧ Fz w' p := hS.d 14 dn14
      have q0 := hG.c0
      have q1 := hG.c1
      have q2 := hG.c2
      refine wpOp_any (fun K hK => ?_)
      unfold wpOp
      go_simp
      refine Or.inl ?_
      exact hK _ _ ⟨_, p, (by simp [upd, e1, e2]), hS.stepS (c := cp) (by rw [hL]; decide) dn14 hpW n1 undef⟩
    · have dn13 := ready_dep hi 13 (by kernel_rfl)
      have e2 : v 13 = .int .i64 0 := hS.d 13 dn13
      refine wpOp_any (fun K hK => ?_)
      unfold wpOp
      go_simp
      refine Or.inl ?_
      exact hK _ _ ⟨_, p, (by simp [upd, e2]), ste _ _ (by decide) (Below.refl _ _) rfl⟩
  · rintro L a w' hL ⟨v, p, rfl, hS⟩ hr
    have on := all_done hL hr (by kernel_rfl)
    obtain ⟨e2, hpW, _, _⟩ : v 14 = .pointer (some ⟨p, 0, none⟩) ∧ wq.heap.size ≤ p ∧ (∃ G o c, Hd w' p G o c) ∧ Fz w' p := hS.d 14 (on 14 (by decide))
    obtain ⟨ap, cp, hH, hN⟩ : ∃ ao cap, Hd w' p P ao cap ∧ Nb w' P ao p wq.heap.size := hS.d 15 (on 15 (by decide))
    have bl := hS.bel
    have G1 := G0.below bl
    have Z1 := Z0.below (by omega) bl
    have q0 := hH.c0
    have q1 := hH.c1
    have q2 := hH.c2
    have g0 := G1.c0
    have g1 := G1.c1
    have g2 := G1.c2
    obtain ⟨z0, z1, z2⟩ := Z1
    have bw := hBq.trans (bl.mono hBq.size)
    have hfr : Frs (w.heap.size + 1) ap := hN.2.1.mono (by omega)
    have ne1 : ¬ p = w.heap.size := by omega
    have ne2 : ¬ w.heap.size = p := by omega
    have hrow := hH.row
    rw [e2]
    clear hS on hr hN hH G1 G0 Z0 om cx cy
    generalize v 0 = x0
    generalize v 1 = x1
    generalize v 2 = x2
    generalize v 3 = x3
    generalize v 4 = x4
    generalize v 5 = x5
    generalize v 6 = x6
    generalize v 7 = x7
    generalize v 8 = x8
    generalize v 9 = x9
    generalize v 10 = x10
    generalize v 11 = x11
    generalize v 12 = x12
    generalize v 13 = x13
    generalize v 16 = x16
    go_wp2
    exact bodyPost_ret (v := .agg #[.bool P.neg, .slice ap P.mag.length cp, .int .i64 P.exp]) (by simp [results, Tryd.results30, go_sem, g0, g1, g2]) rfl ⟨ap, cp, rfl, ((hrow.box hfr (by omega) _ _).box hfr (by omega) _ _).box hfr (by omega) _ _, hfr.mono (by omega), ((bw.setCell (Nat.le_refl _) _).setCell (Nat.le_refl _) _).setCell (Nat.le_refl _) _⟩
end Go.Proofs.YtfhejejfeffdcaaDoor

namespace Go.Proofs.YtfhejejfeffdcaaDoor
open Go.RowKit

set_option maxRecDepth 100000 in
set_option maxHeartbeats 4000000 in
theorem dnone_any (xs ys : List Nat) (ao bo : Option Addr) (cap cap2 A B : Nat) (m : Int) (P T : Nat → Dy) (w : World) (hT : TabW w) (hr : GRow w ao xs) (hs : GRow w bo ys) (hF : FW xs) (hG : FW ys) (hln : ys.length = xs.length) (hn : xs.length ≤ 1125899906842624) (hA : w.cell? ⟨A, 0, none⟩ = some (.slice ao xs.length cap)) (hB : w.cell? ⟨B, 0, none⟩ = some (.slice bo ys.length cap2))
    (hO : ∀ k, k < xs.length → ∃ X Y, ofD (xs.getD k 0) = (X, 0) ∧ ofD (ys.getD k 0) = (Y, 0) ∧ mulD X Y = (P k, 0) ∧ Lm X.mag ∧ Lm Y.mag ∧ Lm (P k).mag) (hT0 : T 0 = dy0) (hAd : ∀ k, k < xs.length → addD (T k) (P k) = (T (k + 1), 0)) (hL : ∀ k, k ≤ xs.length → Lm (T k).mag) (hR : rightB (T xs.length) = true) :
    Calls Tryd.prog 18 #[.int .i64 xs.length, .int .i8 m, .func (.func 30) #[] #[.pointer (some ⟨A, 0, none⟩), .pointer (some ⟨B, 0, none⟩)]] w fun e w' => e = .returned (.float .f64 (rndW (T xs.length) m)) ∧ Below w.heap.size w w' := by
  have e0 : (T 0).neg = false ∧ (T 0).mag = [] ∧ (T 0).exp = 0 := by rw [hT0]; exact ⟨rfl, rfl, rfl⟩
  go_enter Tryd.func18, Tryd.ntmps18
  go_wp2
  go_loopg [8, 13] xs.length (fun g _ i wr => ∃ k : Nat, ∃ a c, k ≤ xs.length ∧ g = xs.length - k ∧ i = .int .i64 k ∧ Hid (Hd wr w.heap.size (T k) a c) ∧ Hid (Fz wr w.heap.size) ∧ Hid (Frs (w.heap.size + 1) a) ∧ Hid (Below w.heap.size w wr))
  case atStart =>
    refine ⟨0, none, 0, Nat.zero_le _, rfl, rfl, (show Hd _ _ _ _ _ from ⟨?_, ?_, ?_, Or.inl (by rw [e0.2.1]; rfl)⟩), (show Fz _ _ from ⟨?_, ?_, ?_⟩), Frs.none _, (show Below _ _ _ from (Below.refl _ _).alloc (Nat.le_refl _) _)⟩
    · rw [e0.1]; go_simp
    · rw [e0.2.1]; go_simp
    · rw [e0.2.2]; go_simp
    all_goals go_simp
  case round =>
    obtain ⟨k, a, c, hk, hg, rfl, hH, hZ, hfr, hBl⟩ := hrel
    have HG : Hid (gk = xs.length - k) := hg
    clear hg
    have hP : w.heap.size < wr.heap.size := World.block_lt_of_cell? wr _ hH.out.c0
    by_cases hlt : k < xs.length
    · have hAw : wr.cell? ⟨A, 0, none⟩ = some (.slice ao xs.length cap) := by
        rw [hBl.out.cell (World.block_lt_of_cell? w _ hA)]; exact hA
      have hBw : wr.cell? ⟨B, 0, none⟩ = some (.slice bo ys.length cap2) := by
        rw [hBl.out.cell (World.block_lt_of_cell? w _ hB)]; exact hB
      rcases hr.below hBl.out with h | ⟨b, off, rfl, hc⟩
      · omega
      rcases hs.below hBl.out with h | ⟨b2, off2, rfl, hd⟩
      · omega
      · have hTr := tabW_below hT hBl.out
        obtain ⟨X, Y, eX, eY, eP, lX, lY, lP⟩ := hO k hlt
        have ce := dx1_any xs.length ys.length b off cap b2 off2 cap2 A B k _ _ X Y (P k) wr.drew hTr (hF.at hlt) (hG.at (by omega)) eX eY eP lX lY (hc k hlt) (hd k (by omega)) hlt (by omega) hAw hBw
        have oa := fun ao bo cap bcap w h1 h2 h3 => Add_any (T k) (P k) ao bo cap bcap w h1 h2 (hL k hk) lP h3
        rw [hAd k hlt] at oa
        have HH := hH.out
        have HZ := hZ.out
        have HF := hfr.out
        have HB := hBl.out
        have k0 := HH.c0
        have k1 := HH.c1
        have k2 := HH.c2
        obtain ⟨f0, f1, f2⟩ := hZ.out
        have i1 : (k : Int) < (xs.length : Int) := by omega
        clear hc hO hAd hL hR hF hBw hAw hd hG eX eY eP lX lY lP hln
        generalize P k = D at *
        go_wp2
        go_region_with
          (first
            | (go_at_call 30; refine ce.mono ?_; rintro e x1 ⟨ax, cx, rfl, r1, _, y1⟩; have z1 := ldrew y1; have H1 := HH.below z1; have k0 := H1.c0; have k1 := H1.c1; have k2 := H1.c2; have T1 := tabW_below hTr z1)
            | (go_at_call 24; refine (oa _ _ _ _ _ H1.row r1 T1).mono ?_; rintro e x2 ⟨ae, cae, rfl, r2, fr2, y2⟩; have z2 := z1.trans (y2.mono z1.size); have H2 := HH.below z2; have k0 := H2.c0; have k1 := H2.c1; have k2 := H2.c2; have Z2 := HZ.below hP z2; obtain ⟨f0, f1, f2⟩ := Z2; have Z2 := HZ.below hP z2))
        all_goals
          have hfe : Frs (w.heap.size + 1) ae := fr2.mono (by have := z1.size; omega)
          have hBz := HB.trans (z2.mono HB.size)
          have P3 := put3 (c := cae) H2 Z2 r2 hfe (by omega)
          go_wp2
          go_roundg (xs.length - (k + 1))
          case measure => rw [HG.out]; omega
          case rel => exact ⟨k + 1, ae, cae, by omega, rfl, by go_num, P3.1, P3.2, hfe, ((hBz.setCell (Nat.le_refl _) _).setCell (Nat.le_refl _) _).setCell (Nat.le_refl _) _⟩
    · have ek : k = xs.length := by omega
      subst ek
      have hRo := fun w h => Round_ok (T xs.length).neg (T xs.length).mag (T xs.length).exp a c m w h (hL _ (Nat.le_refl _)) hR
      have HH := hH.out
      have k0 := HH.c0
      have k1 := HH.c1
      have k2 := HH.c2
      have hrow := HH.row
      have HB := hBl.out
      have i1 : ¬ (xs.length : Int) < (xs.length : Int) := by omega
      clear hO hAd hL hR hF
      go_wp2_with (go_at_call 7; refine (hRo _ hrow).mono ?_; rintro e w2 ⟨rfl, b2⟩)
      go_ret
      exact ⟨rfl, HB.trans (b2.mono HB.size)⟩
theorem dxlen_ne {n k : Nat} (h : n ≠ k) : ((n : Int) != (k : Int)) = true := by
  simp; omega
/-- What DotExact answers. -/
def dxA (xs ys : List Nat) (m : Int) : Nat × Int := if ys.length = xs.length then (if xs.all finB && ys.all finB then (dxW xs ys m, 0) else (0, 5)) else (0, 4)
theorem dx_yes {xs ys : List Nat} {m : Int} (h1 : ys.length = xs.length) (h2 : xs.all finB = true) (h3 : ys.all finB = true) : dxA xs ys m = (dxW xs ys m, 0) := by
  unfold dxA; rw [if_pos h1, h2, h3]; rfl
set_option maxRecDepth 100000 in
set_option maxHeartbeats 2000000 in
theorem dotx_any (xs ys : List Nat) (ao bo : Option Addr) (cap cap2 : Nat) (m : Int) (w : World) (hT : TabW w) (hr : GRow w ao xs) (hs : GRow w bo ys) (hF : FW xs) (hG : FW ys) (hn : xs.length ≤ 1125899906842624) (hm : ys.length ≤ 1125899906842624) :
    Calls Tryd.prog 11 #[.slice ao xs.length cap, .slice bo ys.length cap2, .int .i8 m] w fun e w' => e = .returned (.tuple #[.float .f64 (dxA xs ys m).1, .int .i64 (dxA xs ys m).2]) ∧ Below w.heap.size w w' := by
  have ca := fun w h => allfin_any xs ao cap w h hF hn
  have cb := fun w h => allfin_any ys bo cap2 w h hG hm
  have B2 : Below w.heap.size w ((w.alloc (.cells #[.slice ao xs.length cap] 22)).alloc (.cells #[.slice bo ys.length cap2] 22)) := ((Below.refl _ _).alloc (Nat.le_refl _) _).alloc (by simp) _
  have gA : ((w.alloc (.cells #[.slice ao xs.length cap] 22)).alloc (.cells #[.slice bo ys.length cap2] 22)).cell? ⟨w.heap.size, 0, none⟩ = some (.slice ao xs.length cap) := by go_simp
  have gB : ((w.alloc (.cells #[.slice ao xs.length cap] 22)).alloc (.cells #[.slice bo ys.length cap2] 22)).cell? ⟨w.heap.size + 1, 0, none⟩ = some (.slice bo ys.length cap2) := by go_simp
  have g1 := hr.below B2
  have g2 := hs.below B2
  have gT := tabW_below hT B2
  by_cases hl : ys.length = xs.length
  case neg =>
    have e1 : dxA xs ys m = (0, 4) := by unfold dxA; rw [if_neg hl]
    have i1 : ((xs.length : Int) != (ys.length : Int)) = true := dxlen_ne (fun h => hl h.symm)
    rw [e1]
    clear hl e1
    go_enter Tryd.func11, Tryd.ntmps11
    go_wp2
    exact bodyPost_ret (v := .tuple #[.float .f64 0, .int .i64 4]) (by simp [results, Tryd.results11, go_sem]) rfl ⟨rfl, B2⟩
  have i1 : ((xs.length : Int) != (ys.length : Int)) = false := by simp; omega
  cases hf : xs.all finB
  · have e1 : dxA xs ys m = (0, 5) := by unfold dxA; rw [if_pos hl, hf]; rfl
    rw [hf] at ca
    rw [e1]
    clear hl e1 hf
    go_enter Tryd.func11, Tryd.ntmps11
    go_wp2_with (go_at_call 17; refine (ca _ g1).mono ?_; rintro e w' ⟨rfl, h'⟩; subst w')
    exact bodyPost_ret (v := .tuple #[.float .f64 0, .int .i64 5]) (by simp [results, Tryd.results11, go_sem]) rfl ⟨rfl, B2⟩
  rw [hf] at ca
  cases hg : ys.all finB
  · have e1 : dxA xs ys m = (0, 5) := by unfold dxA; rw [if_pos hl, hf, hg]; rfl
    rw [hg] at cb
    rw [e1]
    clear hl e1 hf hg
    go_enter Tryd.func11, Tryd.ntmps11
    go_wp2_with (first
      | (go_at_call_of 17 (Value.slice ao xs.length cap); refine (ca _ g1).mono ?_; rintro e w' ⟨rfl, h'⟩; subst w')
      | (go_at_call 17; refine (cb _ g2).mono ?_; rintro e w' ⟨rfl, h'⟩; subst w'))
    exact bodyPost_ret (v := .tuple #[.float .f64 0, .int .i64 5]) (by simp [results, Tryd.results11, go_sem]) rfl ⟨rfl, B2⟩
  rw [hg] at cb
  rw [dx_yes hl hf hg]
  have ci := dnone_any xs ys ao bo cap cap2 w.heap.size (w.heap.size + 1) m (fun k => dz (vI (xs.getD k 0) * vI (ys.getD k 0))) (fun k => dz (dI xs ys k)) _ gT g1 g2 hF hG hl hn gA gB
    (fun k hk => by
      have fx := fin_at hf hk
      have fy := fin_at hg (k := k) (by omega)
      obtain ⟨a1, _, a3, _⟩ := fq_qd fx (K := 64462) rfl
      obtain ⟨b1, _, b3, _⟩ := fq_qd fy (K := 64462) rfl
      exact ⟨_, _, by rw [← a1], by rw [← b1], mul_fq fx fy, a3, b3, nrm_lm _ _⟩) rfl (fun k hk => dt_add hf hg hl hn hk) (fun k _ => nrm_lm _ _) (dt_qd hf hg hl hn (Nat.le_refl _) (K := 63388) rfl).1
  rw [show rndW (dz (dI xs ys xs.length)) m = dxW xs ys m from rfl] at ci
  generalize dxW xs ys m = R at *
  have HB := B2.size
  clear hl hf hg
  go_enter Tryd.func11, Tryd.ntmps11
  go_wp2_with (first
    | (go_at_call_of 17 (Value.slice ao xs.length cap); refine (ca _ g1).mono ?_; rintro e w' ⟨rfl, h'⟩; subst w')
    | (go_at_call 17; refine (cb _ g2).mono ?_; rintro e w' ⟨rfl, h'⟩; subst w')
    | (go_at_call 18; refine ci.mono ?_; rintro e w2 ⟨rfl, b2⟩))
  exact bodyPost_ret (v := .tuple #[.float .f64 R, .int .i64 0]) (by simp [results, Tryd.results11, go_sem]) rfl ⟨rfl, B2.trans (b2.mono HB)⟩
end Go.Proofs.YtfhejejfeffdcaaDoor
