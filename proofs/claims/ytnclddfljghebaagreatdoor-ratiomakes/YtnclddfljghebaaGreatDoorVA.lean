/- The document's Told. (Written by mkrv2.py.) -/
import Derived.Orders
import Derived.RowKit
import Derived.Below
import Derived.Test.YtnclddfljghebaaGreatDoorNW
import Derived.Test.YtnclddfljghebaaGreatDoorQ5
import Derived.Maps.AppendAt
import Derived.Deep.Upon
namespace Go.Proofs.YtnclddfljghebaaGreatDoor
open Go.RowKit

/-- Is operation i done? -/
def On (L : Array Bool) (i : Nat) : Prop := L.getD i false = true
theorem on_set {L : Array Bool} {i : Nat} (hi : i < L.size) (j : Nat) : On (L.setIfInBounds i true) j ↔ j = i ∨ On L j := by
  unfold On
  simp only [Array.getD_eq_getD_getElem?, Array.getElem?_setIfInBounds]
  by_cases h : i = j
  · subst h; simp [hi]
  · have h2 : ¬ j = i := fun e => h e.symm
    simp [h, h2]
def lacks (L : Array Bool) : Nat := L.toList.count false
theorem count_set : ∀ (l : List Bool) (i : Nat) (hi : i < l.length), l[i] = false → (l.set i true).count false + 1 = l.count false
  | [], _, hi, _ => by simp at hi
  | x :: l, 0, _, h => by
    have h : x = false := h
    subst h
    simp
  | x :: l, i + 1, hi, h => by
    have := count_set l i (by simpa using hi) (by simpa using h)
    simp only [List.set_cons_succ, List.count_cons]
    omega
theorem lacks_set {L : Array Bool} {i : Nat} (hi : i < L.size) (h : L.getD i true = false) : lacks (L.setIfInBounds i true) + 1 = lacks L := by
  unfold lacks
  obtain ⟨l⟩ := L
  have hi : i < l.length := hi
  have h' : l[i] = false := by simpa [Array.getD, hi] using h
  have := count_set l i hi h'
  simpa using this
theorem all_on {L : Array Bool} (h : lacks L = 0) (i : Nat) : L.getD i true = true := by
  unfold lacks at h
  rw [List.count_eq_zero] at h
  obtain ⟨l⟩ := L
  by_cases hi : i < l.length
  · have hm : l[i] ∈ l := List.getElem_mem hi
    cases hl : l[i]
    · rw [hl] at hm; exact absurd hm h
    · simp [Array.getD, hi, hl]
  · simp [Array.getD, hi]
theorem mem_ready {ops : Array Oper} {L : Array Bool} {i : Nat} (h : i ∈ Region.ready .any ops L) : i < ops.size ∧ L.getD i true = false ∧ ∀ o, ops[i]? = some o → ∀ e ∈ o.after, Region.binds .any e = true → On L e.on := by
  unfold Region.ready at h
  rw [List.mem_filter, List.mem_range] at h
  obtain ⟨h1, h2⟩ := h
  simp only [Bool.and_eq_true, Bool.not_eq_true'] at h2
  refine ⟨h1, h2.1, fun o ho e he hb => ?_⟩
  have h3 := h2.2
  rw [ho] at h3
  simp only [Option.map_some, Option.getD_some, Array.all_eq_true_iff_forall_mem] at h3
  have := h3 e he
  rw [hb] at this
  simpa [On] using this
/-- What an operation that may be next waits for is done. -/
theorem ready_dep {ops : Array Oper} {L : Array Bool} {i : Nat} (h : i ∈ Region.ready .any ops L) (k : Nat) (hk : ((ops[i]?).map (fun o => o.after.any fun e => Region.binds .any e && e.on == k)).getD false = true) : On L k := by
  obtain ⟨h1, _, h3⟩ := mem_ready h
  cases ho : ops[i]? with
  | none => rw [ho] at hk; cases hk
  | some o =>
    rw [ho] at hk
    simp only [Option.map_some, Option.getD_some] at hk
    have hk2 : ∃ e, e ∈ o.after ∧ (Region.binds .any e && e.on == k) = true := by
      rw [← Array.any_toList] at hk
      obtain ⟨e, he, hb⟩ := List.any_eq_true.1 hk
      exact ⟨e, by simpa using he, hb⟩
    obtain ⟨e, he, hb⟩ := hk2
    simp only [Bool.and_eq_true, beq_iff_eq] at hb
    rw [← hb.2]
    exact h3 o ho e he hb.1
/-- Where none may be next, all are done (each waits for earlier ones alone). -/
theorem all_done {ops : Array Oper} {L : Array Bool} (hL : L.size = ops.size) (h : Region.ready .any ops L = []) (hk : ((List.range ops.size).all fun i => ((ops[i]?).map (fun o => o.after.all fun e => !Region.binds .any e || decide (e.on < i))).getD true) = true) : ∀ i, i < ops.size → On L i := by
  intro i
  induction i using Nat.strongRecOn with
  | _ i ih =>
    intro hi
    by_cases hn : On L i
    · exact hn
    · exfalso
      have hm : i ∈ Region.ready .any ops L := by
        unfold Region.ready
        rw [List.mem_filter, List.mem_range]
        refine ⟨hi, ?_⟩
        simp only [Bool.and_eq_true, Bool.not_eq_true']
        constructor
        · unfold On at hn
          simp [Array.getD, hL, hi] at hn ⊢
          exact hn
        · rw [Array.getElem?_eq_getElem hi]
          simp only [Option.map_some, Option.getD_some]
          rw [Array.all_eq_true_iff_forall_mem]
          intro e he
          have h1 := List.all_eq_true.1 hk i (List.mem_range.2 hi)
          rw [Array.getElem?_eq_getElem hi] at h1
          simp only [Option.map_some, Option.getD_some] at h1
          have h2 := Array.all_eq_true_iff_forall_mem.1 h1 e he
          simp only [Bool.or_eq_true, Bool.not_eq_true', decide_eq_true_eq] at h2 ⊢
          rcases h2 with h2 | h2
          · exact Or.inl h2
          · exact Or.inr (ih e.on h2 (by omega))
      rw [h] at hm
      cases hm
theorem wpAny_inv {P : Program} {ops : Array Oper} {Q : Exit → Act → World → Prop} (Inv : Array Bool → Act → World → Prop)
    (hs : ∀ L a w i, L.size = ops.size → Inv L a w → i ∈ Region.ready .any ops L → wpOp P ops Q i (Inv (L.setIfInBounds i true)) a w)
    (hf : ∀ L a w, L.size = ops.size → Inv L a w → Region.ready .any ops L = [] → Q .normal a w) :
    ∀ fuel L a w, L.size = ops.size → lacks L ≤ fuel → Inv L a w → wpAny P .any ops Q fuel L a w := by
  intro fuel
  induction fuel with
  | zero =>
    intro L a w hL hc hI
    have hr : Region.ready .any ops L = [] := by
      rw [List.eq_nil_iff_forall_not_mem]
      intro i hi
      have h := (mem_ready hi).2.1
      rw [all_on (by omega) i] at h
      cases h
    exact ⟨hr, hf L a w hL hI hr⟩
  | succ fuel ih =>
    intro L a w hL hc hI
    refine ⟨hf L a w hL hI, fun i hi => ?_⟩
    obtain ⟨h1, h2, _⟩ := mem_ready hi
    refine wpOp_mono (fun a' w' h' => ih _ a' w' (by simp [hL]) ?_ h') (hs L a w i hL hI hi)
    have := lacks_set (by rw [hL]; exact h1) h2
    omega
theorem region_inv {P : Program} {ops : Array Oper} {Q : Exit → Act → World → Prop} {id : Nat} {a : Act} {w : World} (hm : P.follows .mixedOrders = true) (Inv : Array Bool → Act → World → Prop)
    (h0 : Inv (Array.replicate ops.size false) a w.drew)
    (hs : ∀ L a w i, L.size = ops.size → Inv L a w → i ∈ Region.ready .any ops L → wpOp P ops Q i (Inv (L.setIfInBounds i true)) a w)
    (hf : ∀ L a w, L.size = ops.size → Inv L a w → Region.ready .any ops L = [] → Q .normal a w) : (Code.region id ops true).wp P Q a w :=
  wp_region_any hm (wpAny_inv Inv hs hf ops.size _ _ _ (by simp) (by unfold lacks; simp) h0)
end Go.Proofs.YtnclddfljghebaaGreatDoor

namespace Go.Proofs.YtnclddfljghebaaGreatDoor
open Go.RowKit

theorem onT_none {n i : Nat} : ¬ On (Array.replicate n false) i := by
  unfold On
  simp only [Array.getD_eq_getD_getElem?, Array.getElem?_replicate]
  split <;> simp
theorem offT_not {L : Array Bool} {i : Nat} (hi : i < L.size) (h : L.getD i true = false) : ¬ On L i := by
  unfold On
  intro h2
  simp [Array.getD, hi] at h h2
  rw [h] at h2
  cases h2
theorem onT_over {L : Array Bool} {k : Nat} (h : L.size ≤ k) : ¬ On L k := by
  unfold On
  simp [Array.getD, Nat.not_lt.2 h]
theorem wpOpT_of {P : Program} {ops : Array Oper} {Q : Exit → Act → World → Prop} {i : Nat} {a : Act} {w : World} {K' : Act → World → Prop} (h : ∀ K : Act → World → Prop, (∀ a w, K' a w → K a w) → wpOp P ops Q i K a w) : wpOp P ops Q i K' a w := h K' (fun _ _ h => h)
def putT (v : Nat → Value) (i : Nat) (x : Value) (n : Nat) : Value := if n = i then x else v n
/-- Does operation j wait for k? -/
def waitsT (ops : Array Oper) (j k : Nat) : Bool := ((ops[j]?).map (fun o => o.after.any fun e => Region.binds .any e && e.on == k)).getD false
structure RgT (n : Nat) (W : World) (is : Nat) (pre : Nat → Bool) (F : Nat → World → Value → Prop) (K : Nat → Value → Prop) (Z : World → Prop) (L : Array Bool) (w : World) (v : Nat → Value) : Prop where
  a : ¬ On L is → Below W.heap.size W w
  f : ¬ On L is → ∀ j, pre j = true → On L j → F j w (v j)
  k : ∀ j, j ≠ is → pre j = false → On L j → K j (v j)
  z : On L is → Z w
  al : On L is → ∀ j, pre j = true → j < n → On L j
section
variable {n : Nat} {ops : Array Oper} {W : World} {is : Nat} {pre : Nat → Bool} {F : Nat → World → Value → Prop} {K : Nat → Value → Prop} {Z : World → Prop} {L : Array Bool} {w : World} {v : Nat → Value}
theorem RgT.start {m : Nat} (h : Below W.heap.size W w) : RgT n W is pre F K Z (Array.replicate m false) w v :=
  ⟨fun _ => h, fun _ _ _ q => absurd q onT_none, fun _ _ _ q => absurd q onT_none, fun q => absurd q onT_none, fun q => absurd q onT_none⟩
theorem RgT.open {i : Nat} (h : RgT ops.size W is pre F K Z L w v) (hL : L.size = ops.size) (hi : i ∈ Region.ready .any ops L) (hp : pre i = true) : ¬ On L is := by
  obtain ⟨h1, h2, _⟩ := mem_ready hi
  exact fun q => offT_not (by rw [hL]; exact h1) h2 (h.al q i hp h1)
theorem RgT.step {i : Nat} {u : Value} {w' : World} (hm : ∀ j w w' v, F j w v → Below w.heap.size w w' → F j w' v) (h : RgT ops.size W is pre F K Z L w v) (hL : L.size = ops.size) (hi : i ∈ Region.ready .any ops L) (hp : pre i = true) (hne : i ≠ is) (hb : Below w.heap.size w w') (hu : F i w' u) :
    RgT ops.size W is pre F K Z (L.setIfInBounds i true) w' (putT v i u) := by
  have hi2 : i < L.size := by rw [hL]; exact (mem_ready hi).1
  have on := fun (j : Nat) (q : j ≠ i) (e : On (L.setIfInBounds i true) j) => ((on_set hi2 j).1 e).resolve_left q
  have hns := h.open hL hi hp
  have a1 := h.a hns
  refine ⟨fun _ => a1.trans (hb.mono a1.size), fun _ j hj e => ?_, fun j hj hq e => ?_, fun e => absurd (on is (Ne.symm hne) e) hns, fun e => absurd (on is (Ne.symm hne) e) hns⟩
  · by_cases q : j = i
    · subst q; rw [putT, if_pos rfl]; exact hu
    · rw [putT, if_neg q]; exact hm _ _ _ _ (h.f hns j hj (on j q e)) hb
  · have q : j ≠ i := fun q => by rw [q, hp] at hq; cases hq
    rw [putT, if_neg q]; exact h.k j hj hq (on j q e)
theorem RgT.late {i : Nat} {u : Value} (h : RgT ops.size W is pre F K Z L w v) (hL : L.size = ops.size) (hi : i ∈ Region.ready .any ops L) (hp : pre i = false) (hne : i ≠ is) (hu : K i u) :
    RgT ops.size W is pre F K Z (L.setIfInBounds i true) w (putT v i u) := by
  have hi2 : i < L.size := by rw [hL]; exact (mem_ready hi).1
  have on := fun (j : Nat) (q : j ≠ i) (e : On (L.setIfInBounds i true) j) => ((on_set hi2 j).1 e).resolve_left q
  have off : ¬ On L is → ¬ On (L.setIfInBounds i true) is := fun q e => q (on is (Ne.symm hne) e)
  have bac : ¬ On (L.setIfInBounds i true) is → ¬ On L is := fun q e => q ((on_set hi2 is).2 (Or.inr e))
  refine ⟨fun q => h.a (bac q), fun q j hj e => ?_, fun j hj hq e => ?_, fun e => h.z (on is (Ne.symm hne) e), fun e j hj hl => (on_set hi2 j).2 (Or.inr (h.al (on is (Ne.symm hne) e) j hj hl))⟩
  · have r : j ≠ i := fun r => by rw [r, hp] at hj; cases hj
    rw [putT, if_neg r]; exact h.f (bac q) j hj (on j r e)
  · by_cases r : j = i
    · subst r; rw [putT, if_pos rfl]; exact hu
    · rw [putT, if_neg r]; exact h.k j hj hq (on j r e)
theorem RgT.last {u : Value} {w' : World} (h : RgT ops.size W is pre F K Z L w v) (hL : L.size = ops.size) (hi : is ∈ Region.ready .any ops L) (hall : ((List.range ops.size).all fun j => !pre j || waitsT ops is j) = true) (hz : Z w') :
    RgT ops.size W is pre F K Z (L.setIfInBounds is true) w' (putT v is u) := by
  have hi2 : is < L.size := by rw [hL]; exact (mem_ready hi).1
  refine ⟨fun q => absurd ((on_set hi2 is).2 (Or.inl rfl)) q, fun q => absurd ((on_set hi2 is).2 (Or.inl rfl)) q, fun j hj hq e => ?_, fun _ => hz, fun _ j hj hl => ?_⟩
  · rw [putT, if_neg hj]; exact h.k j hj hq (((on_set hi2 j).1 e).resolve_left hj)
  · have := List.all_eq_true.1 hall j (List.mem_range.2 hl)
    simp only [hj, Bool.not_true, Bool.false_or] at this
    exact (on_set hi2 j).2 (Or.inr (ready_dep hi j this))
theorem region_rgT {Pr : Program} {Q : Exit → Act → World → Prop} {id : Nat} {a : Act} (hm : Pr.follows .mixedOrders = true) (G : (Nat → Value) → Act) (is : Nat) (pre : Nat → Bool) (F : Nat → World → Value → Prop) (K : Nat → Value → Prop) (Z : World → Prop) (v0 : Nat → Value) (h0 : a = G v0)
    (hs : ∀ L v w i, L.size = ops.size → RgT ops.size W is pre F K Z L w v → i ∈ Region.ready .any ops L → wpOp Pr ops Q i (fun a' w' => ∃ v', a' = G v' ∧ RgT ops.size W is pre F K Z (L.setIfInBounds i true) w' v') (G v) w)
    (hf : ∀ L v w, L.size = ops.size → RgT ops.size W is pre F K Z L w v → Region.ready .any ops L = [] → Q .normal (G v) w) : (Code.region id ops true).wp Pr Q a W := by
  refine region_inv hm (fun L a w' => ∃ v, a = G v ∧ RgT ops.size W is pre F K Z L w' v) ⟨v0, h0, RgT.start (Below.refl _ _).drew⟩ ?_ ?_
  · rintro L a w' i hL ⟨v, rfl, hS⟩ hi
    exact hs L v w' i hL hS hi
  · rintro L a w' hL ⟨v, rfl, hS⟩ hr
    exact hf L v w' hL hS hr
end
/-- A builtin append whose answer is known. -/
theorem opT_append {P : Program} {ops : Array Oper} {Q : Exit → Act → World → Prop} {i : Nat} {K : Act → World → Prop} {a : Act} {w w' : World} {t ty : TypeId} {v u v' : Value} (o : Oper) (s x : Operand) (hi : ops[i]? = some o) (hg : o.guard = none)
    (ho : o.op = .call { callee := .builtin .append, args := #[s, x], argTypes := #[t, t] }) (hty : o.type = ty) (hs : a.eval s = v) (hx : a.eval x = u) (hr : (Builtin.append_ #[t, t] ty #[v, u]).run P w = .ok v' w') (h : K (a.put o.dst v') w') : wpOp P ops Q i K a w := by
  unfold wpOp
  rw [hi]
  simp only
  rw [if_pos (by unfold Region.wanted; rw [hg])]
  refine Or.inl ?_
  subst hty
  unfold Oper.wp execOp
  simp only [ho, resolve, invoke, builtin, Sem.run_bind, Sem.run_pure, Result.andThen_ok, List.map_toArray, List.map_cons, List.map_nil, hs, hx, hr]
  exact h
/-- What may be told of an operation's value: it is known; nothing; something that lasts. -/
inductive Lz where
  | is (x : Value)
  | tr
  | gn (P : World → Value → Prop) (h : ∀ w w' v, P w v → Below w.heap.size w w' → P w' v)
def Lz.holds : Lz → World → Value → Prop
  | .is x, _, v => v = x
  | .tr, _, _ => True
  | .gn P _, w, v => P w v
theorem Lz.mono (f : Nat → Lz) : ∀ j w w' v, (f j).holds w v → Below w.heap.size w w' → (f j).holds w' v := fun j w w' v h hb => by
  generalize f j = l at *
  cases l with
  | is x => exact h
  | tr => exact h
  | gn P hp => exact hp _ _ _ h hb
theorem Lz.ofIs {f : Nat → Lz} {j : Nat} {w : World} {v x : Value} (h : (f j).holds w v) (e : f j = .is x) : v = x := by rw [e] at h; exact h
theorem Lz.ofGn {f : Nat → Lz} {j : Nat} {w : World} {v : Value} {P : World → Value → Prop} {hp : ∀ w w' v, P w v → Below w.heap.size w w' → P w' v} (h : (f j).holds w v) (e : f j = .gn P hp) : P w v := by rw [e] at h; exact h
theorem Lz.toIs {f : Nat → Lz} {j : Nat} {w : World} {x : Value} (e : f j = .is x) : (f j).holds w x := by rw [e]; exact rfl
theorem Lz.toTr {f : Nat → Lz} {j : Nat} {w : World} {x : Value} (e : f j = .tr) : (f j).holds w x := by rw [e]; trivial
theorem Lz.toGn {f : Nat → Lz} {j : Nat} {w : World} {v : Value} {P : World → Value → Prop} {hp : ∀ w w' v, P w v → Below w.heap.size w w' → P w' v} (e : f j = .gn P hp) (h : P w v) : (f j).holds w v := by rw [e]; exact h
end Go.Proofs.YtnclddfljghebaaGreatDoor

namespace Go.Proofs.YtnclddfljghebaaGreatDoor
open Go.RowKit

theorem ns_ls {w : World} {ao : Option Addr} {cap : Nat} {xs : List Nat} (h : NS w ao cap xs) : LS w ao cap xs := ⟨h.1, h.2.2, fun e => (h.2.1 e).1⟩
theorem ls_ns {w : World} {ao : Option Addr} {cap : Nat} {xs : List Nat} (h : LS w ao cap xs) : NS w ao cap xs := ⟨h.1, fun e => ⟨h.2.2 e, by have := h.2.1; have := h.2.2 e; omega⟩, h.2.1⟩
/-- A fraction handed back. -/
def GaveFr (w : World) (n : Bool) (N D : Nat) (e : Ending) (w' : World) : Prop :=
  ∃ ao cap bo bcap, e = .returned (.agg #[.bool n, .slice ao (lo N).length cap, .slice bo (lo D).length bcap]) ∧ NS w' ao cap (lo N) ∧ NS w' bo bcap (lo D) ∧ Below w.heap.size w w'
theorem lo1 : lo 1 = [1] := (lo_one (by omega) (by omega)).2
theorem one7_any (w : World) : Calls Tryz.prog 48 #[] w (GaveN w (lo 1)) := by
  go_enter Tryz.func48, Tryz.ntmps48
  go_wp2
  go_ret
  exact ⟨some ⟨w.heap.size, 0, none⟩, 1, (by rw [lo1]; rfl), (by rw [lo1]; exact ls_ns (oneLS w 1 _)), fun a ha => (by cases ha; exact Nat.le_refl _), (Below.refl _ _).alloc (Nat.le_refl _) _⟩
set_option maxHeartbeats 400000 in
theorem fsign_any (n : Bool) (N : Nat) (ao bo : Option Addr) (cap dl bcap : Nat) (w : World) (h1 : NS w ao cap (lo N)) (hN : (lo N).length ≤ 1099511627776) :
    Calls Tryz.prog 71 #[.agg #[.bool n, .slice ao (lo N).length cap, .slice bo dl bcap]] w fun e w' => e = .returned (.int .i64 (sgR n N)) ∧ Below w.heap.size w w' := by
  have AB := B3q.new w (.bool n) (.slice ao (lo N).length cap) (.slice bo dl bcap) 59
  have hb0 : Below w.heap.size w (w.alloc (.cells #[.bool n, .slice ao (lo N).length cap, .slice bo dl bcap] 59)) := (Below.refl _ _).alloc (Nat.le_refl _) _
  have cB := natBits_any (lo N) ao cap _ (h1.below hb0) (lo_lm N) (by omega)
  rw [vl_lo] at cB
  obtain ⟨sg, hsg⟩ : ∃ sg, sgR n N = sg := ⟨_, rfl⟩
  rw [hsg]
  go_enter Tryz.func71, Tryz.ntmps71
  go_upto_region 1 with fail
  generalize w.alloc (.cells #[.bool n, .slice ao (lo N).length cap, .slice bo dl bcap] 59) = W0 at *
  obtain ⟨x0, x1, x2, _, _, _, _, _⟩ := id AB
  by_cases h0 : N = 0
  · subst h0
    have e0 : bl 0 = 0 := by kernel_rfl
    rw [e0] at cB
    have es : sgR n 0 = 0 := rfl
    obtain rfl : sg = 0 := hsg.symm.trans es
    clear es hsg
    go_wp2_with (go_at_call 98; refine cB.mono ?_; rintro e w1 ⟨rfl, b1⟩)
    go_ret
    exact ⟨rfl, hb0.trans (b1.mono hb0.size)⟩
  · have es : sgR n N = if n then -1 else 1 := by unfold sgR; rw [if_neg h0]
    have hp := (bl_spec h0).2.2
    generalize bl N = b at *
    have hp1 : ((b : Int) == 0) = false := by rw [beq_eq_false_iff_ne]; omega
    have es2 := hsg.symm.trans es
    clear es hsg h0
    cases n
    all_goals
      simp only [if_true, if_false, Bool.false_eq_true] at es2
      subst es2
      go_wp2_with (go_at_call 98; refine cB.mono ?_; rintro e w1 ⟨rfl, b1⟩; obtain ⟨y0, y1, y2, _, _, _, _, _⟩ := AB.below b1)
      go_ret
      exact ⟨rfl, hb0.trans (b1.mono hb0.size)⟩
/-- The least form of a fraction. -/
def lsA (n : Bool) (N D : Nat) : Bool × Nat × Nat := if N = 0 then (false, 0, 1) else (n, N / Nat.gcd N D, D / Nat.gcd N D)
theorem sg_is1 {a : Nat} : (sgI ((a : Int) - ((1 : Nat) : Int)) == 0) = (a == 1) := by
  unfold sgI
  rw [Bool.eq_iff_iff, beq_iff_eq, beq_iff_eq]
  (repeat' split) <;> constructor <;> intro h <;> omega
/-- Is a number 1? -/
theorem cmp1_any (a : Nat) (ao bo : Option Addr) (cap bcap : Nat) (w : World) (h1 : NS w ao cap (lo a)) (h2 : NS w bo bcap (lo 1)) (ha : (lo a).length ≤ 1099511627776) :
    Calls Tryz.prog 47 #[.slice ao (lo a).length cap, .slice bo (lo 1).length bcap] w fun e w' => e = .returned (.int .i64 (sgI ((a : Int) - ((1 : Nat) : Int)))) ∧ Below w.heap.size w w' := by
  have := natCmp_any (lo a) (lo 1) ao bo cap bcap w h1 h2 (lo_lm a) (lo_lm 1) (by omega) (by rw [lo1]; simp)
  rw [vl_lo, vl_lo] at this
  exact this
set_option maxRecDepth 100000 in
set_option maxHeartbeats 2000000 in
theorem least_any (n : Bool) (N D : Nat) (ao bo : Option Addr) (cap bcap : Nat) (w : World) (h1 : NS w ao cap (lo N)) (h2 : NS w bo bcap (lo D)) (hN : (lo N).length ≤ 1099511627776) (hD : (lo D).length ≤ 1099511627776) (hD0 : D ≠ 0) :
    Calls Tryz.prog 82 #[.agg #[.bool n, .slice ao (lo N).length cap, .slice bo (lo D).length bcap]] w (GaveFr w (lsA n N D).1 (lsA n N D).2.1 (lsA n N D).2.2) := by
  have AB := (B3q.new w (.bool n) (.slice ao (lo N).length cap) (.slice bo (lo D).length bcap) 59).alloc (.cells #[.bool false, .slice none 0 0, .slice none 0 0] 59)
  have OB := B3q.new (w.alloc (.cells #[.bool n, .slice ao (lo N).length cap, .slice bo (lo D).length bcap] 59)) (.bool false) (.slice none 0 0) (.slice none 0 0) 59
  have hs1 : (w.alloc (.cells #[.bool n, .slice ao (lo N).length cap, .slice bo (lo D).length bcap] 59)).heap.size = w.heap.size + 1 := by simp
  rw [hs1] at OB
  have hb0 : Below w.heap.size w ((w.alloc (.cells #[.bool n, .slice ao (lo N).length cap, .slice bo (lo D).length bcap] 59)).alloc (.cells #[.bool false, .slice none 0 0, .slice none 0 0] 59)) := ((Below.refl _ _).alloc (Nat.le_refl _) _).alloc (by rw [hs1]; omega) _
  have A1 := h1.below hb0
  have A2 := h2.below hb0
  have cs := fsign_any n N ao bo cap (lo D).length bcap _ A1 hN
  have co := fun W => one7_any W
  obtain ⟨xn, xN, xD, hl⟩ : ∃ a b c, lsA n N D = (a, b, c) := ⟨_, _, _, rfl⟩
  rw [hl]
  simp only
  go_enter Tryz.func82, Tryz.ntmps82
  go_upto_region 1 with fail
  generalize (w.alloc (.cells #[.bool n, .slice ao (lo N).length cap, .slice bo (lo D).length bcap] 59)).alloc (.cells #[.bool false, .slice none 0 0, .slice none 0 0] 59) = W0 at *
  obtain ⟨x0, x1, x2, _, _, _, _, _⟩ := id AB
  clear hs1 h1 h2
  by_cases h0 : N = 0
  · have e : lsA n N D = (false, 0, 1) := by unfold lsA; rw [if_pos h0]
    have e2 := hl.symm.trans e
    simp only [Prod.mk.injEq] at e2
    obtain ⟨rfl, rfl, rfl⟩ := e2
    have e1 : sgR n N = 0 := by unfold sgR; rw [if_pos h0]
    rw [e1] at cs
    clear e e1 h0 hl
    go_wp2_with (first
      | (go_at_call 71; refine cs.mono ?_; rintro e w1 ⟨rfl, b1⟩; have hb1 := hb0.trans (b1.mono hb0.size); have OB1 := OB.below b1)
      | (go_at_call 48; refine (co _).mono ?_; rintro e w2 ⟨oo, oc, rfl, k1, _, b2⟩; have hb2 := hb1.trans (b2.mono hb1.size); have OB2 := OB1.below b2; obtain ⟨o0, o1, o2, q0, q1, q2, _, _⟩ := id OB2))
    exact bodyPost_ret (v := .agg #[.bool false, .slice none 0 0, .slice oo (lo 1).length oc]) (by simp [results, Tryz.results82, go_sem, o0, o1, o2]) rfl ⟨none, 0, oo, oc, rfl, NS.nil _, ls_ns ((ns_ls k1).threeB OB2 _ _ _), below_three hb2 (by omega) _ _ _⟩
  · have e : lsA n N D = (n, N / Nat.gcd N D, D / Nat.gcd N D) := by unfold lsA; rw [if_neg h0]
    have e2 := hl.symm.trans e
    simp only [Prod.mk.injEq] at e2
    obtain ⟨rfl, eQ, eR⟩ := e2
    replace eQ := eQ.symm
    replace eR := eR.symm
    have e1 : (sgR xn N == 0) = false := by
      unfold sgR
      rw [if_neg h0]
      cases xn <;> rfl
    have cg := fun W (a1 : NS W ao cap (lo N)) (a2 : NS W bo bcap (lo D)) => natGcd_any (lo N) (lo D) ao bo cap bcap W a1 a2 (lo_lm N) (lo_lm D) hN hD
    simp only [vl_lo] at cg
    have g0 : Nat.gcd N D ≠ 0 := fun h => hD0 (Nat.eq_zero_of_gcd_eq_zero_right h)
    have gl : (lo (Nat.gcd N D)).length ≤ 1099511627776 := Nat.le_trans (lo_mono (Nat.le_of_dvd (Nat.pos_of_ne_zero hD0) (Nat.gcd_dvd_right N D))) hD
    have hE : Hid (Nat.gcd N D = 1 → (N / Nat.gcd N D = N ∧ D / Nat.gcd N D = D)) := (show _ → _ from fun h => by rw [h, Nat.div_one, Nat.div_one]; exact ⟨rfl, rfl⟩)
    have cn := fun W go gc (a1 : NS W ao cap (lo N)) (a3 : NS W go gc (lo (Nat.gcd N D))) => natDiv_any (lo N) (lo (Nat.gcd N D)) ao go cap gc W a1 a3 (lo_lm N) (lo_lm _) hN gl (by rw [vl_lo]; exact g0)
    have cd := fun W go gc (a2 : NS W bo bcap (lo D)) (a3 : NS W go gc (lo (Nat.gcd N D))) => natDiv_any (lo D) (lo (Nat.gcd N D)) bo go bcap gc W a2 a3 (lo_lm D) (lo_lm _) hD gl (by rw [vl_lo]; exact g0)
    simp only [vl_lo] at cn cd
    generalize sgR xn N = sg at *
    obtain ⟨V, eV⟩ : ∃ V, N % Nat.gcd N D = V := ⟨_, rfl⟩
    obtain ⟨U, eU'⟩ : ∃ U, D % Nat.gcd N D = U := ⟨_, rfl⟩
    rw [eQ, eR] at hE
    rw [eQ, eV] at cn
    rw [eR, eU'] at cd
    obtain ⟨G, eG⟩ : ∃ G, Nat.gcd N D = G := ⟨_, rfl⟩
    rw [eG] at cg cn cd gl hE
    have c1 := fun W go gc oo oc (a3 : NS W go gc (lo G)) (a4 : NS W oo oc (lo 1)) => cmp1_any G go oo gc oc W a3 a4 gl
    have hc : (sgI ((G : Int) - ((1 : Nat) : Int)) == 0) = (G == 1) := sg_is1
    generalize sgI ((G : Int) - ((1 : Nat) : Int)) = sc at *
    clear eQ eR eV eU' eG g0 e hl
    cases hg : (G == 1)
    · rw [hg] at hc
      clear hE
      go_wp2_with (first
        | (go_at_call 71; refine cs.mono ?_; rintro e w1 ⟨rfl, b1⟩; have hb1 := hb0.trans (b1.mono hb0.size); have OB1 := OB.below b1; have AB1 := AB.below b1; obtain ⟨y0, y1, y2, _, _, _, _, _⟩ := id AB1; have A11 := A1.below b1; have A21 := A2.below b1)
        | (go_at_call 49; refine (cg _ A11 A21).mono ?_; rintro e w2 ⟨go, gc, rfl, k3, b2⟩; have hb2 := hb1.trans (b2.mono hb1.size); have OB2 := OB1.below b2; have AB2 := AB1.below b2; have A12 := A11.below b2; have A22 := A21.below b2)
        | (go_at_call 48; refine (co _).mono ?_; rintro e w3 ⟨oo, oc, rfl, k4, _, b3⟩; have hb3 := hb2.trans (b3.mono hb2.size); have OB3 := OB2.below b3; have AB3 := AB2.below b3; have A13 := A12.below b3; have A23 := A22.below b3; have k33 := k3.below b3)
        | (go_at_call 47; refine (c1 _ _ _ _ _ k33 k4).mono ?_; rintro e w4 ⟨rfl, b4⟩; have hb4 := hb3.trans (b4.mono hb3.size); have OB4 := OB3.below b4; have AB4 := AB3.below b4; obtain ⟨z0, z1, z2, _, _, _, _, _⟩ := id AB4; have A14 := A13.below b4; have A24 := A23.below b4; have k34 := k33.below b4)
        | (go_at_call_of 84 (Value.slice ao (lo N).length cap); refine (cn _ _ _ A14 k34).mono ?_; rintro e w5 ⟨qo, qc, ro, rc, rfl, m5, _, b5⟩; have hb5 := hb4.trans (b5.mono hb4.size); have OB5 := OB4.below b5; have AB5 := AB4.below b5; obtain ⟨u0, u1, u2, _, _, _, _, _⟩ := id AB5; have A25 := A24.below b5; have k35 := k34.below b5)
        | (go_at_call_of 84 (Value.slice bo (lo D).length bcap); refine (cd _ _ _ A25 k35).mono ?_; rintro e w6 ⟨po, pc, so, sc', rfl, m6, _, b6⟩; have hb6 := hb5.trans (b6.mono hb5.size); have OB6 := OB5.below b6; have AB6 := AB5.below b6; obtain ⟨v0, v1, v2, _, _, _, _, _⟩ := id AB6; obtain ⟨o0, o1, o2, q0, q1, q2, _, _⟩ := id OB6; have m56 := m5.below b6))
      exact bodyPost_ret (v := .agg #[.bool xn, .slice qo (lo xN).length qc, .slice po (lo xD).length pc]) (by simp [results, Tryz.results82, go_sem, o0, o1, o2]) rfl ⟨qo, qc, po, pc, rfl, ls_ns ((ns_ls m56).threeB OB6 _ _ _), ls_ns ((ns_ls m6).threeB OB6 _ _ _), below_three hb6 (by omega) _ _ _⟩
    · rw [hg] at hc
      have hg1 : G = 1 := by simpa using hg
      obtain ⟨r1, r2⟩ := hE.out hg1
      subst r1
      subst r2
      clear hE cn cd hg1
      go_wp2_with (first
        | (go_at_call 71; refine cs.mono ?_; rintro e w1 ⟨rfl, b1⟩; have hb1 := hb0.trans (b1.mono hb0.size); have OB1 := OB.below b1; have AB1 := AB.below b1; obtain ⟨y0, y1, y2, _, _, _, _, _⟩ := id AB1; have A11 := A1.below b1; have A21 := A2.below b1)
        | (go_at_call 49; refine (cg _ A11 A21).mono ?_; rintro e w2 ⟨go, gc, rfl, k3, b2⟩; have hb2 := hb1.trans (b2.mono hb1.size); have OB2 := OB1.below b2; have AB2 := AB1.below b2; have A12 := A11.below b2; have A22 := A21.below b2)
        | (go_at_call 48; refine (co _).mono ?_; rintro e w3 ⟨oo, oc, rfl, k4, _, b3⟩; have hb3 := hb2.trans (b3.mono hb2.size); have OB3 := OB2.below b3; have AB3 := AB2.below b3; have A13 := A12.below b3; have A23 := A22.below b3; have k33 := k3.below b3)
        | (go_at_call 47; refine (c1 _ _ _ _ _ k33 k4).mono ?_; rintro e w4 ⟨rfl, b4⟩; have hb4 := hb3.trans (b4.mono hb3.size); have OB4 := OB3.below b4; have AB4 := AB3.below b4; obtain ⟨z0, z1, z2, _, _, _, _, _⟩ := id AB4; have A14 := A13.below b4; have A24 := A23.below b4; obtain ⟨o0, o1, o2, q0, q1, q2, _, _⟩ := id OB4))
      exact bodyPost_ret (v := .agg #[.bool xn, .slice ao (lo xN).length cap, .slice bo (lo xD).length bcap]) (by simp [results, Tryz.results82, go_sem, o0, o1, o2]) rfl ⟨ao, cap, bo, bcap, rfl, ls_ns ((ns_ls A14).threeB OB4 _ _ _), ls_ns ((ns_ls A24).threeB OB4 _ _ _), below_three hb4 (by omega) _ _ _⟩
end Go.Proofs.YtnclddfljghebaaGreatDoor

namespace Go.Proofs.YtnclddfljghebaaGreatDoor
open Go.RowKit

theorem nmA_ls {n : Bool} {N D : Nat} (hD : D ≠ 0) : ((nl (lsA n N D).2.1 ≤ 256 ∧ nl (lsA n N D).2.2 ≤ 256) → (nmA n N D).1 = some (lsA n N D)) ∧ (¬ (nl (lsA n N D).2.1 ≤ 256 ∧ nl (lsA n N D).2.2 ≤ 256) → nmA n N D = (none, 3)) := by
  unfold lsA nmA
  rw [if_neg hD]
  by_cases h0 : N = 0
  · simp only [if_pos h0]
    refine ⟨fun _ => ?_, fun h => absurd ⟨by decide, by decide⟩ h⟩
    trivial
  · simp only [if_neg h0]
    refine ⟨fun h => by rw [if_pos h], fun h => by rw [if_neg h]⟩
theorem own7_below {w w' : World} {b : Nat} {e : TypeId} {s : Nat} {v : Value} {n : Nat} {xs : List Value} (h : w.ownsRow b e s v n xs) (hb : Below w.heap.size w w') : w'.ownsRow b e s v n xs := by
  refine ⟨h.1, ?_⟩
  rcases h.2 with hn | ⟨g, cap, cur, h1, h2, h3, h4⟩
  · exact Or.inl hn
  · have hl : g < w.heap.size := by
      rcases Nat.lt_or_ge g w.heap.size with q | q
      · exact q
      · rw [Array.getElem?_eq_none q] at h3; cases h3
    exact Or.inr ⟨g, cap, cur, h1, h2, by rw [hb.block g hl]; exact h3, h4⟩
/-- Limbs appended to an empty list of its own. -/
theorem app7 {W2 w : World} {g : Nat} {xs : List Nat} {ao : Option Addr} {cap : Nat} (hB : Below W2.heap.size W2 w) (ho : w.ownsRow W2.heap.size 46 1 (.slice (some ⟨g, 0, none⟩) 0 0) 0 []) (h : NS w ao cap xs) (hl : xs.length ≤ 256) :
    ∃ qo qc w1, (Builtin.append_ #[22, 22] 22 #[.slice (some ⟨g, 0, none⟩) 0 0, .slice ao xs.length cap]).run Tryz.prog w = .ok (.slice qo xs.length qc) w1 ∧ NS w1 qo qc xs ∧ Below w.heap.size w w1 := by
  obtain ⟨i0, hi, hz0, hz1, hz2⟩ := info_parts Tryz.infoU
  cases ao with
  | none =>
    obtain ⟨rfl, h0⟩ := h.2.1 rfl
    have hx : xs = [] := List.eq_nil_of_length_eq_zero h0
    subst hx
    exact ⟨some ⟨g, 0, none⟩, 0, w, run_append_nothing w 22 22 22 46 i0 Tryz.underlying22 hi (some ⟨g, 0, none⟩) 0 0 (Nat.le_refl _) (.slice none 0 0) (by have := Src.ofNil (P := Tryz.prog) w (size := i0.size) Tryz.underlying22 0; exact this), ⟨Or.inl rfl, fun e => (by cases e), Nat.le_refl _⟩, Below.refl _ _⟩
  | some ad =>
    have hnews := news_of h.1 xs.length
    rw [List.take_length] at hnews
    obtain ⟨v', w1, e1, e2, e3, _, _⟩ := run_append_own_at (P := Tryz.prog) w W2.heap.size 22 22 46 i0 (.int .u64 0) 1 8 Tryz.underlying22 hi hz0 hz1 hz2 rfl (by decide) _ 0 [] ho ad xs.length cap (uv xs) (by rw [uv_length, Nat.mul_one]) hnews uv_one (by unfold maxLen; omega) (by omega) hB.size
    rw [Nat.zero_add, List.nil_append] at e2
    obtain ⟨qo, qc, rfl, k1, _⟩ := owned_ns e2
    refine ⟨qo, qc, w1, e1, k1, ?_⟩
    by_cases h0 : xs.length = 0
    · have hx : xs = [] := List.eq_nil_of_length_eq_zero h0
      subst hx
      have k := run_append_nothing (P := Tryz.prog) w 22 22 22 46 i0 Tryz.underlying22 hi (some ⟨g, 0, none⟩) 0 0 (Nat.le_refl _) (.slice (some ad) 0 cap) (Src.ofSlice w Tryz.underlying22 ad 0 cap [] (by simp) (by simp) (by simp))
      have k2 := e1.symm.trans k
      injection k2 with _ k3
      subst k3
      exact Below.refl _ _
    · have k := run_append_grow_src (P := Tryz.prog) w 22 22 22 46 i0 (.int .u64 0) Tryz.underlying22 hi hz0 (some ⟨g, 0, none⟩) 0 0 [] (run_firstCells_some w.drew i0.size 0 ⟨g, 0, none⟩ 0 0 [] (by simp) (by simp)) (.slice (some ad) xs.length cap) xs.length (uv xs) (Src.ofSlice w Tryz.underlying22 ad xs.length cap (uv xs) (by rw [uv_length, hz1, Nat.mul_one]) hnews uv_one) (by omega) (by omega) (by
        rw [hz2]
        unfold Builtin.nextslicecap
        rw [if_pos (by omega)]
        omega)
      have k2 := e1.symm.trans k
      injection k2 with _ k3
      subst k3
      exact (Below.refl w.heap.size w).drew.alloc (Nat.le_refl _) _
set_option maxRecDepth 100000 in
set_option maxHeartbeats 4000000 in
theorem told7_any (n : Bool) (N D : Nat) (ao bo : Option Addr) (cap bcap : Nat) (w : World) (h1 : NS w ao cap (lo N)) (h2 : NS w bo bcap (lo D)) (hN : (lo N).length ≤ 1099511627776) (hD : (lo D).length ≤ 1099511627776) (hD0 : D ≠ 0) :
    Calls Tryz.prog 42 #[.agg #[.bool n, .slice ao (lo N).length cap, .slice bo (lo D).length bcap]] w (GaveR w (nmA n N D).1 (nmA n N D).2) := by
  have OB := B3q.new (w.alloc (.cells #[.bool n, .slice ao (lo N).length cap, .slice bo (lo D).length bcap] 59)) (.bool false) (.slice none 0 0) (.slice none 0 0) 24
  have AB := (B3q.new w (.bool n) (.slice ao (lo N).length cap) (.slice bo (lo D).length bcap) 59).alloc (.cells #[.bool false, .slice none 0 0, .slice none 0 0] 24)
  have hs1 : (w.alloc (.cells #[.bool n, .slice ao (lo N).length cap, .slice bo (lo D).length bcap] 59)).heap.size = w.heap.size + 1 := by simp
  rw [hs1] at OB
  have hb0 : Below w.heap.size w ((w.alloc (.cells #[.bool n, .slice ao (lo N).length cap, .slice bo (lo D).length bcap] 59)).alloc (.cells #[.bool false, .slice none 0 0, .slice none 0 0] 24)) := ((Below.refl _ _).alloc (Nat.le_refl _) _).alloc (by rw [hs1]; omega) _
  have cl := least_any n N D ao bo cap bcap _ (h1.below hb0) (h2.below hb0) hN hD hD0
  obtain ⟨hy, hn⟩ := nmA_ls (n := n) (N := N) hD0
  obtain ⟨xn, xN, xD, hl⟩ : ∃ a b c, lsA n N D = (a, b, c) := ⟨_, _, _, rfl⟩
  rw [hl] at cl hy hn
  simp only at cl hy hn
  obtain ⟨o, er, ho⟩ : ∃ o er, nmA n N D = (o, er) := ⟨_, _, rfl⟩
  rw [ho] at hy hn ⊢
  simp only at hy hn ⊢
  rw [← lo_length, ← lo_length] at hy hn
  go_enter Tryz.func42, Tryz.ntmps42
  go_upto_region 1 with fail
  generalize (w.alloc (.cells #[.bool n, .slice ao (lo N).length cap, .slice bo (lo D).length bcap] 59)).alloc (.cells #[.bool false, .slice none 0 0, .slice none 0 0] 24) = W0 at *
  obtain ⟨x0, x1, x2, _, _, _, _, _⟩ := id AB
  clear hs1 h1 h2 ho hl
  go_upto_region 2 with (go_at_call 82; refine cl.mono ?_; rintro e w1 ⟨po, pc, qo, qc, rfl, k1, k2, b1⟩)
  have hb1 := hb0.trans (b1.mono hb0.size)
  have b2 := (Below.refl w1.heap.size w1).alloc (Nat.le_refl _) (.cells #[.bool xn, .slice po (lo xN).length pc, .slice qo (lo xD).length qc] 59)
  have hb2 := hb1.trans (b2.mono hb1.size)
  have OB2 := (OB.below b1).below b2
  have YB := B3q.new w1 (.bool xn) (.slice po (lo xN).length pc) (.slice qo (lo xD).length qc) 59
  have m1 := k1.below b2
  have m2 := k2.below b2
  generalize w1.alloc (.cells #[.bool xn, .slice po (lo xN).length pc, .slice qo (lo xD).length qc] 59) = W2 at *
  generalize w1.heap.size = y at *
  clear cl AB OB b1 b2 k1 k2 hb1 x0 x1 x2
  obtain ⟨y0, y1, y2, _, _, _, _, _⟩ := id YB
  obtain ⟨o0, o1, o2, q0, q1, q2, _, _⟩ := id OB2
  by_cases hf : (lo xN).length ≤ 256 ∧ (lo xD).length ≤ 256
  · have e := hy hf
    subst e
    clear hy hn
    have i1 : ¬ (256 : Int) < ((lo xN).length : Int) := by omega
    have i2 : ¬ (256 : Int) < ((lo xD).length : Int) := by omega
    unfold GaveR
    go_upto_region 4 with fail
    have ylt := YB.lt
    obtain ⟨FL, hFL⟩ : ∃ f : Nat → Lz, f = (fun j => match j with | 0 => .is (.pointer (some ⟨y, 0, none⟩)) | 1 => .is (.bool xn) | 2 => .gn (fun a x => ∃ g, x = .slice (some ⟨g, 0, none⟩) 0 0 ∧ a.ownsRow W2.heap.size 46 1 (.slice (some ⟨g, 0, none⟩) 0 0) 0 []) (fun a a' x h hb => h.elim fun g h => ⟨g, h.1, own7_below h.2 hb⟩) | 3 => .is (.pointer (some ⟨y, 1, none⟩)) | 4 => .is (.slice po (lo xN).length pc) | 5 => .gn (fun a x => ∃ ao ac, x = .slice ao (lo xN).length ac ∧ NS a ao ac (lo xN)) (fun a a' x h hb => h.elim fun ao h => h.elim fun ac h => ⟨ao, ac, h.1, h.2.below hb⟩) | 6 => .gn (fun a x => ∃ g, x = .slice (some ⟨g, 0, none⟩) 0 0 ∧ a.ownsRow W2.heap.size 46 1 (.slice (some ⟨g, 0, none⟩) 0 0) 0 []) (fun a a' x h hb => h.elim fun g h => ⟨g, h.1, own7_below h.2 hb⟩) | 7 => .is (.pointer (some ⟨y, 2, none⟩)) | 8 => .is (.slice qo (lo xD).length qc) | 9 => .gn (fun a x => ∃ ao ac, x = .slice ao (lo xD).length ac ∧ NS a ao ac (lo xD)) (fun a a' x h hb => h.elim fun ao h => h.elim fun ac h => ⟨ao, ac, h.1, h.2.below hb⟩) | 10 => .gn (fun a x => ∃ ao ac bo bc, x = .agg #[.bool xn, .slice ao (lo xN).length ac, .slice bo (lo xD).length bc] ∧ NS a ao ac (lo xN) ∧ NS a bo bc (lo xD)) (fun a a' x h hb => h.elim fun ao h => h.elim fun ac h => h.elim fun bo h => h.elim fun bc h => ⟨ao, ac, bo, bc, h.1, h.2.1.below hb, h.2.2.below hb⟩) | 11 => .tr | 12 => .tr | _ => .tr) := ⟨_, rfl⟩
    have F0 := congrFun hFL 0
    have F1 := congrFun hFL 1
    have F2 := congrFun hFL 2
    have F3 := congrFun hFL 3
    have F4 := congrFun hFL 4
    have F5 := congrFun hFL 5
    have F6 := congrFun hFL 6
    have F7 := congrFun hFL 7
    have F8 := congrFun hFL 8
    have F9 := congrFun hFL 9
    have F10 := congrFun hFL 10
    have F11 := congrFun hFL 11
    have F12 := congrFun hFL 12
    simp only at F0 F1 F2 F3 F4 F5 F6 F7 F8 F9 F10 F11 F12
    clear hFL
    refine region_rgT (by kernel_rfl) (fun v => ⟨#[Value.agg #[Value.bool n, Value.slice ao (lo N).length cap, Value.slice bo (lo D).length bcap], Value.pointer (some { block := w.heap.size, off := 0 }), Value.pointer (some { block := w.heap.size + 1, off := 0 }), v 12, Value.pointer (some { block := y, off := 0 }), Value.agg #[Value.bool n, Value.slice ao (lo N).length cap, Value.slice bo (lo D).length bcap], Value.agg #[Value.bool xn, Value.slice po (lo xN).length pc, Value.slice qo (lo xD).length qc], Value.pointer (some { block := y, off := 1 }), Value.slice po (lo xN).length pc, Value.int IntKind.i64 ↑(lo xN).length, Value.bool false, Value.bool false, Value.pointer (some { block := y, off := 2 }), Value.slice qo (lo xD).length qc, Value.int IntKind.i64 ↑(lo xD).length, Value.bool false, Value.bool false, undef, v 0, v 1, v 2, v 3, v 4, v 5, v 6, v 7, v 8, v 9, v 10], []⟩) 11 (fun j => decide (j ≠ 11 ∧ j ≠ 12)) (fun j w0 x => (FL j).holds w0 x) (fun j x => match j with | 12 => x = .int .i64 0 | _ => True) (fun a => ∃ ro rc so sc, B3q a (w.heap.size + 1) (.bool xn) (.slice ro (lo xN).length rc) (.slice so (lo xD).length sc) ∧ LS a ro rc (lo xN) ∧ LS a so sc (lo xD) ∧ Below w.heap.size w a) (fun j => match j with | 12 => Value.int IntKind.i64 0 | _ => undef) rfl ?_ ?_
    · intro L v w' i hL hS hi
      obtain ⟨h1, h2, h3⟩ := mem_ready hi
      have h1 : i < 13 := h1
      try dsimp only
      have hcs : i = 0 ∨ i = 1 ∨ i = 2 ∨ i = 3 ∨ i = 4 ∨ i = 5 ∨ i = 6 ∨ i = 7 ∨ i = 8 ∨ i = 9 ∨ i = 10 ∨ i = 11 ∨ i = 12 := by omega
      clear h1 h2 h3
      rcases hcs with rfl | rfl | rfl | rfl | rfl | rfl | rfl | rfl | rfl | rfl | rfl | rfl | rfl
      · have hns := hS.open hL hi rfl
        have hB := hS.a hns
        refine wpOpT_of (fun K hK => ?_)
        unfold wpOp
        go_simp
        refine Or.inl ?_
        exact hK _ _ ⟨putT v 0 (.pointer (some ⟨y, 0, none⟩)), (by simp [putT]), hS.step (Lz.mono FL) hL hi rfl (by decide) (Below.refl _ _) (Lz.toIs F0)⟩
      · have hns := hS.open hL hi rfl
        have hB := hS.a hns
        have e0 := Lz.ofIs (hS.f hns 0 rfl (ready_dep hi 0 (by kernel_rfl))) F0
        have r0 : w'.cell? ⟨y, 0, none⟩ = some _ := (hB.cell (p := ⟨y, 0, none⟩) ylt).trans y0
        refine wpOpT_of (fun K hK => ?_)
        unfold wpOp
        simp only [e0]
        go_simp
        refine Or.inl ?_
        exact hK _ _ ⟨putT v 1 (.bool xn), (by simp [putT, e0]), hS.step (Lz.mono FL) hL hi rfl (by decide) (Below.refl _ _) (Lz.toIs F1)⟩
      · have hns := hS.open hL hi rfl
        have hB := hS.a hns
        refine wpOpT_of (fun K hK => ?_)
        unfold wpOp
        go_simp
        refine Or.inl ?_
        exact hK _ _ ⟨putT v 2 (.slice (some ⟨w'.heap.size, 0, none⟩) 0 0), (by simp [putT]), hS.step (Lz.mono FL) hL hi rfl (by decide) ((Below.refl _ _).alloc (Nat.le_refl _) _) (Lz.toGn F2 (⟨_, rfl, World.ownsRow_lit w' #[] 0 hB.size (by decide) rfl⟩))⟩
      · have hns := hS.open hL hi rfl
        have hB := hS.a hns
        refine wpOpT_of (fun K hK => ?_)
        unfold wpOp
        go_simp
        refine Or.inl ?_
        exact hK _ _ ⟨putT v 3 (.pointer (some ⟨y, 1, none⟩)), (by simp [putT]), hS.step (Lz.mono FL) hL hi rfl (by decide) (Below.refl _ _) (Lz.toIs F3)⟩
      · have hns := hS.open hL hi rfl
        have hB := hS.a hns
        have e3 := Lz.ofIs (hS.f hns 3 rfl (ready_dep hi 3 (by kernel_rfl))) F3
        have r1 : w'.cell? ⟨y, 1, none⟩ = some _ := (hB.cell (p := ⟨y, 1, none⟩) ylt).trans y1
        refine wpOpT_of (fun K hK => ?_)
        unfold wpOp
        simp only [e3]
        go_simp
        refine Or.inl ?_
        exact hK _ _ ⟨putT v 4 (.slice po (lo xN).length pc), (by simp [putT, e3]), hS.step (Lz.mono FL) hL hi rfl (by decide) (Below.refl _ _) (Lz.toIs F4)⟩
      · have hns := hS.open hL hi rfl
        have hB := hS.a hns
        obtain ⟨g2, e2, u2⟩ := Lz.ofGn (hS.f hns 2 rfl (ready_dep hi 2 (by kernel_rfl))) F2
        have e4 := Lz.ofIs (hS.f hns 4 rfl (ready_dep hi 4 (by kernel_rfl))) F4
        obtain ⟨ro, rc, w1, hr, kr, bc⟩ := app7 hB u2 (m1.below hB) hf.1
        refine wpOpT_of (fun K hK => ?_)
        refine opT_append _ (.tmp 20) (.tmp 22) rfl rfl rfl rfl e2 e4 hr ?_
        exact hK _ _ ⟨putT v 5 (.slice ro (lo xN).length rc), (by simp [putT, go_sem]), hS.step (Lz.mono FL) hL hi rfl (by decide) (bc) (Lz.toGn F5 (⟨_, _, rfl, kr⟩))⟩
      · have hns := hS.open hL hi rfl
        have hB := hS.a hns
        refine wpOpT_of (fun K hK => ?_)
        unfold wpOp
        go_simp
        refine Or.inl ?_
        exact hK _ _ ⟨putT v 6 (.slice (some ⟨w'.heap.size, 0, none⟩) 0 0), (by simp [putT]), hS.step (Lz.mono FL) hL hi rfl (by decide) ((Below.refl _ _).alloc (Nat.le_refl _) _) (Lz.toGn F6 (⟨_, rfl, World.ownsRow_lit w' #[] 0 hB.size (by decide) rfl⟩))⟩
      · have hns := hS.open hL hi rfl
        have hB := hS.a hns
        refine wpOpT_of (fun K hK => ?_)
        unfold wpOp
        go_simp
        refine Or.inl ?_
        exact hK _ _ ⟨putT v 7 (.pointer (some ⟨y, 2, none⟩)), (by simp [putT]), hS.step (Lz.mono FL) hL hi rfl (by decide) (Below.refl _ _) (Lz.toIs F7)⟩
      · have hns := hS.open hL hi rfl
        have hB := hS.a hns
        have e7 := Lz.ofIs (hS.f hns 7 rfl (ready_dep hi 7 (by kernel_rfl))) F7
        have r2 : w'.cell? ⟨y, 2, none⟩ = some _ := (hB.cell (p := ⟨y, 2, none⟩) ylt).trans y2
        refine wpOpT_of (fun K hK => ?_)
        unfold wpOp
        simp only [e7]
        go_simp
        refine Or.inl ?_
        exact hK _ _ ⟨putT v 8 (.slice qo (lo xD).length qc), (by simp [putT, e7]), hS.step (Lz.mono FL) hL hi rfl (by decide) (Below.refl _ _) (Lz.toIs F8)⟩
      · have hns := hS.open hL hi rfl
        have hB := hS.a hns
        obtain ⟨g6, e6, u6⟩ := Lz.ofGn (hS.f hns 6 rfl (ready_dep hi 6 (by kernel_rfl))) F6
        have e8 := Lz.ofIs (hS.f hns 8 rfl (ready_dep hi 8 (by kernel_rfl))) F8
        obtain ⟨ro, rc, w1, hr, kr, bc⟩ := app7 hB u6 (m2.below hB) hf.2
        refine wpOpT_of (fun K hK => ?_)
        refine opT_append _ (.tmp 24) (.tmp 26) rfl rfl rfl rfl e6 e8 hr ?_
        exact hK _ _ ⟨putT v 9 (.slice ro (lo xD).length rc), (by simp [putT, go_sem]), hS.step (Lz.mono FL) hL hi rfl (by decide) (bc) (Lz.toGn F9 (⟨_, _, rfl, kr⟩))⟩
      · have hns := hS.open hL hi rfl
        have hB := hS.a hns
        have e1 := Lz.ofIs (hS.f hns 1 rfl (ready_dep hi 1 (by kernel_rfl))) F1
        obtain ⟨ao5, ac5, e5, u5⟩ := Lz.ofGn (hS.f hns 5 rfl (ready_dep hi 5 (by kernel_rfl))) F5
        obtain ⟨ao9, ac9, e9, u9⟩ := Lz.ofGn (hS.f hns 9 rfl (ready_dep hi 9 (by kernel_rfl))) F9
        refine wpOpT_of (fun K hK => ?_)
        unfold wpOp
        simp only [e1, e5, e9]
        go_simp
        refine Or.inl ?_
        exact hK _ _ ⟨putT v 10 (.agg #[.bool xn, .slice ao5 (lo xN).length ac5, .slice ao9 (lo xD).length ac9]), (by simp [putT, e1, e5, e9]), hS.step (Lz.mono FL) hL hi rfl (by decide) (Below.refl _ _) (Lz.toGn F10 (⟨_, _, _, _, rfl, u5, u9⟩))⟩
      · have hns := fun q => offT_not (by rw [hL]; exact (mem_ready hi).1) (mem_ready hi).2.1 q
        have hB := hS.a hns
        obtain ⟨ao10, ac10, bo10, bc10, e10, u10, t10⟩ := Lz.ofGn (hS.f hns 10 rfl (ready_dep hi 10 (by kernel_rfl))) F10
        have OB3 := OB2.below hB
        obtain ⟨p0, p1, p2, s0, s1, s2, _, _⟩ := id OB3
        have hb3 := hb2.trans (hB.mono hb2.size)
        refine wpOpT_of (fun K hK => ?_)
        unfold wpOp
        simp only [e10]
        go_simp
        refine Or.inl ?_
        exact hK _ _ ⟨putT v 11 undef, (by simp [putT, e10]), hS.last hL hi (by kernel_rfl) (⟨_, _, _, _, OB3.fill _ _ _, (ns_ls u10).threeB OB3 _ _ _, (ns_ls t10).threeB OB3 _ _ _, below_three hb3 (by omega) _ _ _⟩)⟩
      · refine wpOpT_of (fun K hK => ?_)
        unfold wpOp
        go_simp
        refine Or.inl ?_
        exact hK _ _ ⟨putT v 12 (.int .i64 0), (by simp [putT]), hS.late hL hi rfl (by decide) rfl⟩
    · intro L v w' hL hS hr
      have on := all_done hL hr (by kernel_rfl)
      obtain ⟨ro, rc, so, sc, G, G1, G2, hb4⟩ := hS.z (on 11 (by decide))
      have e12 := hS.k 12 (by decide) rfl (on 12 (by decide))
      have e12 : v 12 = .int .i64 0 := e12
      try dsimp only
      rw [e12]
      clear hS on hr
      obtain ⟨z0, z1, z2, _, _, _, _, _⟩ := id G
      go_wp2
      rw [lo_length] at z1 z2
      exact bodyPost_ret (v := .tuple #[.agg #[.bool xn, .slice ro (nl xN) rc, .slice so (nl xD) sc], .int .i64 0]) (by simp [results, Tryz.results42, go_sem, z0, z1, z2]) rfl ⟨ro, rc, so, sc, rfl, G1, G2, hb4⟩
  · have e := hn hf
    simp only [Prod.mk.injEq] at e
    obtain ⟨rfl, rfl⟩ := e
    clear hy hn
    unfold GaveR
    by_cases hf1 : (lo xN).length ≤ 256
    · have i1 : ¬ (256 : Int) < ((lo xN).length : Int) := by omega
      have i2 : (256 : Int) < ((lo xD).length : Int) := by omega
      go_wp2
      exact bodyPost_ret (v := .tuple #[.agg #[.bool false, .slice none 0 0, .slice none 0 0], .int .i64 3]) (by simp [results, Tryz.results42, go_sem, o0, o1, o2]) rfl ⟨rfl, below_three hb2 (by omega) _ _ _⟩
    · have i1 : (256 : Int) < ((lo xN).length : Int) := by omega
      go_wp2
      exact bodyPost_ret (v := .tuple #[.agg #[.bool false, .slice none 0 0, .slice none 0 0], .int .i64 3]) (by simp [results, Tryz.results42, go_sem, o0, o1, o2]) rfl ⟨rfl, below_three hb2 (by omega) _ _ _⟩
end Go.Proofs.YtnclddfljghebaaGreatDoor
