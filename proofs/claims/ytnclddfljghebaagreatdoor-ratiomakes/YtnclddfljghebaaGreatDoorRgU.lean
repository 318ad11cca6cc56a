/- A region that draws its order and stores at most once, as RgT; what is known of a value without memory stays known behind the store. -/
import Derived.Test.YtnclddfljghebaaGreatDoorVA
namespace Go.Proofs.YtnclddfljghebaaGreatDoor
open Go.RowKit

/-- The part of what is told of a value that needs no memory. -/
def Lz.free : Lz → Value → Prop
  | .is x, v => v = x
  | _, _ => True
theorem Lz.freeOf {l : Lz} {w : World} {v : Value} (h : l.holds w v) : l.free v := by
  cases l with
  | is x => exact h
  | tr => trivial
  | gn P hp => trivial
theorem Lz.ofFree {f : Nat → Lz} {j : Nat} {v x : Value} (h : (f j).free v) (e : f j = .is x) : v = x := by rw [e] at h; exact h
theorem Lz.toFree {f : Nat → Lz} {j : Nat} {x : Value} (e : f j = .is x) : (f j).free x := by rw [e]; exact rfl
structure RgU (n : Nat) (W : World) (is : Nat) (pre : Nat → Bool) (FL : Nat → Lz) (Z : World → Prop) (L : Array Bool) (w : World) (v : Nat → Value) : Prop where
  a : ¬ On L is → Below W.heap.size W w
  f : ¬ On L is → ∀ j, pre j = true → On L j → (FL j).holds w (v j)
  k : ∀ j, j ≠ is → On L j → (FL j).free (v j)
  z : On L is → Z w
  al : On L is → ∀ j, pre j = true → j < n → On L j
section
variable {n : Nat} {ops : Array Oper} {W : World} {is : Nat} {pre : Nat → Bool} {FL : Nat → Lz} {Z : World → Prop} {L : Array Bool} {w : World} {v : Nat → Value}
theorem RgU.start {m : Nat} (h : Below W.heap.size W w) : RgU n W is pre FL Z (Array.replicate m false) w v :=
  ⟨fun _ => h, fun _ _ _ q => absurd q onT_none, fun _ _ q => absurd q onT_none, fun q => absurd q onT_none, fun q => absurd q onT_none⟩
theorem RgU.open {i : Nat} (h : RgU ops.size W is pre FL Z L w v) (hL : L.size = ops.size) (hi : i ∈ Region.ready .any ops L) (hp : pre i = true) : ¬ On L is := by
  obtain ⟨h1, h2, _⟩ := mem_ready hi
  exact fun q => offT_not (by rw [hL]; exact h1) h2 (h.al q i hp h1)
theorem RgU.step {i : Nat} {u : Value} {w' : World} (h : RgU ops.size W is pre FL Z L w v) (hL : L.size = ops.size) (hi : i ∈ Region.ready .any ops L) (hp : pre i = true) (hne : i ≠ is) (hb : Below w.heap.size w w') (hu : (FL i).holds w' u) :
    RgU ops.size W is pre FL Z (L.setIfInBounds i true) w' (putT v i u) := by
  have hi2 : i < L.size := by rw [hL]; exact (mem_ready hi).1
  have on := fun (j : Nat) (q : j ≠ i) (e : On (L.setIfInBounds i true) j) => ((on_set hi2 j).1 e).resolve_left q
  have hns := h.open hL hi hp
  have a1 := h.a hns
  refine ⟨fun _ => a1.trans (hb.mono a1.size), fun _ j hj e => ?_, fun j hj e => ?_, fun e => absurd (on is (Ne.symm hne) e) hns, fun e => absurd (on is (Ne.symm hne) e) hns⟩
  · by_cases q : j = i
    · subst q; rw [putT, if_pos rfl]; exact hu
    · rw [putT, if_neg q]; exact Lz.mono FL _ _ _ _ (h.f hns j hj (on j q e)) hb
  · by_cases q : j = i
    · subst q; rw [putT, if_pos rfl]; exact Lz.freeOf hu
    · rw [putT, if_neg q]; exact h.k j hj (on j q e)
theorem RgU.late {i : Nat} {u : Value} (h : RgU ops.size W is pre FL Z L w v) (hL : L.size = ops.size) (hi : i ∈ Region.ready .any ops L) (hp : pre i = false) (hne : i ≠ is) (hu : (FL i).free u) :
    RgU ops.size W is pre FL Z (L.setIfInBounds i true) w (putT v i u) := by
  have hi2 : i < L.size := by rw [hL]; exact (mem_ready hi).1
  have on := fun (j : Nat) (q : j ≠ i) (e : On (L.setIfInBounds i true) j) => ((on_set hi2 j).1 e).resolve_left q
  have bac : ¬ On (L.setIfInBounds i true) is → ¬ On L is := fun q e => q ((on_set hi2 is).2 (Or.inr e))
  refine ⟨fun q => h.a (bac q), fun q j hj e => ?_, fun j hj e => ?_, fun e => h.z (on is (Ne.symm hne) e), fun e j hj hl => (on_set hi2 j).2 (Or.inr (h.al (on is (Ne.symm hne) e) j hj hl))⟩
  · have r : j ≠ i := fun r => by rw [r, hp] at hj; cases hj
    rw [putT, if_neg r]; exact h.f (bac q) j hj (on j r e)
  · by_cases r : j = i
    · subst r; rw [putT, if_pos rfl]; exact hu
    · rw [putT, if_neg r]; exact h.k j hj (on j r e)
theorem RgU.last {u : Value} {w' : World} (h : RgU ops.size W is pre FL Z L w v) (hL : L.size = ops.size) (hi : is ∈ Region.ready .any ops L) (hall : ((List.range ops.size).all fun j => !pre j || waitsT ops is j) = true) (hz : Z w') :
    RgU ops.size W is pre FL Z (L.setIfInBounds is true) w' (putT v is u) := by
  have hi2 : is < L.size := by rw [hL]; exact (mem_ready hi).1
  refine ⟨fun q => absurd ((on_set hi2 is).2 (Or.inl rfl)) q, fun q => absurd ((on_set hi2 is).2 (Or.inl rfl)) q, fun j hj e => ?_, fun _ => hz, fun _ j hj hl => ?_⟩
  · rw [putT, if_neg hj]; exact h.k j hj (((on_set hi2 j).1 e).resolve_left hj)
  · have := List.all_eq_true.1 hall j (List.mem_range.2 hl)
    simp only [hj, Bool.not_true, Bool.false_or] at this
    exact (on_set hi2 j).2 (Or.inr (ready_dep hi j this))
theorem region_rgU {Pr : Program} {Q : Exit → Act → World → Prop} {id : Nat} {a : Act} (hm : Pr.follows .mixedOrders = true) (G : (Nat → Value) → Act) (is : Nat) (pre : Nat → Bool) (FL : Nat → Lz) (Z : World → Prop) (v0 : Nat → Value) (h0 : a = G v0)
    (hs : ∀ L v w i, L.size = ops.size → RgU ops.size W is pre FL Z L w v → i ∈ Region.ready .any ops L → wpOp Pr ops Q i (fun a' w' => ∃ v', a' = G v' ∧ RgU ops.size W is pre FL Z (L.setIfInBounds i true) w' v') (G v) w)
    (hf : ∀ L v w, L.size = ops.size → RgU ops.size W is pre FL Z L w v → Region.ready .any ops L = [] → Q .normal (G v) w) : (Code.region id ops true).wp Pr Q a W := by
  refine region_inv hm (fun L a w' => ∃ v, a = G v ∧ RgU ops.size W is pre FL Z L w' v) ⟨v0, h0, RgU.start (Below.refl _ _).drew⟩ ?_ ?_
  · rintro L a w' i hL ⟨v, rfl, hS⟩ hi
    exact hs L v w' i hL hS hi
  · rintro L a w' hL ⟨v, rfl, hS⟩ hr
    exact hf L v w' hL hS hr
end
end Go.Proofs.YtnclddfljghebaaGreatDoor
