/- A region that draws its order and stores twice at its end, one store behind the other; as RgU. -/
import Derived.Test.YtnclddfljghebaaGreatDoorRgU
namespace Go.Proofs.YtnclddfljghebaaGreatDoor
open Go.RowKit

structure RgX (ops : Array Oper) (W : World) (is iz : Nat) (pre da : Nat → Bool) (FL : Nat → Lz) (Z1 Z2 : World → (Nat → Value) → Prop) (L : Array Bool) (w : World) (v : Nat → Value) : Prop where
  a : ¬ On L is → Below W.heap.size W w
  f : ¬ On L is → ∀ j, pre j = true → On L j → (FL j).holds w (v j)
  ds : ¬ On L is → ∀ i j, i ≠ j → da i = true → da j = true → On L i → On L j → v i ≠ v j
  z1 : On L is → ¬ On L iz → Z1 w v
  z2 : On L iz → Z2 w v
  al : On L is → ∀ j, pre j = true → j < ops.size → On L j
  ord : On L iz → On L is
  dc : ∀ j k, On L j → waitsT ops j k = true → On L k
section
variable {ops : Array Oper} {W : World} {is iz : Nat} {pre da : Nat → Bool} {FL : Nat → Lz} {Z1 Z2 : World → (Nat → Value) → Prop} {L : Array Bool} {w : World} {v : Nat → Value}
theorem setT_dc {i j k : Nat} (hdc : ∀ j k, On L j → waitsT ops j k = true → On L k) (hi2 : i < L.size) (hi : i ∈ Region.ready .any ops L) (e : On (L.setIfInBounds i true) j) (hw : waitsT ops j k = true) : On (L.setIfInBounds i true) k := by
  rcases (on_set hi2 j).1 e with q | q
  · subst q; exact (on_set hi2 k).2 (Or.inr (ready_dep hi k hw))
  · exact (on_set hi2 k).2 (Or.inr (hdc j k q hw))
theorem RgX.start {m : Nat} (h : Below W.heap.size W w) : RgX ops W is iz pre da FL Z1 Z2 (Array.replicate m false) w v :=
  ⟨fun _ => h, fun _ _ _ q => absurd q onT_none, fun _ _ _ _ _ _ q => absurd q onT_none, fun q => absurd q onT_none, fun q => absurd q onT_none, fun q => absurd q onT_none, fun q => absurd q onT_none, fun _ _ q => absurd q onT_none⟩
theorem RgX.open {i : Nat} (h : RgX ops W is iz pre da FL Z1 Z2 L w v) (hL : L.size = ops.size) (hi : i ∈ Region.ready .any ops L) (hp : pre i = true) : ¬ On L is := by
  obtain ⟨h1, h2, _⟩ := mem_ready hi
  exact fun q => offT_not (by rw [hL]; exact h1) h2 (h.al q i hp h1)
theorem RgX.step {i : Nat} {u : Value} {w' : World} (h : RgX ops W is iz pre da FL Z1 Z2 L w v) (hL : L.size = ops.size) (hi : i ∈ Region.ready .any ops L) (hp : pre i = true) (hne : i ≠ is) (hnz : i ≠ iz) (hb : Below w.heap.size w w') (hd : da i = true → ∀ j, j ≠ i → da j = true → On L j → v j ≠ u) (hu : (FL i).holds w' u) :
    RgX ops W is iz pre da FL Z1 Z2 (L.setIfInBounds i true) w' (putT v i u) := by
  have hi2 : i < L.size := by rw [hL]; exact (mem_ready hi).1
  have on := fun (j : Nat) (q : j ≠ i) (e : On (L.setIfInBounds i true) j) => ((on_set hi2 j).1 e).resolve_left q
  have hns := h.open hL hi hp
  have hnz' : ¬ On L iz := fun q => hns (h.ord q)
  have a1 := h.a hns
  refine ⟨fun _ => a1.trans (hb.mono a1.size), fun _ j hj e => ?_, fun _ k j hkj hk hj ek ej => ?_, fun e => absurd (on is (Ne.symm hne) e) hns, fun e => absurd (on iz (Ne.symm hnz) e) hnz', fun e => absurd (on is (Ne.symm hne) e) hns, fun e => absurd (on iz (Ne.symm hnz) e) hnz', fun j k e hw2 => setT_dc h.dc hi2 hi e hw2⟩
  · by_cases q : j = i
    · subst q; rw [putT, if_pos rfl]; exact hu
    · rw [putT, if_neg q]; exact Lz.mono FL _ _ _ _ (h.f hns j hj (on j q e)) hb
  · by_cases q : j = i
    · subst q
      rw [putT, if_neg hkj, putT, if_pos rfl]
      exact hd hj k hkj hk (on k hkj ek)
    · by_cases r : k = i
      · subst r
        rw [putT, if_pos rfl, putT, if_neg q]
        exact Ne.symm (hd hk j q hj (on j q ej))
      · rw [putT, if_neg r, putT, if_neg q]
        exact h.ds hns k j hkj hk hj (on k r ek) (on j q ej)
theorem RgX.last1 {u : Value} {w' : World} (h : RgX ops W is iz pre da FL Z1 Z2 L w v) (hL : L.size = ops.size) (hi : is ∈ Region.ready .any ops L) (hne : is ≠ iz) (hall : ((List.range ops.size).all fun j => !pre j || waitsT ops is j || (List.range ops.size).any fun k => waitsT ops is k && waitsT ops k j) = true) (hz : Z1 w' (putT v is u)) :
    RgX ops W is iz pre da FL Z1 Z2 (L.setIfInBounds is true) w' (putT v is u) := by
  have hi2 : is < L.size := by rw [hL]; exact (mem_ready hi).1
  have hno : ¬ On L is := offT_not hi2 (mem_ready hi).2.1
  have hnz' : ¬ On L iz := fun q => hno (h.ord q)
  have ho : On (L.setIfInBounds is true) is := (on_set hi2 is).2 (Or.inl rfl)
  have hz' : ¬ On (L.setIfInBounds is true) iz := fun e => hnz' (((on_set hi2 iz).1 e).resolve_left (Ne.symm hne))
  refine ⟨fun q => absurd ho q, fun q => absurd ho q, fun q => absurd ho q, fun _ _ => hz, fun e => absurd e hz', fun _ j hj hl => ?_, fun e => absurd e hz', fun j k e hw2 => setT_dc h.dc hi2 hi e hw2⟩
  have := List.all_eq_true.1 hall j (List.mem_range.2 hl)
  simp only [hj, Bool.not_true, Bool.false_or, Bool.or_eq_true] at this
  rcases this with this | this
  · exact (on_set hi2 j).2 (Or.inr (ready_dep hi j this))
  · obtain ⟨k, _, hk⟩ := List.any_eq_true.1 this
    simp only [Bool.and_eq_true] at hk
    exact (on_set hi2 j).2 (Or.inr (h.dc k j (ready_dep hi k hk.1) hk.2))
theorem RgX.last2 {u : Value} {w' : World} (h : RgX ops W is iz pre da FL Z1 Z2 L w v) (hL : L.size = ops.size) (hi : iz ∈ Region.ready .any ops L) (hw : waitsT ops iz is = true) (hz : Z2 w' (putT v iz u)) :
    RgX ops W is iz pre da FL Z1 Z2 (L.setIfInBounds iz true) w' (putT v iz u) := by
  have hi2 : iz < L.size := by rw [hL]; exact (mem_ready hi).1
  have ho : On L is := ready_dep hi is hw
  have ho' : On (L.setIfInBounds iz true) is := (on_set hi2 is).2 (Or.inr ho)
  have hz' : On (L.setIfInBounds iz true) iz := (on_set hi2 iz).2 (Or.inl rfl)
  exact ⟨fun q => absurd ho' q, fun q => absurd ho' q, fun q => absurd ho' q, fun _ q => absurd hz' q, fun _ => hz, fun _ j hj hl => (on_set hi2 j).2 (Or.inr (h.al ho j hj hl)), fun _ => ho', fun j k e hw2 => setT_dc h.dc hi2 hi e hw2⟩
theorem region_rgX {Pr : Program} {Q : Exit → Act → World → Prop} {id : Nat} {a : Act} (hm : Pr.follows .mixedOrders = true) (G : (Nat → Value) → Act) (is iz : Nat) (pre da : Nat → Bool) (FL : Nat → Lz) (Z1 Z2 : World → (Nat → Value) → Prop) (v0 : Nat → Value) (h0 : a = G v0)
    (hs : ∀ L v w i, L.size = ops.size → RgX ops W is iz pre da FL Z1 Z2 L w v → i ∈ Region.ready .any ops L → wpOp Pr ops Q i (fun a' w' => ∃ v', a' = G v' ∧ RgX ops W is iz pre da FL Z1 Z2 (L.setIfInBounds i true) w' v') (G v) w)
    (hf : ∀ L v w, L.size = ops.size → RgX ops W is iz pre da FL Z1 Z2 L w v → Region.ready .any ops L = [] → Q .normal (G v) w) : (Code.region id ops true).wp Pr Q a W := by
  refine region_inv hm (fun L a w' => ∃ v, a = G v ∧ RgX ops W is iz pre da FL Z1 Z2 L w' v) ⟨v0, h0, RgX.start (Below.refl _ _).drew⟩ ?_ ?_
  · rintro L a w' i hL ⟨v, rfl, hS⟩ hi
    exact hs L v w' i hL hS hi
  · rintro L a w' hL ⟨v, rfl, hS⟩ hr
    exact hf L v w' hL hS hr
end
end Go.Proofs.YtnclddfljghebaaGreatDoor
