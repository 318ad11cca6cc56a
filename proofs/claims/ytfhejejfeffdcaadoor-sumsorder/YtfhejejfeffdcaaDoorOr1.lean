/- SumsOrder: lists that grow side by side, apart from one another. -/
import Derived.Test.YtfhejejfeffdcaaDoorOr0
import Derived.Test.YtfhejejfeffdcaaDoorMx13
import Derived.Maps.AppendAt
namespace Go.Proofs.YtfhejejfeffdcaaDoor
open Go.RowKit

/-- Lists that grow, each in memory of its own. -/
structure OwL (w wr : World) (v : Nat → Value) (xs : Nat → List Nat) : Prop where
  own : ∀ i, wr.ownsRow w.heap.size 25 1 (v i) (xs i).length (fv (xs i))
  apart : ∀ i j a, i ≠ j → (v i).ownBlock = some a → (v j).ownBlock = some a → False
  below : Below w.heap.size w wr
theorem OwL.start {w wr : World} (h : Below w.heap.size w wr) : OwL w wr (fun _ => .slice none 0 0) (fun _ => []) :=
  ⟨fun _ => World.ownsRow_nil _ _ _ _, fun i j a _ p _ => by simp [Value.ownBlock] at p, h⟩
theorem own_later {w wr w1 : World} {v : Value} {n : Nat} {xs : List Value} {e : TypeId} (q : wr.ownsRow w.heap.size e 1 v n xs) (hb : Below wr.heap.size wr w1) : w1.ownsRow w.heap.size e 1 v n xs := by
  obtain ⟨q1, q2⟩ := q
  refine ⟨q1, ?_⟩
  rcases q2 with q2 | ⟨g, cap, cur, e, b1, b2, b3⟩
  · exact Or.inl q2
  · refine Or.inr ⟨g, cap, cur, e, b1, ?_, b3⟩
    have hlt : g < wr.heap.size := by
      rcases Nat.lt_or_ge g wr.heap.size with c | c
      · exact c
      · rw [Array.getElem?_eq_none c] at b2; cases b2
    rw [hb.block g hlt]; exact b2
theorem OwL.later {w wr w1 : World} {v : Nat → Value} {xs : Nat → List Nat} (h : OwL w wr v xs) (hb : Below wr.heap.size wr w1) : OwL w w1 v xs :=
  ⟨fun i => own_later (h.own i) hb, h.apart, h.below.trans (hb.mono h.below.size)⟩
/-- A list put behind one of them. -/
theorem OwL.next {w wr w1 : World} {v : Nat → Value} {xs : Nat → List Nat} (h : OwL w wr v xs) (i : Nat) {v' : Value} (ys : List Nat) {m : Nat} (hm : ys.length = m) (hown : w1.ownsRow w.heap.size 25 1 v' ((xs i).length + m) (fv (xs i) ++ fv ys)) (hg : wr.grownBy w1 (v i).ownBlock) (ha : v'.ownBlock = (v i).ownBlock ∨ v'.ownBlock = some wr.heap.size) :
    OwL w w1 (fun j => if j = i then v' else v j) (fun j => if j = i then xs i ++ ys else xs j) := by
  subst hm
  have hb : Below w.heap.size wr w1 := (Below.refl _ wr).grown hg h.below.size (fun k hk => ((h.own i).lt k hk).1)
  have hne : ∀ j, j ≠ i → (v j).ownBlock = none ∨ (v j).ownBlock ≠ (v i).ownBlock := fun j hj => by
    cases c : (v j).ownBlock with
    | none => exact Or.inl rfl
    | some a => exact Or.inr fun e => h.apart j i a hj c e.symm
  have hfar : ∀ j a, j ≠ i → v'.ownBlock = some a → (v j).ownBlock = some a → False := fun j a hj p q => by
    rcases ha with ha | ha
    · exact h.apart j i a hj q (by rw [← ha]; exact p)
    · have h1 := ((h.own j).lt a q).2
      rw [ha] at p
      have := Option.some.inj p
      omega
  refine ⟨fun j => ?_, fun j k a hjk p q => ?_, h.below.trans hb⟩
  · by_cases c : j = i
    · subst c
      simp only [if_true]
      rw [List.length_append, show fv (xs j ++ ys) = fv (xs j) ++ fv ys by simp [fv]]
      exact hown
    · simp only [if_neg c]
      exact (h.own j).kept hg (hne j c)
  · by_cases c : j = i
    · subst c
      simp only [if_true] at p
      rw [if_neg (Ne.symm hjk)] at q
      exact hfar k a (Ne.symm hjk) p q
    · rw [if_neg c] at p
      by_cases d : k = i
      · subst d
        simp only [if_true] at q
        exact hfar j a c q p
      · rw [if_neg d] at q
        exact h.apart j k a hjk p q
theorem OwL.row {w wr : World} {v : Nat → Value} {xs : Nat → List Nat} (h : OwL w wr v xs) (i : Nat) : ∃ bo bc, v i = .slice bo (xs i).length bc ∧ GRow wr bo (xs i) ∧ (xs i).length ≤ bc := by
  obtain ⟨bo, bc, q1, q2, q3, _⟩ := owned_grow (h.own i)
  exact ⟨bo, bc, q1, q2, q3⟩
end Go.Proofs.YtfhejejfeffdcaaDoor
