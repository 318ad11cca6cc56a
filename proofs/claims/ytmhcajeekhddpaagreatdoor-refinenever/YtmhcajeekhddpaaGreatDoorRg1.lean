/- RefineNever: what follows of what Until tells, plain. -/
import Derived.Test.YtmhcajeekhddpaaGreatDoorRg0
namespace Go.Proofs.YtmhcajeekhddpaaGreatDoor
open Go.RowKit

theorem adU_lt {a b v : Nat} (w : World) (ha : a < 18446744073709551616) (hb : b < 18446744073709551616) (h : adU a b = some v) : v < 18446744073709551616 := by
  unfold adU at h
  split at h
  · rename_i hf
    rw [Bool.and_eq_true] at hf
    cases h
    exact addV_lt 2 ha hb hf.1 hf.2
  · have := op_NR (op := .add) (Or.inl rfl) (a := a) (b := b) w
    rw [h] at this
    have e : opR .add a b w = v := this.2
    rw [← e]; exact this.1
theorem nrO_lt (w : World) (xs : List Nat) : ∀ k v, nrO xs k = some v → v < 18446744073709551616
  | 0, v, h => by cases h; decide
  | k + 1, v, h => by
    have h : ((nrO xs k).bind fun s => adU s (rung (xs.getD k 0))) = some v := h
    cases hk : nrO xs k with
    | none => rw [hk] at h; cases h
    | some s =>
      rw [hk] at h
      exact adU_lt w (nrO_lt w xs k s hk) (vrung64 _) h
/-- Less, of norms. -/
def ltN (l m : List Nat) : Prop := ltO (nv l) (nv m) = true
theorem ord_lts {a b : Nat} (ha : a < 18446744073709551616) (hb : b < 18446744073709551616) : (FloatKind.f64.format.order a b == some .lt) = true ↔ nanB a = false ∧ nanB b = false ∧ place a < place b := by
  show (Ieee.double.order a b == some .lt) = true ↔ _
  rw [order_eq a b ha hb]
  cases nanB a
  · cases nanB b
    · simp only [Bool.or_self, Bool.false_eq_true, if_false, true_and]
      rw [cmp_int]
      by_cases h : place a < place b
      · rw [if_pos h]; simp [h]
      · rw [if_neg h]
        constructor
        · intro q; split at q <;> simp at q
        · intro q; exact absurd q h
    · simp
  · simp
theorem ltN_trans (w : World) {l m k : List Nat} (h : ltN l m) (g : ltN m k) : ltN l k := by
  unfold ltN at *
  cases h1 : nv l with
  | none => rw [h1] at h; cases h
  | some a =>
    cases h2 : nv m with
    | none => rw [h1, h2] at h; cases h
    | some b =>
      cases h3 : nv k with
      | none => rw [h2, h3] at g; cases g
      | some c =>
        rw [h1, h2] at h
        rw [h2, h3] at g
        have la := nrO_lt w _ _ _ h1
        have lb := nrO_lt w _ _ _ h2
        have lc := nrO_lt w _ _ _ h3
        have h := (ord_lts la lb).1 h
        have g := (ord_lts lb lc).1 g
        exact (ord_lts la lc).2 ⟨h.1, g.2.1, by omega⟩
/-- Not greater. -/
theorem ng_of_lt {a b : Nat} (h : (FloatKind.f64.format.order a b == some .lt) = true) : (FloatKind.f64.format.order a b == some .gt) = false := by
  cases q : FloatKind.f64.format.order a b with
  | none => rfl
  | some o => rw [q] at h; cases o <;> first | rfl | cases h
theorem ng_same {o : Option Nat} {a b : Nat} (h : NR o a) (g : NR o b) : (FloatKind.f64.format.order a b == some .gt) = false := by
  show (Ieee.double.order a b == some .gt) = false
  rw [order_eq a b h.1 g.1]
  cases o with
  | none =>
    have e1 : nanB a = true := h.2
    rw [e1]; rfl
  | some v =>
    have e1 : a = v := h.2
    have e2 : b = v := g.2
    subst e1 e2
    cases nanB b
    · simp only [Bool.or_self, Bool.false_eq_true, if_false]
      rw [cmp_int, if_neg (by omega), if_pos rfl]; rfl
    · rfl
theorem un_first {r c : Int} {ms : List Nat} {n : Int} {ls ds bs : List Nat} (h : unE r c ms n ls ds bs = 0) : (sv14 n ls ds bs).2 = 0 ∧ (sv14 n ls ds bs).1.all fiO = true ∧ (fi14 r c ms n ls ds bs).1.1 = (sv14 n ls ds bs).1.map valO ∧ lfA r c ms (fi14 r c ms n ls ds bs).1.1 bs = ((fi14 r c ms n ls ds bs).1.2, 0) := by
  unfold unE at h
  split at h
  · split at h
    · unfold fi14 at h ⊢
      by_cases h1 : (sv14 n ls ds bs).2 = 0
      · rw [if_pos h1] at h ⊢
        by_cases h2 : (sv14 n ls ds bs).1.all fiO = true
        · rw [if_pos h2] at h ⊢
          exact ⟨h1, h2, rfl, Prod.ext rfl h⟩
        · rw [if_neg h2] at h; cases h
      · rw [if_neg h1] at h
        exact absurd h h1
    · cases h
  · cases h
theorem nx_some {r c : Int} {ms : List Nat} {n : Int} {ls ds bs : List Nat} {s t : List Nat × List Nat} (h : nx14 r c ms n ls ds bs s = some t) : lfA r c ms t.1 bs = (t.2, 0) ∧ ltN t.2 s.2 := by
  unfold nx14 at h
  split at h
  · split at h
    · rename_i h2
      split at h
      · rename_i h3
        cases h
        exact ⟨Prod.ext rfl h2, h3⟩
      · cases h
    · cases h
  · cases h
/-- All that the statement asks. -/
structure Nev (r c : Int) (ms bs : List Nat) (k : Nat) (x0 l0 X lX Y lY : List Nat) (N M : Nat) : Prop where
  f0 : lfA r c ms x0 bs = (l0, 0)
  fX : lfA r c ms X bs = (lX, 0)
  fY : lfA r c ms Y bs = (lY, 0)
  hN : N ≤ k
  none : N = 0 → X = x0 ∧ lX = l0
  some : 0 < N → ltN lX l0
  more : (M = N ∧ Y = X ∧ lY = lX) ∨ (N = k ∧ M = k + 1 ∧ ltN lY lX)
theorem nev_of (w : World) {r c : Int} {ms : List Nat} {n : Int} {ls ds bs : List Nat} (h : unE r c ms n ls ds bs = 0) (k : Nat) : Nev r c ms bs k (fi14 r c ms n ls ds bs).1.1 (fi14 r c ms n ls ds bs).1.2 (unR r c ms n ls ds bs k).1.1 (unR r c ms n ls ds bs k).1.2 (unR r c ms n ls ds bs (k + 1)).1.1 (unR r c ms n ls ds bs (k + 1)).1.2 (unR r c ms n ls ds bs k).2 (unR r c ms n ls ds bs (k + 1)).2 := by
  obtain ⟨_, _, _, h4⟩ := un_first h
  have inv := fun j => run14_inv (nx14 r c ms n ls ds bs) (fun s => lfA r c ms s.1 bs = (s.2, 0)) (fun s t hs _ => (nx_some hs).1) j (fi14 r c ms n ls ds bs).1 h4
  have rel := run14_rel (nx14 r c ms n ls ds bs) (fun s t => ltN t.2 s.2) (fun s t hs => (nx_some hs).2) (fun s t u h1 h2 => ltN_trans w h2 h1) k (fi14 r c ms n ls ds bs).1
  refine ⟨h4, inv k, inv (k + 1), run14_le _ _ _, fun h0 => ?_, fun h0 => ?_, ?_⟩
  · rcases rel with ⟨_, g⟩ | ⟨g, _⟩
    · unfold unR; rw [g]; exact ⟨rfl, rfl⟩
    · unfold unR at h0; omega
  · rcases rel with ⟨g, _⟩ | ⟨_, g⟩
    · unfold unR at h0; omega
    · exact g
  · rcases run14_more (nx14 r c ms n ls ds bs) k (fi14 r c ms n ls ds bs).1 with g | ⟨g1, t, g2, g3⟩
    · left; unfold unR; rw [g]; exact ⟨rfl, rfl, rfl⟩
    · right
      unfold unR
      rw [g3]
      exact ⟨g1, rfl, (nx_some g2).2⟩
end Go.Proofs.YtmhcajeekhddpaaGreatDoor
