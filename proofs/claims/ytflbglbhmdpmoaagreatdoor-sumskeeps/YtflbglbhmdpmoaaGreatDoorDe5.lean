/- What the document's DotExact (layer 6) answers: the walk. -/
import Derived.Test.YtflbglbhmdpmoaaGreatDoorRB
import Derived.Test.YtflbglbhmdpmoaaGreatDoorDE
namespace Go.Proofs.YtflbglbhmdpmoaaGreatDoor
open Go.RowKit

/-- A number's limbs, behind the box P. -/
def NBh (w : World) (D : Dy) (o : Option Addr) (c P : Nat) : Prop := NS w o c D.mag ∧ Bhd P o D.mag.length
def TN (D : Dy) (w : World) (u : Value) (P : Nat) : Prop := ∃ o c, u = .agg #[.bool D.neg, .slice o D.mag.length c, .int .i64 D.exp] ∧ NBh w D o c P
theorem NBh.below {w w' : World} {D : Dy} {o : Option Addr} {c P : Nat} (h : NBh w D o c P) (hb : Below w.heap.size w w') : NBh w' D o c P := ⟨h.1.below hb, h.2⟩
theorem NBh.put {w : World} {D : Dy} {o : Option Addr} {c P : Nat} (h : NBh w D o c P) (x y z : Value) : NBh (((w.setCell ⟨P, 0, none⟩ x).setCell ⟨P, 1, none⟩ y).setCell ⟨P, 2, none⟩ z) D o c P := by
  have hne : ∀ b off, o = some ⟨b, off, none⟩ → D.mag.length ≠ 0 → b ≠ P := fun b off e h0 => by have := h.2 b off e h0; omega
  exact ⟨⟨((h.1.1.setCell x hne).setCell y hne).setCell z hne, h.1.2⟩, h.2⟩
def DoF (P : Nat) (z : Dy) (zo : Option Addr) (zc : Nat) (sa sb pa pb : Value) (k x y : Nat) (fx fy tm : Dy) (j : Nat) (w : World) (u : Value) : Prop := match j with
  | 0 => u = .agg #[.bool z.neg, .slice zo z.mag.length zc, .int .i64 z.exp]
  | 1 => u = sa
  | 2 => u = .int .i64 k
  | 3 => u = pa
  | 4 => u = .float .f64 x
  | 5 => TN fx w u P
  | 6 => u = sb
  | 7 => u = .int .i64 k
  | 8 => u = pb
  | 9 => u = .float .f64 y
  | 10 => TN fy w u P
  | 11 => TN tm w u P
  | 12 => ∃ q, PlusV z tm q ∧ (q.mag = lo (vl q.mag) ∨ q.mag = z.mag ∨ q.mag = tm.mag) ∧ TN q w u P
  | 13 => ∃ q o c, PlusV z tm q ∧ (q.mag = lo (vl q.mag) ∨ q.mag = z.mag ∨ q.mag = tm.mag) ∧ Hd w P q o c ∧ NBh w q o c P
  | _ => True
structure DoS (P : Nat) (z : Dy) (zo : Option Addr) (zc : Nat) (sa sb pa pb : Value) (k x y : Nat) (fx fy tm : Dy) (W : World) (L : Array Bool) (w : World) (v : Nat → Value) : Prop where
  bel : Below P W w
  siz : W.heap.size ≤ w.heap.size
  zr : NBh w z zo zc P
  box : ∃ G o c, Hd w P G o c
  fz : Fz w P
  old : ¬ On L 13 → Hd w P z zo zc
  c : On L 13 → On L 0
  d : ∀ j, On L j → DoF P z zo zc sa sb pa pb k x y fx fy tm j w (v j)
section
variable {P : Nat} {z : Dy} {zo : Option Addr} {zc : Nat} {sa sb pa pb : Value} {k x y : Nat} {fx fy tm : Dy} {W : World} {L : Array Bool} {w : World} {v : Nat → Value}
theorem DoF.below {j : Nat} {u : Value} {w' : World} (h : DoF P z zo zc sa sb pa pb k x y fx fy tm j w u) (hb : Below w.heap.size w w') : DoF P z zo zc sa sb pa pb k x y fx fy tm j w' u := by
  unfold DoF at h ⊢
  split at h <;> first | exact h | (obtain ⟨ao, cap, e, hn⟩ := h; exact ⟨ao, cap, e, hn.below hb⟩) | (obtain ⟨q, h1, h2, o, c, e, hn⟩ := h; exact ⟨q, h1, h2, o, c, e, hn.below hb⟩) | (obtain ⟨q, o, c, h1, h2, h3, hn⟩ := h; exact ⟨q, o, c, h1, h2, h3.below hb, hn.below hb⟩)
theorem DoF.put {j : Nat} {u : Value} (h : DoF P z zo zc sa sb pa pb k x y fx fy tm j w u) (h13 : j ≠ 13) (a b c : Value) : DoF P z zo zc sa sb pa pb k x y fx fy tm j (((w.setCell ⟨P, 0, none⟩ a).setCell ⟨P, 1, none⟩ b).setCell ⟨P, 2, none⟩ c) u := by
  unfold DoF at h ⊢
  split at h <;> first | exact h | (obtain ⟨ao, cap, e, hn⟩ := h; exact ⟨ao, cap, e, hn.put _ _ _⟩) | (obtain ⟨q, h1, h2, o, c, e, hn⟩ := h; exact ⟨q, h1, h2, o, c, e, hn.put _ _ _⟩) | (exact absurd rfl h13)
theorem DoS.step (h : DoS P z zo zc sa sb pa pb k x y fx fy tm W L w v) {i : Nat} {w' : World} {u : Value} (hi : i < L.size) (h13 : i ≠ 13) (hb : Below w.heap.size w w') (hu : DoF P z zo zc sa sb pa pb k x y fx fy tm i w' u) : DoS P z zo zc sa sb pa pb k x y fx fy tm W (L.setIfInBounds i true) w' (upd v i u) where
  bel := h.bel.trans (hb.mono (by obtain ⟨G, o, c, hG⟩ := h.box; exact Nat.le_of_lt (World.block_lt_of_cell? w _ hG.c0)))
  siz := Nat.le_trans h.siz hb.size
  zr := h.zr.below hb
  box := by obtain ⟨G, o, c, hG⟩ := h.box; exact ⟨G, o, c, hG.below hb⟩
  fz := by obtain ⟨G, o, c, hG⟩ := h.box; exact h.fz.below (World.block_lt_of_cell? w _ hG.c0) hb
  old := fun g => (h.old (fun g' => g ((on_set hi 13).2 (Or.inr g')))).below hb
  c := fun g => (on_set hi 0).2 (Or.inr (h.c (((on_set hi 13).1 g).resolve_left (fun e => h13 e.symm))))
  d := fun j g => by
    by_cases e : j = i
    · subst e; rw [upd_at]; exact hu
    · rw [upd_ne v u e]; exact (h.d j (((on_set hi j).1 g).resolve_left e)).below hb
theorem DoS.stepS (h : DoS P z zo zc sa sb pa pb k x y fx fy tm W L w v) (hi : 13 < L.size) (h0 : On L 0) {q : Dy} {o : Option Addr} {c : Nat} (hv : PlusV z tm q) (ht : q.mag = lo (vl q.mag) ∨ q.mag = z.mag ∨ q.mag = tm.mag) (hN : NBh w q o c P) (u : Value) : DoS P z zo zc sa sb pa pb k x y fx fy tm W (L.setIfInBounds 13 true) (((w.setCell ⟨P, 0, none⟩ (.bool q.neg)).setCell ⟨P, 1, none⟩ (.slice o q.mag.length c)).setCell ⟨P, 2, none⟩ (.int .i64 q.exp)) (upd v 13 u) := by
  obtain ⟨G, go, gc, hG⟩ := h.box
  have P3 := put3h (c := c) (E := q) hG h.fz hN.1.1 hN.2
  exact ⟨((h.bel.setCell (Nat.le_refl _) _).setCell (Nat.le_refl _) _).setCell (Nat.le_refl _) _, by simp [World.setCell]; exact h.siz, h.zr.put _ _ _, ⟨_, _, _, P3.1⟩, P3.2, fun g => absurd ((on_set hi 13).2 (Or.inl rfl)) g, fun _ => (on_set hi 0).2 (Or.inr h0), fun j g => by
    by_cases e : j = 13
    · subst e
      exact ⟨q, o, c, hv, ht, P3.1, hN.put _ _ _⟩
    · rw [upd_ne v _ e]
      exact (h.d j (((on_set hi j).1 g).resolve_left e)).put e _ _ _⟩
end
end Go.Proofs.YtflbglbhmdpmoaaGreatDoor
