/- DotExact's closure: a product of two floats, exactly. -/
import Derived.Test.YtmbcmhncicbbjaaGreatDoorRB
import Derived.Test.YtmbcmhncicbbjaaGreatDoorMx17
namespace Go.Proofs.YtmbcmhncicbbjaaGreatDoor
open Go.RowKit

theorem on_no {n i : Nat} : ¬ On (Array.replicate n false) i := by
  unfold On
  simp only [Array.getD_eq_getD_getElem?, Array.getElem?_replicate]
  split <;> simp
theorem off_on {L : Array Bool} {i : Nat} (hi : i < L.size) (h : L.getD i true = false) : ¬ On L i := by
  unfold On
  intro h2
  simp [Array.getD, hi] at h h2
  rw [h] at h2
  cases h2
theorem wpOp_any {P : Program} {ops : Array Oper} {Q : Exit → Act → World → Prop} {i : Nat} {a : Act} {w : World} {K' : Act → World → Prop} (h : ∀ K : Act → World → Prop, (∀ a w, K' a w → K a w) → wpOp P ops Q i K a w) : wpOp P ops Q i K' a w := h K' (fun _ _ h => h)
def upd (v : Nat → Value) (i : Nat) (x : Value) (n : Nat) : Value := if n = i then x else v n
theorem upd_at (v : Nat → Value) (i : Nat) (x : Value) : upd v i x i = x := if_pos rfl
theorem upd_ne (v : Nat → Value) {i j : Nat} (x : Value) (h : j ≠ i) : upd v i x j = v j := if_neg h
/-- A dyad's limbs, not older than B, not in block p. -/
def Nb (w : World) (D : Dy) (ao : Option Addr) (p B : Nat) : Prop := LRow w ao D.mag ∧ Frs B ao ∧ ∀ b off, ao = some ⟨b, off, none⟩ → D.mag.length ≠ 0 → b ≠ p
def dyV (D : Dy) (ao : Option Addr) (cap : Nat) : Value := .agg #[.bool D.neg, .slice ao D.mag.length cap, .int .i64 D.exp]
def TD (D : Dy) (w : World) (u : Value) (p B : Nat) : Prop := ∃ ao cap, u = .agg #[.bool D.neg, .slice ao D.mag.length cap, .int .i64 D.exp] ∧ Nb w D ao p B
def TT (D : Dy) (w : World) (u : Value) (p B : Nat) : Prop := ∃ ao cap, u = .tuple #[.agg #[.bool D.neg, .slice ao D.mag.length cap, .int .i64 D.exp], .int .i64 0] ∧ Nb w D ao p B
theorem Nb.below {w w' : World} {D : Dy} {ao : Option Addr} {p B : Nat} (h : Nb w D ao p B) (hb : Below w.heap.size w w') : Nb w' D ao p B := ⟨h.1.below hb, h.2⟩
theorem Nb.alloc {w : World} {D : Dy} {ao : Option Addr} {p B : Nat} (h : Nb w D ao p B) (o : Obj) : Nb (w.alloc o) D ao w.heap.size B := ⟨h.1.alloc o, h.2.1, fun _b _off e l => Nat.ne_of_lt (by
  rcases h.1 with q | ⟨b', off', e', hc⟩
  · exact absurd q l
  · rw [e] at e'
    cases e'
    exact World.block_lt_of_cell? w _ (hc 0 (by omega)))⟩
theorem Nb.put {w : World} {D : Dy} {ao : Option Addr} {p B : Nat} (h : Nb w D ao p B) (x y z : Value) : Nb (((w.setCell ⟨p, 0, none⟩ x).setCell ⟨p, 1, none⟩ y).setCell ⟨p, 2, none⟩ z) D ao p B :=
  ⟨((h.1.setCell x h.2.2).setCell y h.2.2).setCell z h.2.2, h.2⟩
theorem Nb.new {w w' : World} {D : Dy} {ao : Option Addr} {p B : Nat} (h : LRow w' ao D.mag) (hf : Frs w.heap.size ao) (hp : p < w.heap.size) (hB : B ≤ w.heap.size) : Nb w' D ao p B := ⟨h, hf.mono hB, fun b off e _ => by
  have h1 : w.heap.size ≤ b := hf _ e
  omega⟩
theorem hd_put {w : World} {p B : Nat} {G E : Dy} {o a : Option Addr} {c c' : Nat} (h : Hd w p G o c') (hN : Nb w E a p B) : Hd (((w.setCell ⟨p, 0, none⟩ (.bool E.neg)).setCell ⟨p, 1, none⟩ (.slice a E.mag.length c)).setCell ⟨p, 2, none⟩ (.int .i64 E.exp)) p E a c := by
  have s0 : (w.setCell ⟨p, 0, none⟩ (.bool E.neg)).cell? ⟨p, 0, none⟩ = some (.bool E.neg) := World.cell?_setCell_same w _ _ h.c0
  have s1 : (w.setCell ⟨p, 0, none⟩ (.bool E.neg)).cell? ⟨p, 1, none⟩ = some (.slice o G.mag.length c') := (World.cell?_setCell_other w _ _ _ (by simp)).trans h.c1
  have s2 : (w.setCell ⟨p, 0, none⟩ (.bool E.neg)).cell? ⟨p, 2, none⟩ = some (.int .i64 G.exp) := (World.cell?_setCell_other w _ _ _ (by simp)).trans h.c2
  have t0 := (World.cell?_setCell_other _ ⟨p, 1, none⟩ ⟨p, 0, none⟩ (.slice a E.mag.length c) (by simp)).trans s0
  have t1 := World.cell?_setCell_same _ _ (.slice a E.mag.length c) s1
  have t2 := (World.cell?_setCell_other _ ⟨p, 1, none⟩ ⟨p, 2, none⟩ (.slice a E.mag.length c) (by simp)).trans s2
  exact ⟨(World.cell?_setCell_other _ _ _ _ (by simp)).trans t0, (World.cell?_setCell_other _ _ _ _ (by simp)).trans t1, World.cell?_setCell_same _ _ _ t2, (hN.put _ _ _).1⟩
/-- What holds of each operation once it is done. -/
def DxF (sa sb pa pb : Value) (k x y : Nat) (X Y P : Dy) (B j : Nat) (w : World) (u : Value) (p : Nat) : Prop := match j with
  | 0 => u = sa
  | 1 => u = .int .i64 k
  | 2 => u = pa
  | 3 => u = .float .f64 x
  | 4 => TD X w u p B
  | 5 => u = sb
  | 6 => u = .int .i64 k
  | 7 => u = pb
  | 8 => u = .float .f64 y
  | 9 => TD Y w u p B
  | 10 => TT P w u p B
  | 11 => TT P w u p B
  | 12 => TD P w u p B
  | 13 => u = .int .i64 0
  | 14 => u = .pointer (some ⟨p, 0, none⟩) ∧ B ≤ p ∧ (∃ G o c, Hd w p G o c) ∧ Fz w p
  | 15 => ∃ ao cap, Hd w p P ao cap ∧ Nb w P ao p B
  | 16 => u = .int .i64 0
  | _ => True
structure DxS (sa sb pa pb : Value) (k x y : Nat) (X Y P : Dy) (B : Nat) (W : World) (L : Array Bool) (w : World) (v : Nat → Value) (p : Nat) : Prop where
  bel : Below W.heap.size W w
  pl : p < w.heap.size
  c : On L 15 → On L 14
  d : ∀ j, On L j → DxF sa sb pa pb k x y X Y P B j w (v j) p
section
variable {sa sb pa pb : Value} {k x y : Nat} {X Y P : Dy} {B : Nat} {W : World} {L : Array Bool} {w : World} {v : Nat → Value} {p : Nat}
theorem DxF.below {j : Nat} {u : Value} {w' : World} (h : DxF sa sb pa pb k x y X Y P B j w u p) (hb : Below w.heap.size w w') : DxF sa sb pa pb k x y X Y P B j w' u p := by
  unfold DxF at h ⊢
  split at h <;> first | exact h | (obtain ⟨ao, cap, e, hn⟩ := h; exact ⟨ao, cap, e, hn.below hb⟩) | (obtain ⟨ao, cap, e, hn⟩ := h; exact ⟨ao, cap, e.below hb, hn.below hb⟩) | (obtain ⟨h1, h2, ⟨G, o, c, h3⟩, h4⟩ := h; exact ⟨h1, h2, ⟨G, o, c, h3.below hb⟩, h4.below (World.block_lt_of_cell? w _ h3.c0) hb⟩)
theorem DxF.alloc {j : Nat} {u : Value} (h : DxF sa sb pa pb k x y X Y P B j w u p) (h14 : j ≠ 14) (h15 : j ≠ 15) (o : Obj) : DxF sa sb pa pb k x y X Y P B j (w.alloc o) u w.heap.size := by
  unfold DxF at h ⊢
  split at h <;> first | exact h | (obtain ⟨ao, cap, e, hn⟩ := h; exact ⟨ao, cap, e, hn.alloc o⟩) | (exact absurd rfl h14) | (exact absurd rfl h15)
theorem DxF.put {j : Nat} {u : Value} (h : DxF sa sb pa pb k x y X Y P B j w u p) (h15 : j ≠ 15) (E : Dy) (a : Option Addr) (c : Nat) (hN : Nb w E a p B) : DxF sa sb pa pb k x y X Y P B j (((w.setCell ⟨p, 0, none⟩ (.bool E.neg)).setCell ⟨p, 1, none⟩ (.slice a E.mag.length c)).setCell ⟨p, 2, none⟩ (.int .i64 E.exp)) u p := by
  unfold DxF at h ⊢
  split at h <;> first | exact h | (obtain ⟨ao, cap, e, hn⟩ := h; exact ⟨ao, cap, e, hn.put _ _ _⟩) | (exact absurd rfl h15) | (obtain ⟨h1, h2, ⟨G, o, c', h3⟩, f0, f1, f2⟩ := h; exact ⟨h1, h2, ⟨E, a, c, hd_put h3 hN⟩, by simp [go_sem, f0], by simp [go_sem, f1], by simp [go_sem, f2]⟩)
theorem DxS.step (h : DxS sa sb pa pb k x y X Y P B W L w v p) {i : Nat} {w' : World} {u : Value} (hi : i < L.size) (h15 : i ≠ 15) (hb : Below w.heap.size w w') (hu : DxF sa sb pa pb k x y X Y P B i w' u p) : DxS sa sb pa pb k x y X Y P B W (L.setIfInBounds i true) w' (upd v i u) p where
  bel := h.bel.trans (hb.mono h.bel.size)
  pl := Nat.lt_of_lt_of_le h.pl hb.size
  c := fun g => (on_set hi 14).2 (Or.inr (h.c (((on_set hi 15).1 g).resolve_left (fun e => h15 e.symm))))
  d := fun j g => by
    by_cases e : j = i
    · subst e; rw [upd_at]; exact hu
    · rw [upd_ne v u e]; exact (h.d j (((on_set hi j).1 g).resolve_left e)).below hb
theorem DxS.stepA (h : DxS sa sb pa pb k x y X Y P B W L w v p) (hi : 14 < L.size) (hn : ¬ On L 14) (hB : B ≤ w.heap.size) (t : TypeId) : DxS sa sb pa pb k x y X Y P B W (L.setIfInBounds 14 true) (w.alloc (.cells #[.bool false, .slice none 0 0, .int .i64 0] t)) (upd v 14 (.pointer (some ⟨w.heap.size, 0, none⟩))) w.heap.size where
  bel := h.bel.alloc h.bel.size _
  pl := by go_simp
  c := fun _ => (on_set hi 14).2 (Or.inl rfl)
  d := fun j g => by
    by_cases e : j = 14
    · subst e; rw [upd_at]
      refine ⟨rfl, hB, ⟨dy0, none, 0, ⟨by go_simp; rfl, by go_simp; rfl, by go_simp; rfl, Or.inl rfl⟩⟩, by go_simp, by go_simp, by go_simp⟩
    · rw [upd_ne v _ e]
      have g' := ((on_set hi j).1 g).resolve_left e
      exact (h.d j g').alloc e (fun e2 => hn (h.c (e2 ▸ g'))) _
theorem DxS.stepS (h : DxS sa sb pa pb k x y X Y P B W L w v p) (hi : 15 < L.size) (h14 : On L 14) (hW : W.heap.size ≤ p) {ao : Option Addr} {c : Nat} (hN : Nb w P ao p B) (u : Value) : DxS sa sb pa pb k x y X Y P B W (L.setIfInBounds 15 true) (((w.setCell ⟨p, 0, none⟩ (.bool P.neg)).setCell ⟨p, 1, none⟩ (.slice ao P.mag.length c)).setCell ⟨p, 2, none⟩ (.int .i64 P.exp)) (upd v 15 u) p where
  bel := ((h.bel.setCell hW _).setCell hW _).setCell hW _
  pl := by simp [World.setCell]; exact h.pl
  c := fun _ => (on_set hi 14).2 (Or.inr h14)
  d := fun j g => by
    by_cases e : j = 15
    · subst e
      obtain ⟨_, _, ⟨G, o, c', h3⟩, _⟩ := h.d 14 h14
      exact ⟨ao, c, hd_put h3 hN, hN.put _ _ _⟩
    · rw [upd_ne v _ e]
      have g' := ((on_set hi j).1 g).resolve_left e
      exact (h.d j g').put e P ao c hN
end
end Go.Proofs.YtmbcmhncicbbjaaGreatDoor
