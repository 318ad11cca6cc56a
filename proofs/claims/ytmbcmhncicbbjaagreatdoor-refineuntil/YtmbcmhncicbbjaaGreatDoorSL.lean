/- RefineSteps: the walk. -/
import Derived.Test.YtmbcmhncicbbjaaGreatDoorDe0
import Derived.Test.YtmbcmhncicbbjaaGreatDoorRF
import Derived.Test.YtmbcmhncicbbjaaGreatDoorSol13a
import Derived.Test.YtmbcmhncicbbjaaGreatDoorMx17
import Derived.Test.YtmbcmhncicbbjaaGreatDoorST
import Derived.Test.YtmbcmhncicbbjaaGreatDoorLf5
namespace Go.Proofs.YtmbcmhncicbbjaaGreatDoor
open Go.RowKit

theorem C8.past {w w1 : World} {p B : Nat} {r c : Int} {ao : Option Addr} {mn cap : Nat} {n : Int} {lo : Option Addr} {ln lc : Nat} {dO : Option Addr} {dn dc : Nat} {x b : Value} (h : C8 w p r c ao mn cap n lo ln lc dO dn dc x b) (hb : Below B w w1) (hB : p < B) : C8 w1 p r c ao mn cap n lo ln lc dO dn dc x b := by
  have k := fun o => hb.cell (p := ⟨p, o, none⟩) hB
  exact ⟨(k 0).trans h.c0, (k 1).trans h.c1, (k 2).trans h.c2, (k 3).trans h.c3, (k 4).trans h.c4, (k 5).trans h.c5, (k 6).trans h.c6, (k 7).trans h.c7⟩
/-- A world with a box of three cells written anew. -/
abbrev slW3 (w : World) (b : Nat) (x y z : Value) : World := ((w.setCell ⟨b, 0, none⟩ x).setCell ⟨b, 1, none⟩ y).setCell ⟨b, 2, none⟩ z
theorem slW3_me {w : World} {b : Nat} {x y z : Value} (h : B3 w b x y z) (u v t : Value) : B3 (slW3 w b u v t) b u v t := by
  obtain ⟨h0, h1, h2, g0, g1, g2, h5⟩ := h
  have e0 : (w.setCell ⟨b, 0, none⟩ u).cell? ⟨b, 0, none⟩ = some u := World.cell?_setCell_same w _ u h0
  have e1 : (w.setCell ⟨b, 0, none⟩ u).cell? ⟨b, 1, none⟩ = some y := (World.cell?_setCell_other w _ _ u (by simp)).trans h1
  have e2 : (w.setCell ⟨b, 0, none⟩ u).cell? ⟨b, 2, none⟩ = some z := (World.cell?_setCell_other w _ _ u (by simp)).trans h2
  have f0 : ((w.setCell ⟨b, 0, none⟩ u).setCell ⟨b, 1, none⟩ v).cell? ⟨b, 0, none⟩ = some u := (World.cell?_setCell_other _ _ _ v (by simp)).trans e0
  have f1 : ((w.setCell ⟨b, 0, none⟩ u).setCell ⟨b, 1, none⟩ v).cell? ⟨b, 1, none⟩ = some v := World.cell?_setCell_same _ _ v e1
  have f2 : ((w.setCell ⟨b, 0, none⟩ u).setCell ⟨b, 1, none⟩ v).cell? ⟨b, 2, none⟩ = some z := (World.cell?_setCell_other _ _ _ v (by simp)).trans e2
  refine ⟨(World.cell?_setCell_other _ _ _ t (by simp)).trans f0, (World.cell?_setCell_other _ _ _ t (by simp)).trans f1, World.cell?_setCell_same _ _ t f2, ?_, ?_, ?_, ?_⟩
  · simp [go_sem, g0]
  · simp [go_sem, g1]
  · simp [go_sem, g2]
  · simp [go_sem]; exact h5
theorem slW3_box {w : World} {b c : Nat} {x y z : Value} (h : B3 w b x y z) (hc : c ≠ b) (u v t : Value) : B3 (slW3 w c u v t) b x y z := ((h.far hc u).far hc v).far hc t
theorem slW3_lent {w : World} {g c : Nat} {xs : List Nat} (h : LentF w g xs) (hc : c ≠ g) (u v t : Value) : LentF (slW3 w c u v t) g xs := ((h.far hc 0 u).far hc 1 v).far hc 2 t
theorem box_lent {w : World} {b g : Nat} {i : Int} {y z : Value} {xs : List Nat} (h : B3 w b (.int .i64 i) y z) (hl : LentF w g xs) : b ≠ g := by
  rintro rfl
  have h0 := h.1
  rw [hl.cell (j := 0) (by omega)] at h0
  cases h0
theorem box_two {w : World} {b g : Nat} {k : Int} {x z x' z' : Value} {o : Option Addr} {m q : Nat} (h : B3 w b x (.int .i64 k) z) (h' : B3 w g x' (.slice o m q) z') : b ≠ g := by
  rintro rfl
  have h0 := h.2.1
  rw [h'.2.1] at h0
  cases h0
abbrev lnV (g : Nat) (xs : List Nat) : Value := .slice (some ⟨g, 0, none⟩) xs.length (xs.length + 12)
/-- What holds of each operation once it is done. -/
def SlF (V : Nat → Value) (p0 : Nat) (r c n : Int) (ms ls ds xs bs : List Nat) (P G j : Nat) (w : World) (u : Value) : Prop := match j with
  | 2 => ∃ g, u = .agg #[.int .i64 r, .int .i64 c, lnV g ms] ∧ LentF w g ms
  | 5 => ∃ g h, u = .agg #[.int .i64 n, lnV g ls, lnV h ds] ∧ LentF w g ls ∧ LentF w h ds
  | 8 => ∃ g, u = lnV g xs ∧ LentF w g xs
  | 11 => ∃ g, u = lnV g bs ∧ LentF w g bs
  | 12 => u = .pointer (some ⟨P, 0, none⟩) ∧ p0 < P ∧ ∃ x y z, B3 w P (.int .i64 x) (.int .i64 y) z
  | 13 => u = .pointer (some ⟨G, 0, none⟩) ∧ p0 < G ∧ ∃ x o m k z, B3 w G (.int .i64 x) (.slice o m k) z
  | 14 => ∃ g, B3 w P (.int .i64 r) (.int .i64 c) (lnV g ms) ∧ LentF w g ms
  | 15 => ∃ g h, B3 w G (.int .i64 n) (lnV g ls) (lnV h ds) ∧ LentF w g ls ∧ LentF w h ds
  | 16 => ∃ g, u = lnV g xs ∧ LentF w g xs
  | 17 => ∃ g, u = lnV g bs ∧ LentF w g bs
  | j => u = V j
structure SlS (V : Nat → Value) (W : World) (r c n : Int) (ms ls ds xs bs : List Nat) (ao lo dO xo bo : Option Addr) (cap lc dc xc bc : Nat) (L : Array Bool) (w : World) (v : Nat → Value) (P G : Nat) : Prop where
  bel : Below W.heap.size W w
  cb : C8 w W.heap.size r c ao ms.length cap n lo ls.length lc dO ds.length dc (.slice xo xs.length xc) (.slice bo bs.length bc)
  c14 : On L 14 → On L 12
  c15 : On L 15 → On L 13
  d : ∀ j, On L j → SlF V W.heap.size r c n ms ls ds xs bs P G j w (v j)
section
variable {V : Nat → Value} {W : World} {r c n : Int} {ms ls ds xs bs : List Nat} {ao lo dO xo bo : Option Addr} {cap lc dc xc bc : Nat} {L : Array Bool} {w : World} {v : Nat → Value} {P G p0 : Nat}
theorem SlF.below {j : Nat} {u : Value} {w' : World} (h : SlF V p0 r c n ms ls ds xs bs P G j w u) (hb : Below w.heap.size w w') : SlF V p0 r c n ms ls ds xs bs P G j w' u := by
  unfold SlF at h ⊢
  split at h
  · obtain ⟨g, e, h⟩ := h; exact ⟨g, e, h.below hb⟩
  · obtain ⟨g, k, e, h, h'⟩ := h; exact ⟨g, k, e, h.below hb, h'.below hb⟩
  · obtain ⟨g, e, h⟩ := h; exact ⟨g, e, h.below hb⟩
  · obtain ⟨g, e, h⟩ := h; exact ⟨g, e, h.below hb⟩
  · obtain ⟨e, h1, x, y, z, h⟩ := h; exact ⟨e, h1, x, y, z, h.below hb⟩
  · obtain ⟨e, h1, x, o, m, k, z, h⟩ := h; exact ⟨e, h1, x, o, m, k, z, h.below hb⟩
  · obtain ⟨g, e, h⟩ := h; exact ⟨g, e.below hb, h.below hb⟩
  · obtain ⟨g, k, e, h, h'⟩ := h; exact ⟨g, k, e.below hb, h.below hb, h'.below hb⟩
  · obtain ⟨g, e, h⟩ := h; exact ⟨g, e, h.below hb⟩
  · obtain ⟨g, e, h⟩ := h; exact ⟨g, e, h.below hb⟩
  · exact h
theorem SlF.newP {j : Nat} {u : Value} (h : SlF V p0 r c n ms ls ds xs bs P G j w u) (h12 : j ≠ 12) (h14 : j ≠ 14) (P' : Nat) : SlF V p0 r c n ms ls ds xs bs P' G j w u := by
  unfold SlF at h ⊢
  split at h <;> first | exact h | exact absurd rfl h12 | exact absurd rfl h14
theorem SlF.newG {j : Nat} {u : Value} (h : SlF V p0 r c n ms ls ds xs bs P G j w u) (h13 : j ≠ 13) (h15 : j ≠ 15) (G' : Nat) : SlF V p0 r c n ms ls ds xs bs P G' j w u := by
  unfold SlF at h ⊢
  split at h <;> first | exact h | exact absurd rfl h13 | exact absurd rfl h15
theorem SlF.putP {j : Nat} {u : Value} (h : SlF V p0 r c n ms ls ds xs bs P G j w u) (h14 : j ≠ 14) {x y : Int} {z : Value} (hP : B3 w P (.int .i64 x) (.int .i64 y) z) (a b : Int) (t : Value) : SlF V p0 r c n ms ls ds xs bs P G j (slW3 w P (.int .i64 a) (.int .i64 b) t) u := by
  unfold SlF at h ⊢
  split at h
  · obtain ⟨g, e, h⟩ := h; exact ⟨g, e, slW3_lent h (box_lent hP h) _ _ _⟩
  · obtain ⟨g, k, e, h, h'⟩ := h; exact ⟨g, k, e, slW3_lent h (box_lent hP h) _ _ _, slW3_lent h' (box_lent hP h') _ _ _⟩
  · obtain ⟨g, e, h⟩ := h; exact ⟨g, e, slW3_lent h (box_lent hP h) _ _ _⟩
  · obtain ⟨g, e, h⟩ := h; exact ⟨g, e, slW3_lent h (box_lent hP h) _ _ _⟩
  · obtain ⟨e, h1, _⟩ := h; exact ⟨e, h1, a, b, t, slW3_me hP _ _ _⟩
  · obtain ⟨e, h1, x', o, m, k, z', h⟩ := h; exact ⟨e, h1, x', o, m, k, z', slW3_box h (box_two (k := y) hP h) _ _ _⟩
  · exact absurd rfl h14
  · obtain ⟨g, k, e, h, h'⟩ := h; exact ⟨g, k, slW3_box e (box_two (k := y) hP e) _ _ _, slW3_lent h (box_lent hP h) _ _ _, slW3_lent h' (box_lent hP h') _ _ _⟩
  · obtain ⟨g, e, h⟩ := h; exact ⟨g, e, slW3_lent h (box_lent hP h) _ _ _⟩
  · obtain ⟨g, e, h⟩ := h; exact ⟨g, e, slW3_lent h (box_lent hP h) _ _ _⟩
  · exact h
theorem SlF.putG {j : Nat} {u : Value} (h : SlF V p0 r c n ms ls ds xs bs P G j w u) (h15 : j ≠ 15) {x : Int} {o : Option Addr} {m k : Nat} {z : Value} (hG : B3 w G (.int .i64 x) (.slice o m k) z) (a : Int) (o' : Option Addr) (m' k' : Nat) (t : Value) : SlF V p0 r c n ms ls ds xs bs P G j (slW3 w G (.int .i64 a) (.slice o' m' k') t) u := by
  unfold SlF at h ⊢
  split at h
  · obtain ⟨g, e, h⟩ := h; exact ⟨g, e, slW3_lent h (box_lent hG h) _ _ _⟩
  · obtain ⟨g, k, e, h, h'⟩ := h; exact ⟨g, k, e, slW3_lent h (box_lent hG h) _ _ _, slW3_lent h' (box_lent hG h') _ _ _⟩
  · obtain ⟨g, e, h⟩ := h; exact ⟨g, e, slW3_lent h (box_lent hG h) _ _ _⟩
  · obtain ⟨g, e, h⟩ := h; exact ⟨g, e, slW3_lent h (box_lent hG h) _ _ _⟩
  · obtain ⟨e, h1, x', y', z', h⟩ := h; exact ⟨e, h1, x', y', z', slW3_box h (box_two (k := y') h hG).symm _ _ _⟩
  · obtain ⟨e, h1, _⟩ := h; exact ⟨e, h1, a, o', m', k', t, slW3_me hG _ _ _⟩
  · obtain ⟨g, e, h⟩ := h; exact ⟨g, slW3_box e (box_two (k := c) e hG).symm _ _ _, slW3_lent h (box_lent hG h) _ _ _⟩
  · exact absurd rfl h15
  · obtain ⟨g, e, h⟩ := h; exact ⟨g, e, slW3_lent h (box_lent hG h) _ _ _⟩
  · obtain ⟨g, e, h⟩ := h; exact ⟨g, e, slW3_lent h (box_lent hG h) _ _ _⟩
  · exact h
theorem SlS.step (h : SlS V W r c n ms ls ds xs bs ao lo dO xo bo cap lc dc xc bc L w v P G) {i : Nat} {w' : World} {u : Value} (hi : i < L.size) (h14 : i ≠ 14) (h15 : i ≠ 15) (hb : Below w.heap.size w w') (hu : SlF V W.heap.size r c n ms ls ds xs bs P G i w' u) : SlS V W r c n ms ls ds xs bs ao lo dO xo bo cap lc dc xc bc (L.setIfInBounds i true) w' (upd v i u) P G where
  bel := h.bel.trans (hb.mono h.bel.size)
  cb := h.cb.below hb
  c14 := fun g => (on_set hi 12).2 (Or.inr (h.c14 (((on_set hi 14).1 g).resolve_left (fun e => h14 e.symm))))
  c15 := fun g => (on_set hi 13).2 (Or.inr (h.c15 (((on_set hi 15).1 g).resolve_left (fun e => h15 e.symm))))
  d := fun j g => by
    by_cases e : j = i
    · subst e; rw [upd_at]; exact hu
    · rw [upd_ne v u e]; exact (h.d j (((on_set hi j).1 g).resolve_left e)).below hb
theorem SlS.stepP (h : SlS V W r c n ms ls ds xs bs ao lo dO xo bo cap lc dc xc bc L w v P G) (hi : 12 < L.size) (hn : ¬ On L 12) (t : TypeId) : SlS V W r c n ms ls ds xs bs ao lo dO xo bo cap lc dc xc bc (L.setIfInBounds 12 true) (w.alloc (.cells #[.int .i64 0, .int .i64 0, .slice none 0 0] t)) (upd v 12 (.pointer (some ⟨w.heap.size, 0, none⟩))) w.heap.size G where
  bel := h.bel.alloc h.bel.size _
  cb := h.cb.below ((Below.refl _ _).alloc (Nat.le_refl _) _)
  c14 := fun _ => (on_set hi 12).2 (Or.inl rfl)
  c15 := fun g => (on_set hi 13).2 (Or.inr (h.c15 (((on_set hi 15).1 g).resolve_left (by decide))))
  d := fun j g => by
    by_cases e : j = 12
    · subst e; rw [upd_at]
      exact ⟨rfl, World.block_lt_of_cell? w _ h.cb.c0, 0, 0, _, B3.new w _ _ _ _⟩
    · rw [upd_ne v _ e]
      have g' := ((on_set hi j).1 g).resolve_left e
      exact ((h.d j g').newP e (fun e2 => hn (h.c14 (e2 ▸ g'))) _).below ((Below.refl _ _).alloc (Nat.le_refl _) _)
theorem SlS.stepG (h : SlS V W r c n ms ls ds xs bs ao lo dO xo bo cap lc dc xc bc L w v P G) (hi : 13 < L.size) (hn : ¬ On L 13) (t : TypeId) : SlS V W r c n ms ls ds xs bs ao lo dO xo bo cap lc dc xc bc (L.setIfInBounds 13 true) (w.alloc (.cells #[.int .i64 0, .slice none 0 0, .slice none 0 0] t)) (upd v 13 (.pointer (some ⟨w.heap.size, 0, none⟩))) P w.heap.size where
  bel := h.bel.alloc h.bel.size _
  cb := h.cb.below ((Below.refl _ _).alloc (Nat.le_refl _) _)
  c14 := fun g => (on_set hi 12).2 (Or.inr (h.c14 (((on_set hi 14).1 g).resolve_left (by decide))))
  c15 := fun _ => (on_set hi 13).2 (Or.inl rfl)
  d := fun j g => by
    by_cases e : j = 13
    · subst e; rw [upd_at]
      exact ⟨rfl, World.block_lt_of_cell? w _ h.cb.c0, 0, none, 0, 0, _, B3.new w _ _ _ _⟩
    · rw [upd_ne v _ e]
      have g' := ((on_set hi j).1 g).resolve_left e
      exact ((h.d j g').newG e (fun e2 => hn (h.c15 (e2 ▸ g'))) _).below ((Below.refl _ _).alloc (Nat.le_refl _) _)
theorem slW3_below {w : World} {B b : Nat} (h : B ≤ b) (x y z : Value) : Below B w (slW3 w b x y z) := (((Below.refl _ _).setCell h _).setCell h _).setCell h _
theorem SlS.putM (h : SlS V W r c n ms ls ds xs bs ao lo dO xo bo cap lc dc xc bc L w v P G) (hi : 14 < L.size) (o12 : On L 12) {g : Nat} (hl : LentF w g ms) (u : Value) : SlS V W r c n ms ls ds xs bs ao lo dO xo bo cap lc dc xc bc (L.setIfInBounds 14 true) (slW3 w P (.int .i64 r) (.int .i64 c) (lnV g ms)) (upd v 14 u) P G := by
  obtain ⟨_, hp, x, y, z, hB⟩ : v 12 = .pointer (some ⟨P, 0, none⟩) ∧ W.heap.size < P ∧ ∃ x y z, B3 w P (.int .i64 x) (.int .i64 y) z := h.d 12 o12
  refine ⟨h.bel.trans (slW3_below (Nat.le_of_lt hp) _ _ _), h.cb.past (slW3_below (B := W.heap.size + 1) hp _ _ _) (Nat.lt_succ_self _), fun _ => (on_set hi 12).2 (Or.inr o12), fun g => (on_set hi 13).2 (Or.inr (h.c15 (((on_set hi 15).1 g).resolve_left (by decide)))), fun j q => ?_⟩
  by_cases e : j = 14
  · subst e; exact ⟨g, slW3_me hB _ _ _, slW3_lent hl (box_lent hB hl) _ _ _⟩
  · rw [upd_ne v _ e]
    exact (h.d j (((on_set hi j).1 q).resolve_left e)).putP e hB _ _ _
theorem SlS.putF (h : SlS V W r c n ms ls ds xs bs ao lo dO xo bo cap lc dc xc bc L w v P G) (hi : 15 < L.size) (o13 : On L 13) {g k : Nat} (hl : LentF w g ls) (hk : LentF w k ds) (u : Value) : SlS V W r c n ms ls ds xs bs ao lo dO xo bo cap lc dc xc bc (L.setIfInBounds 15 true) (slW3 w G (.int .i64 n) (lnV g ls) (lnV k ds)) (upd v 15 u) P G := by
  obtain ⟨_, hp, x, o, m, q, z, hB⟩ : v 13 = .pointer (some ⟨G, 0, none⟩) ∧ W.heap.size < G ∧ ∃ x o m k z, B3 w G (.int .i64 x) (.slice o m k) z := h.d 13 o13
  refine ⟨h.bel.trans (slW3_below (Nat.le_of_lt hp) _ _ _), h.cb.past (slW3_below (B := W.heap.size + 1) hp _ _ _) (Nat.lt_succ_self _), fun g => (on_set hi 12).2 (Or.inr (h.c14 (((on_set hi 14).1 g).resolve_left (by decide)))), fun _ => (on_set hi 13).2 (Or.inr o13), fun j q => ?_⟩
  by_cases e : j = 15
  · subst e; exact ⟨g, k, slW3_me hB _ _ _, slW3_lent hl (box_lent hB hl) _ _ _, slW3_lent hk (box_lent hB hk) _ _ _⟩
  · rw [upd_ne v _ e]
    exact (h.d j (((on_set hi j).1 q).resolve_left e)).putG e hB _ _ _ _ _
end
end Go.Proofs.YtmbcmhncicbbjaaGreatDoor

namespace Go.Proofs.YtmbcmhncicbbjaaGreatDoor
open Go.RowKit

set_option maxRecDepth 100000 in
set_option maxHeartbeats 4000000 in
theorem steps_law (r c n : Int) (ms ls ds xs bs : List Nat) (ao lo dO xo bo : Option Addr) (cap lc dc xc bc : Nat) (w : World) (hT : TabW w) (hM : GRow w ao ms) (hL0 : GRow w lo ls) (hD : GRow w dO ds) (hX : GRow w xo xs) (hB : GRow w bo bs) (fM : FW ms) (fL : FW ls) (fD : FW ds) (fX : FW xs) (fB : FW bs) (sM : ao = none → cap = 0 ∧ ms.length = 0) (sL : lo = none → lc = 0 ∧ ls.length = 0) (sD : dO = none → dc = 0 ∧ ds.length = 0) (sX : xo = none → xc = 0 ∧ xs.length = 0) (sB : bo = none → bc = 0 ∧ bs.length = 0) (lL : ls.length ≤ 17592186044416) (lD : ds.length ≤ 17592186044416) :
    Calls Tryz.prog 4 #[csV r c ao ms.length cap n lo ls.length lc dO ds.length dc xo xs.length xc bo bs.length bc] w fun e w' => e = .returned (.bool true) ∧ Below w.heap.size w w' := by
  have hg := fun W => great14 r c ao ms.length cap W
  have M0 := C8.new w r c ao ms.length cap n lo ls.length lc dO ds.length dc xo xs.length xc bo bs.length bc 38
  have B0 : Below w.heap.size w (w.alloc (.cells #[.int .i64 r, .int .i64 c, .slice ao ms.length cap, .int .i64 n, .slice lo ls.length lc, .slice dO ds.length dc, .slice xo xs.length xc, .slice bo bs.length bc] 38)) := below_one w _
  by_cases g1 : 100 < ms.length
  · rw [decide_eq_true g1] at hg
    clear g1
    go_enter Tryz.func4, Tryz.ntmps4
    go_wp2_with (first
      | (go_at_call 6; refine (awake14 _ (tabW_below hT B0)).mono ?_; rintro e w1 ⟨rfl, b1⟩; obtain ⟨m0, m1, m2, m3, m4, m5, m6, m7⟩ := M0.below b1; have z1 := B0.trans (b1.mono B0.size))
      | (go_at_call 7; refine (hg _).mono ?_; rintro e w2 ⟨rfl, b2⟩; have z2 := z1.trans (b2.mono z1.size)))
    go_ret
    exact ⟨rfl, z2⟩
  · rw [decide_eq_false g1] at hg
    by_cases g2 : 100 < xs.length
    · have i2 : (100 : Int) < (xs.length : Int) := by omega
      clear g1 g2
      go_enter Tryz.func4, Tryz.ntmps4
      go_wp2_with (first
        | (go_at_call 6; refine (awake14 _ (tabW_below hT B0)).mono ?_; rintro e w1 ⟨rfl, b1⟩; have M1 := M0.below b1; obtain ⟨m0, m1, m2, m3, m4, m5, m6, m7⟩ := id M1; have z1 := B0.trans (b1.mono B0.size))
        | (go_at_call 7; refine (hg _).mono ?_; rintro e w2 ⟨rfl, b2⟩; obtain ⟨m0, m1, m2, m3, m4, m5, m6, m7⟩ := M1.below b2; have z2 := z1.trans (b2.mono z1.size)))
      go_ret
      exact ⟨rfl, z2⟩
    · have i2 : ¬ (100 : Int) < (xs.length : Int) := by omega
      by_cases g3 : 100 < bs.length
      · have i3 : (100 : Int) < (bs.length : Int) := by omega
        clear g1 g2 g3
        go_enter Tryz.func4, Tryz.ntmps4
        go_wp2_with (first
          | (go_at_call 6; refine (awake14 _ (tabW_below hT B0)).mono ?_; rintro e w1 ⟨rfl, b1⟩; have M1 := M0.below b1; obtain ⟨m0, m1, m2, m3, m4, m5, m6, m7⟩ := id M1; have z1 := B0.trans (b1.mono B0.size))
          | (go_at_call 7; refine (hg _).mono ?_; rintro e w2 ⟨rfl, b2⟩; obtain ⟨m0, m1, m2, m3, m4, m5, m6, m7⟩ := M1.below b2; have z2 := z1.trans (b2.mono z1.size)))
        go_ret
        exact ⟨rfl, z2⟩
      · have i3 : ¬ (100 : Int) < (bs.length : Int) := by omega
        have cM := fun W h => lentM_any r c ms ao cap W h sM (by omega)
        have cF := fun W h1 h2 => lentFc_any n ls ds lo dO lc dc W h1 h2 sL sD lL lD
        have cX := fun W h => lentR_any xs xo xc W h sX (by omega)
        have cB := fun W h => lentR_any bs bo bc W h sB (by omega)
        have kM := fun g W h1 h2 => keptM_any r c ms ao cap g W h1 fM h2 (by omega)
        have kF := fun g h W h1 h2 h3 h4 => keptFc_any n ls ds lo dO lc dc g h W h1 h2 fL fD h3 h4 lL lD
        have kX := fun g W h1 h2 => keptR_any xs xo xc g W h1 fX h2 (by omega)
        have kB := fun g W h1 h2 => keptR_any bs bo bc g W h1 fB h2 (by omega)
        have pS := fun o1 o2 o3 o4 o5 W t h1 h2 h3 h4 h5 => step14_any r c ms n ls ds xs bs (some ⟨o1, 0, none⟩) (some ⟨o2, 0, none⟩) (some ⟨o3, 0, none⟩) (some ⟨o4, 0, none⟩) (some ⟨o5, 0, none⟩) (ms.length + 12) (ls.length + 12) (ds.length + 12) (xs.length + 12) (bs.length + 12) W t h1 h2 h3 h4 h5 fM fL fD fX fB (by omega) (by omega) (by omega) (Or.inr (Or.inl ⟨o1, 0, rfl⟩)) (by omega)
        have dS := fun W h1 h2 h3 h4 h5 => dstep_any r c ms n ls ds xs bs ao lo dO xo bo cap lc dc xc bc W h1 h2 h3 h4 h5 fM fL fD fX fB (by omega) (by omega) (by omega)
        have lS : (stA r c ms n ls ds xs bs).1.length ≤ 1125899906842624 := Nat.le_trans (stA_len r c ms n ls ds xs bs) (by omega)
        obtain ⟨q, hq⟩ : ∃ q, stA r c ms n ls ds xs bs = q := ⟨_, rfl⟩
        rw [hq] at pS dS lS
        obtain ⟨zs, er⟩ := q
        simp only at lS
        have sR := fun o1 o2 c1 c2 W h1 h2 f => sreals_any zs zs o1 o2 c1 c2 W h1 h2 f f lS lS
        rw [sameL_my] at sR
        have eer : (er == er) = true := by simp
        clear g1 g2 g3 hq lS fM fX fB fL fD sM sX sB sL sD lL lD
        go_enter Tryz.func4, Tryz.ntmps4
        go_upto_region 5 with (first
          | (go_at_call 6; refine (awake14 _ (tabW_below hT B0)).mono ?_; rintro e w1 ⟨rfl, b1⟩; have M1 := M0.below b1; obtain ⟨m0, m1, m2, m3, m4, m5, m6, m7⟩ := id M1; have z1 := B0.trans (b1.mono B0.size))
          | (go_at_call 7; refine (hg _).mono ?_; rintro e w2 ⟨rfl, b2⟩; have M2 := M1.below b2; obtain ⟨m0, m1, m2, m3, m4, m5, m6, m7⟩ := id M2; have z2 := z1.trans (b2.mono z1.size)))
        clear b1 b2 M1 M0 B0 z1 m0 m1 m2 m3 m4 m5 m6 m7 hg i2 i3
        go_cut [3, 4, 5, 6] from 12 to 40 (fun s3 s4 s5 s6 wx => ∃ P G g1 g2 g3 g4 g5, s3 = .pointer (some ⟨P, 0, none⟩) ∧ s4 = .pointer (some ⟨G, 0, none⟩) ∧ s5 = .slice (some ⟨g4, 0, none⟩) xs.length (xs.length + 12) ∧ s6 = .slice (some ⟨g5, 0, none⟩) bs.length (bs.length + 12) ∧ C8 wx w.heap.size r c ao ms.length cap n lo ls.length lc dO ds.length dc (.slice xo xs.length xc) (.slice bo bs.length bc) ∧ B3 wx P (.int .i64 r) (.int .i64 c) (.slice (some ⟨g1, 0, none⟩) ms.length (ms.length + 12)) ∧ B3 wx G (.int .i64 n) (.slice (some ⟨g2, 0, none⟩) ls.length (ls.length + 12)) (.slice (some ⟨g3, 0, none⟩) ds.length (ds.length + 12)) ∧ LentF wx g1 ms ∧ LentF wx g2 ls ∧ LentF wx g3 ds ∧ LentF wx g4 xs ∧ LentF wx g5 bs ∧ Below w.heap.size w wx)
        case first =>
          refine region_inv (by kernel_rfl) (fun L a w' => ∃ v P G, a = ⟨#[csV r c ao ms.length cap n lo ls.length lc dO ds.length dc xo xs.length xc bo bs.length bc, .pointer (some ⟨w.heap.size, 0, none⟩), .bool false, v 12, v 13, v 16, v 17, undef, undef, undef, undef, undef, .bool true, .bool false, .pointer (some ⟨w.heap.size, 0, none⟩), .agg #[.int .i64 r, .int .i64 c, .slice ao ms.length cap], .bool false, .bool false, .pointer (some ⟨w.heap.size, 6, none⟩), .slice xo xs.length xc, .int .i64 xs.length, .bool (decide ((100 : Int) < (xs.length : Int))), .bool (decide ((100 : Int) < (xs.length : Int))), .bool (decide ((100 : Int) < (xs.length : Int))), .pointer (some ⟨w.heap.size, 7, none⟩), .slice bo bs.length bc, .int .i64 bs.length, .bool (decide ((100 : Int) < (bs.length : Int))), .bool (decide ((100 : Int) < (xs.length : Int)) || decide ((100 : Int) < (bs.length : Int))), v 0, v 1, v 2, v 3, v 4, v 5, v 6, v 7, v 8, v 9, v 10, v 11, undef, undef, undef, undef, undef, undef, undef, undef, undef, undef, undef, undef, undef, undef, undef, undef, undef, undef, undef, undef, undef, undef, undef, undef, undef, undef, undef, undef, undef, undef, undef, undef, undef, undef, undef, undef, undef, undef, undef, undef, undef, undef, undef, undef, undef, undef, undef, undef, undef, undef, undef, undef, undef], []⟩ ∧ SlS (fun j => match j with | 0 => .pointer (some ⟨w.heap.size, 0, none⟩) | 1 => .agg #[.int .i64 r, .int .i64 c, .slice ao ms.length cap] | 3 => .pointer (some ⟨w.heap.size, 3, none⟩) | 4 => .agg #[.int .i64 n, .slice lo ls.length lc, .slice dO ds.length dc] | 6 => .pointer (some ⟨w.heap.size, 6, none⟩) | 7 => .slice xo xs.length xc | 9 => .pointer (some ⟨w.heap.size, 7, none⟩) | 10 => .slice bo bs.length bc | _ => undef) w r c n ms ls ds xs bs ao lo dO xo bo cap lc dc xc bc L w' v P G) ?_ ?_ ?_
          · exact ⟨fun _ => undef, 0, 0, rfl, ⟨z2.drew, M2.below (Below.refl _ _).drew, fun h => absurd h on_no, fun h => absurd h on_no, fun j h => absurd h on_no⟩⟩
          · rintro L a w' i' hL ⟨v, P, G, rfl, hS⟩ hi
            obtain ⟨h1, h2, h3⟩ := mem_ready hi
            have h1 : i' < 18 := h1
            have hLs : L.size = 18 := hL
            have hno := off_on (by rw [hLs]; exact h1) h2
            have hcs : i' = 0 ∨ i' = 1 ∨ i' = 2 ∨ i' = 3 ∨ i' = 4 ∨ i' = 5 ∨ i' = 6 ∨ i' = 7 ∨ i' = 8 ∨ i' = 9 ∨ i' = 10 ∨ i' = 11 ∨ i' = 12 ∨ i' = 13 ∨ i' = 14 ∨ i' = 15 ∨ i' = 16 ∨ i' = 17 := by omega
            have bl := hS.bel
            obtain ⟨m0, m1, m2, m3, m4, m5, m6, m7⟩ := id hS.cb
            have ste := fun (w2 : World) (u : Value) (h14 : i' ≠ 14) (h15 : i' ≠ 15) hb hu => SlS.step (w' := w2) (u := u) hS (by rw [hLs]; exact h1) h14 h15 hb hu
            rcases hcs with rfl | rfl | rfl | rfl | rfl | rfl | rfl | rfl | rfl | rfl | rfl | rfl | rfl | rfl | rfl | rfl | rfl | rfl
            · refine wpOp_any (fun K hK => ?_)
              unfold wpOp
              go_simp
              refine Or.inl ?_
              exact hK _ _ ⟨_, P, G, rfl, ste _ _ (by decide) (by decide) (Below.refl _ _) rfl⟩
            · have dn0 := ready_dep hi 0 (by kernel_rfl)
              have e0 : v 0 = .pointer (some ⟨w.heap.size, 0, none⟩) := hS.d 0 dn0
              refine wpOp_any (fun K hK => ?_)
              unfold wpOp
              go_simp
              refine Or.inl ?_
              exact hK _ _ ⟨_, P, G, (by simp [upd, e0]), ste _ _ (by decide) (by decide) (Below.refl _ _) rfl⟩
            · have dn1 := ready_dep hi 1 (by kernel_rfl)
              have e1 : v 1 = .agg #[.int .i64 r, .int .i64 c, .slice ao ms.length cap] := hS.d 1 dn1
              refine wpOp_any (fun K hK => ?_)
              unfold wpOp
              go_simp
              refine Or.inl ?_
              refine (cM _ (hM.below bl)).mono (fun e w1 => ?_)
              rintro ⟨g, rfl, lg, _, bq⟩
              exact hK _ _ ⟨_, P, G, (by simp [upd, e1]), ste _ _ (by decide) (by decide) bq ⟨g, rfl, lg⟩⟩
            · refine wpOp_any (fun K hK => ?_)
              unfold wpOp
              go_simp
              refine Or.inl ?_
              exact hK _ _ ⟨_, P, G, rfl, ste _ _ (by decide) (by decide) (Below.refl _ _) rfl⟩
            · have dn3 := ready_dep hi 3 (by kernel_rfl)
              have e3 : v 3 = .pointer (some ⟨w.heap.size, 3, none⟩) := hS.d 3 dn3
              refine wpOp_any (fun K hK => ?_)
              unfold wpOp
              go_simp
              refine Or.inl ?_
              exact hK _ _ ⟨_, P, G, (by simp [upd, e3]), ste _ _ (by decide) (by decide) (Below.refl _ _) rfl⟩
            · have dn4 := ready_dep hi 4 (by kernel_rfl)
              have e4 : v 4 = .agg #[.int .i64 n, .slice lo ls.length lc, .slice dO ds.length dc] := hS.d 4 dn4
              refine wpOp_any (fun K hK => ?_)
              unfold wpOp
              go_simp
              refine Or.inl ?_
              refine (cF _ (hL0.below bl) (hD.below bl)).mono (fun e w1 => ?_)
              rintro ⟨g, h, rfl, lg, lh, _, _, bq⟩
              exact hK _ _ ⟨_, P, G, (by simp [upd, e4]), ste _ _ (by decide) (by decide) bq ⟨g, h, rfl, lg, lh⟩⟩
            · refine wpOp_any (fun K hK => ?_)
              unfold wpOp
              go_simp
              refine Or.inl ?_
              exact hK _ _ ⟨_, P, G, rfl, ste _ _ (by decide) (by decide) (Below.refl _ _) rfl⟩
            · have dn6 := ready_dep hi 6 (by kernel_rfl)
              have e6 : v 6 = .pointer (some ⟨w.heap.size, 6, none⟩) := hS.d 6 dn6
              refine wpOp_any (fun K hK => ?_)
              unfold wpOp
              go_simp
              refine Or.inl ?_
              exact hK _ _ ⟨_, P, G, (by simp [upd, e6]), ste _ _ (by decide) (by decide) (Below.refl _ _) rfl⟩
            · have dn7 := ready_dep hi 7 (by kernel_rfl)
              have e7 : v 7 = .slice xo xs.length xc := hS.d 7 dn7
              refine wpOp_any (fun K hK => ?_)
              unfold wpOp
              go_simp
              refine Or.inl ?_
              refine (cX _ (hX.below bl)).mono (fun e w1 => ?_)
              rintro ⟨rfl, lg, bq⟩
              exact hK _ _ ⟨_, P, G, (by simp [upd, e7]), ste _ _ (by decide) (by decide) bq ⟨_, rfl, lg⟩⟩
            · refine wpOp_any (fun K hK => ?_)
              unfold wpOp
              go_simp
              refine Or.inl ?_
              exact hK _ _ ⟨_, P, G, rfl, ste _ _ (by decide) (by decide) (Below.refl _ _) rfl⟩
            · have dn9 := ready_dep hi 9 (by kernel_rfl)
              have e9 : v 9 = .pointer (some ⟨w.heap.size, 7, none⟩) := hS.d 9 dn9
              refine wpOp_any (fun K hK => ?_)
              unfold wpOp
              go_simp
              refine Or.inl ?_
              exact hK _ _ ⟨_, P, G, (by simp [upd, e9]), ste _ _ (by decide) (by decide) (Below.refl _ _) rfl⟩
            · have dn10 := ready_dep hi 10 (by kernel_rfl)
              have e10 : v 10 = .slice bo bs.length bc := hS.d 10 dn10
              refine wpOp_any (fun K hK => ?_)
              unfold wpOp
              go_simp
              refine Or.inl ?_
              refine (cB _ (hB.below bl)).mono (fun e w1 => ?_)
              rintro ⟨rfl, lg, bq⟩
              exact hK _ _ ⟨_, P, G, (by simp [upd, e10]), ste _ _ (by decide) (by decide) bq ⟨_, rfl, lg⟩⟩
            · refine wpOp_any (fun K hK => ?_)
              unfold wpOp
              go_simp
              refine Or.inl ?_
              exact hK _ _ ⟨_, w'.heap.size, G, rfl, hS.stepP (by rw [hLs]; decide) hno _⟩
            · refine wpOp_any (fun K hK => ?_)
              unfold wpOp
              go_simp
              refine Or.inl ?_
              exact hK _ _ ⟨_, P, w'.heap.size, rfl, hS.stepG (by rw [hLs]; decide) hno _⟩
            · have dn12 := ready_dep hi 12 (by kernel_rfl)
              have dn2 := ready_dep hi 2 (by kernel_rfl)
              obtain ⟨g, e2, lg⟩ : ∃ g, v 2 = .agg #[.int .i64 r, .int .i64 c, lnV g ms] ∧ LentF w' g ms := hS.d 2 dn2
              obtain ⟨e12, hp, x, y, z, q0, q1, q2, y0, y1, y2, _⟩ : v 12 = .pointer (some ⟨P, 0, none⟩) ∧ w.heap.size < P ∧ ∃ x y z, B3 w' P (.int .i64 x) (.int .i64 y) z := hS.d 12 dn12
              refine wpOp_any (fun K hK => ?_)
              unfold wpOp
              go_simp
              refine Or.inl ?_
              exact hK _ _ ⟨_, P, G, (by simp [upd, e12, e2]), hS.putM (by rw [hLs]; decide) dn12 lg undef⟩
            · have dn13 := ready_dep hi 13 (by kernel_rfl)
              have dn5 := ready_dep hi 5 (by kernel_rfl)
              obtain ⟨g, h, e5, lg, lh⟩ : ∃ g h, v 5 = .agg #[.int .i64 n, lnV g ls, lnV h ds] ∧ LentF w' g ls ∧ LentF w' h ds := hS.d 5 dn5
              obtain ⟨e13, hp, x, o, m, k, z, q0, q1, q2, y0, y1, y2, _⟩ : v 13 = .pointer (some ⟨G, 0, none⟩) ∧ w.heap.size < G ∧ ∃ x o m k z, B3 w' G (.int .i64 x) (.slice o m k) z := hS.d 13 dn13
              refine wpOp_any (fun K hK => ?_)
              unfold wpOp
              go_simp
              refine Or.inl ?_
              exact hK _ _ ⟨_, P, G, (by simp [upd, e13, e5]), hS.putF (by rw [hLs]; decide) dn13 lg lh undef⟩
            · have dn8 := ready_dep hi 8 (by kernel_rfl)
              obtain ⟨g, e8, lg⟩ : ∃ g, v 8 = lnV g xs ∧ LentF w' g xs := hS.d 8 dn8
              refine wpOp_any (fun K hK => ?_)
              unfold wpOp
              go_simp
              refine Or.inl ?_
              exact hK _ _ ⟨_, P, G, (by simp [upd, e8]), ste _ _ (by decide) (by decide) (Below.refl _ _) ⟨g, rfl, lg⟩⟩
            · have dn11 := ready_dep hi 11 (by kernel_rfl)
              obtain ⟨g, e11, lg⟩ : ∃ g, v 11 = lnV g bs ∧ LentF w' g bs := hS.d 11 dn11
              refine wpOp_any (fun K hK => ?_)
              unfold wpOp
              go_simp
              refine Or.inl ?_
              exact hK _ _ ⟨_, P, G, (by simp [upd, e11]), ste _ _ (by decide) (by decide) (Below.refl _ _) ⟨g, rfl, lg⟩⟩
          · rintro L a w' hL ⟨v, P, G, rfl, hS⟩ hr
            have on := all_done hL hr (by kernel_rfl)
            obtain ⟨e12, _⟩ : v 12 = .pointer (some ⟨P, 0, none⟩) ∧ w.heap.size < P ∧ ∃ x y z, B3 w' P (.int .i64 x) (.int .i64 y) z := hS.d 12 (on 12 (by decide))
            obtain ⟨e13, _⟩ : v 13 = .pointer (some ⟨G, 0, none⟩) ∧ w.heap.size < G ∧ ∃ x o m k z, B3 w' G (.int .i64 x) (.slice o m k) z := hS.d 13 (on 13 (by decide))
            obtain ⟨g1, k1, l1⟩ : ∃ g, B3 w' P (.int .i64 r) (.int .i64 c) (lnV g ms) ∧ LentF w' g ms := hS.d 14 (on 14 (by decide))
            obtain ⟨g2, g3, k2, l2, l3⟩ : ∃ g h, B3 w' G (.int .i64 n) (lnV g ls) (lnV h ds) ∧ LentF w' g ls ∧ LentF w' h ds := hS.d 15 (on 15 (by decide))
            obtain ⟨g4, e16, l4⟩ : ∃ g, v 16 = lnV g xs ∧ LentF w' g xs := hS.d 16 (on 16 (by decide))
            obtain ⟨g5, e17, l5⟩ : ∃ g, v 17 = lnV g bs ∧ LentF w' g bs := hS.d 17 (on 17 (by decide))
            have bl := hS.bel
            have cb := hS.cb
            rw [e12, e13, e16, e17]
            clear hS on hr
            generalize v 0 = x0
            generalize v 1 = x1
            generalize v 2 = x2
            generalize v 3 = x3
            generalize v 4 = x4
            generalize v 5 = x5
            generalize v 6 = x6
            generalize v 7 = x7
            generalize v 8 = x8
            generalize v 9 = x9
            generalize v 10 = x10
            generalize v 11 = x11
            dsimp only
            go_wp2
            go_meet
            case rel => exact ⟨P, G, g1, g2, g3, g4, g5, rfl, rfl, rfl, rfl, cb, k1, k2, l1, l2, l3, l4, l5, bl⟩
        case rest =>
          obtain ⟨P, G, g1, g2, g3, g4, g5, rfl, rfl, rfl, rfl, cb, k1, k2, l1, l2, l3, l4, l5, bl⟩ := hcut
          have hT1 := tabW_below hT bl
          obtain ⟨m0, m1, m2, m3, m4, m5, m6, m7⟩ := id cb
          obtain ⟨p0, p1, p2, _⟩ := id k1
          obtain ⟨q0, q1, q2, _⟩ := id k2
          have pS' := pS g1 g2 g3 g4 g5 _ hT1 l1.row l2.row l3.row l4.row l5.row
          clear pS cM cF cX cB
          go_upto_region 7 with (go_at_call 16; refine pS'.mono ?_; rintro e w7 ⟨o1, c1, rfl, r1, f1, _, _, b7⟩)
          have z7 := bl.trans (b7.mono bl.size)
          have C7 := cb.below b7
          have K1 := k1.below b7
          have K2 := k2.below b7
          have A1 := l1.below b7
          have A2 := l2.below b7
          have A3 := l3.below b7
          have A4 := l4.below b7
          have A5 := l5.below b7
          clear cb k1 k2 l1 l2 l3 l4 l5 b7 bl pS' hT1 m0 m1 m2 m3 m4 m5 m6 m7 p0 p1 p2 q0 q1 q2
          obtain ⟨m0, m1, m2, m3, m4, m5, m6, m7⟩ := id C7
          have dS' := dS w7 (hM.below z7) (hL0.below z7) (hD.below z7) (hX.below z7) (hB.below z7)
          clear dS
          go_upto_region 8 with (go_at_call 17; refine dS'.mono ?_; rintro e w8 ⟨o2, c2, rfl, r2, f2, _, _, b8⟩)
          have z8 := z7.trans (b8.mono z7.size)
          have C8' := C7.below b8
          have N1 := K1.below b8
          have N2 := K2.below b8
          have E1 := A1.below b8
          have E2 := A2.below b8
          have E3 := A3.below b8
          have E4 := A4.below b8
          have E5 := A5.below b8
          have R1 := r1.below b8
          clear C7 K1 K2 A1 A2 A3 A4 A5 b8 z7 dS' r1 m0 m1 m2 m3 m4 m5 m6 m7
          obtain ⟨m0, m1, m2, m3, m4, m5, m6, m7⟩ := id C8'
          obtain ⟨p0, p1, p2, _⟩ := id N1
          obtain ⟨q0, q1, q2, _⟩ := id N2
          go_wp2_with (first
            | (go_at_call 13; refine (kM _ _ (hM.below z8) E1).mono ?_; rintro e w9 ⟨rfl, b9⟩; have z9 := z8.trans (b9.mono z8.size); obtain ⟨m0, m1, m2, m3, m4, m5, m6, m7⟩ := C8'.below b9; obtain ⟨q0, q1, q2, _⟩ := N2.below b9; have E2' := E2.below b9; have E3' := E3.below b9; have E4' := E4.below b9; have E5' := E5.below b9; have R2 := R1.below b9; have R3 := r2.below b9; have C9 := C8'.below b9)
            | (go_at_call 18; refine (kF _ _ _ (hL0.below z9) (hD.below z9) E2' E3').mono ?_; rintro e wa ⟨rfl, ba⟩; have za := z9.trans (ba.mono z9.size); have Ca := C9.below ba; obtain ⟨m0, m1, m2, m3, m4, m5, m6, m7⟩ := id Ca; have E4a := E4'.below ba; have E5a := E5'.below ba; have R4 := R2.below ba; have R5 := R3.below ba)
            | (go_at_call_of 14 (Value.slice xo xs.length xc); refine (kX _ _ (hX.below za) E4a).mono ?_; rintro e wb ⟨rfl, bb⟩; have zb := za.trans (bb.mono za.size); have Cb := Ca.below bb; obtain ⟨m0, m1, m2, m3, m4, m5, m6, m7⟩ := id Cb; have E5b := E5a.below bb; have R6 := R4.below bb; have R7 := R5.below bb)
            | (go_at_call_of 14 (Value.slice bo bs.length bc); refine (kB _ _ (hB.below zb) E5b).mono ?_; rintro e wc ⟨rfl, bc'⟩; have zc := zb.trans (bc'.mono zb.size); have R8 := R6.below bc'; have R9 := R7.below bc')
            | (go_at_call 12; refine (sR _ _ _ _ _ R8 R9 f1).mono ?_; rintro e wd ⟨rfl, bd⟩; have zd := zc.trans (bd.mono zc.size)))
          go_ret
          exact ⟨rfl, zd⟩
end Go.Proofs.YtmbcmhncicbbjaaGreatDoor
