/- MatrixTimes: its walk. -/
import Derived.Test.YthbnffnoldmcnaaMx13
import Derived.Test.YthbnffnoldmcnaaMx16
import Derived.Test.YthbnffnoldmcnaaMx17
namespace Go.Proofs.Ythbnffnoldmcnaa
open Go.RowKit

/-- What is done of lending two matrices and a list, whatever the order. -/
structure LendS (w : World) (r c : Int) (xs : List Nat) (ao : Option Addr) (n cap : Nat) (r2 c2 : Int) (ys : List Nat) (bo : Option Addr) (m cap2 : Nat) (l : List Nat) (lo : Option Addr) (lc : Nat) (L : Array Bool) (w' : World) (v7 v8 v9 v18 v19 v20 v21 v22 v23 : Value) (P7 P8 g1 g2 g3 : Nat) : Prop where
  ma : B3 w' w.heap.size (.int .i64 r) (.int .i64 c) (.slice ao n cap)
  mb : B3 w' (w.heap.size + 1) (.int .i64 r2) (.int .i64 c2) (.slice bo m cap2)
  bel : Below w.heap.size w w'
  d0 : On L 0 → v18 = mxV r c ao n cap
  d1 : On L 1 → v19 = mxV r c (some ⟨g1, 0, none⟩) n (n + 12) ∧ LentF w' g1 xs ∧ w.heap.size + 1 < g1
  d2 : On L 2 → v20 = mxV r2 c2 bo m cap2
  d3 : On L 3 → v21 = mxV r2 c2 (some ⟨g2, 0, none⟩) m (m + 12) ∧ LentF w' g2 ys ∧ w.heap.size + 1 < g2
  d4 : On L 4 → v22 = .slice lo l.length lc
  d5 : On L 5 → v23 = .slice (some ⟨g3, 0, none⟩) l.length (l.length + 12) ∧ LentF w' g3 l ∧ w.heap.size + 1 < g3
  d6 : On L 6 → v7 = .pointer (some ⟨P7, 0, none⟩) ∧ (∃ x y z, B3 w' P7 x y z) ∧ w.heap.size + 1 < P7 ∧ (On L 1 → P7 ≠ g1) ∧ (On L 3 → P7 ≠ g2) ∧ (On L 5 → P7 ≠ g3)
  d7 : On L 7 → v8 = .pointer (some ⟨P8, 0, none⟩) ∧ (∃ x y z, B3 w' P8 x y z) ∧ w.heap.size + 1 < P8 ∧ (On L 1 → P8 ≠ g1) ∧ (On L 3 → P8 ≠ g2) ∧ (On L 5 → P8 ≠ g3) ∧ (On L 6 → P7 ≠ P8)
  d8 : On L 8 → B3 w' P7 (.int .i64 r) (.int .i64 c) (.slice (some ⟨g1, 0, none⟩) n (n + 12))
  d9 : On L 9 → B3 w' P8 (.int .i64 r2) (.int .i64 c2) (.slice (some ⟨g2, 0, none⟩) m (m + 12))
  d10 : On L 10 → v9 = .slice (some ⟨g3, 0, none⟩) l.length (l.length + 12)
  k3 : On L 3 → On L 1
  k5 : On L 5 → On L 3
  k8 : On L 8 → On L 1 ∧ On L 3 ∧ On L 5 ∧ On L 6 ∧ On L 7
  k9 : On L 9 → On L 8
  k10 : On L 10 → On L 9
theorem on_none {n i : Nat} : ¬ On (Array.replicate n false) i := by
  unfold On
  simp only [Array.getD_eq_getD_getElem?, Array.getElem?_replicate]
  split <;> simp
theorem not_on {L : Array Bool} {i : Nat} (hi : i < L.size) (h : L.getD i true = false) : ¬ On L i := by
  unfold On
  intro h2
  simp [Array.getD, hi] at h h2
  rw [h] at h2
  cases h2
theorem three_put {w : World} {b : Nat} {x y z : Value} (h : B3 w b x y z) (u v t : Value) : B3 (((w.setCell ⟨b, 0, none⟩ u).setCell ⟨b, 1, none⟩ v).setCell ⟨b, 2, none⟩ t) b u v t := by
  obtain ⟨h0, h1, h2, g0, g1, g2, h5⟩ := h
  have e0 : (w.setCell ⟨b, 0, none⟩ u).cell? ⟨b, 0, none⟩ = some u := World.cell?_setCell_same w _ u h0
  have e1 : (w.setCell ⟨b, 0, none⟩ u).cell? ⟨b, 1, none⟩ = some y := (World.cell?_setCell_other w _ _ u (by simp)).trans h1
  have e2 : (w.setCell ⟨b, 0, none⟩ u).cell? ⟨b, 2, none⟩ = some z := (World.cell?_setCell_other w _ _ u (by simp)).trans h2
  have f0 : ((w.setCell ⟨b, 0, none⟩ u).setCell ⟨b, 1, none⟩ v).cell? ⟨b, 0, none⟩ = some u := (World.cell?_setCell_other _ _ _ v (by simp)).trans e0
  have f1 : ((w.setCell ⟨b, 0, none⟩ u).setCell ⟨b, 1, none⟩ v).cell? ⟨b, 1, none⟩ = some v := World.cell?_setCell_same _ _ v e1
  have f2 : ((w.setCell ⟨b, 0, none⟩ u).setCell ⟨b, 1, none⟩ v).cell? ⟨b, 2, none⟩ = some z := (World.cell?_setCell_other _ _ _ v (by simp)).trans e2
  refine ⟨(World.cell?_setCell_other _ _ _ t (by simp)).trans f0, (World.cell?_setCell_other _ _ _ t (by simp)).trans f1, World.cell?_setCell_same _ _ t f2, ?_, ?_, ?_, ?_⟩
  · simp [go_sem, g0]
  · simp [go_sem, g1]
  · simp [go_sem, g2]
  · simp [go_sem]; exact h5
theorem B3.far3 {w : World} {b c : Nat} {x y z : Value} (h : B3 w b x y z) (hc : c ≠ b) (u v t : Value) : B3 (((w.setCell ⟨c, 0, none⟩ u).setCell ⟨c, 1, none⟩ v).setCell ⟨c, 2, none⟩ t) b x y z := ((h.far hc u).far hc v).far hc t
theorem LentF.far3 {w : World} {g c : Nat} {xs : List Nat} (h : LentF w g xs) (hc : c ≠ g) (u v t : Value) : LentF (((w.setCell ⟨c, 0, none⟩ u).setCell ⟨c, 1, none⟩ v).setCell ⟨c, 2, none⟩ t) g xs := ((h.far hc 0 u).far hc 1 v).far hc 2 t
theorem mlA_len (r c : Int) (xs : List Nat) (r2 c2 : Int) (ys : List Nat) : (mlA r c xs r2 c2 ys).os.length ≤ 2304 := by
  unfold mlA
  split
  · rename_i h
    simp only [Bool.and_eq_true] at h
    obtain ⟨R, C, rfl, rfl, hR, _, _⟩ := rightM_nat h.1.1
    obtain ⟨C2, D, e, rfl, _, hD, _⟩ := rightM_nat h.1.2
    simp only [tabM_len, Int.toNat_natCast]
    exact mul48 hR hD
  · exact Nat.zero_le _
theorem msreals_any {os : List (Option Nat)} {rs ss : List Nat} (hr : LN os rs) (hs : LN os ss) {ao bo : Option Addr} (cap cap2 : Nat) {w : World} (g1 : GRow w ao rs) (g2 : GRow w bo ss) (hl : os.length ≤ 2304) :
    Calls Try.prog 39 #[.slice ao rs.length cap, .slice bo ss.length cap2] w fun e w' => e = .returned (.bool true) ∧ Below w.heap.size w w' := by
  have h := sreals_any rs ss ao bo cap cap2 w g1 g2 hr.fw hs.fw (by rw [hr.1]; omega) (by rw [hs.1]; omega)
  rw [hr.same hs] at h
  exact h
theorem wpOp_free {P : Program} {ops : Array Oper} {Q : Exit → Act → World → Prop} {i : Nat} {a : Act} {w : World} {K' : Act → World → Prop} (h : ∀ K : Act → World → Prop, (∀ a w, K' a w → K a w) → wpOp P ops Q i K a w) : wpOp P ops Q i K' a w := h K' (fun _ _ h => h)
set_option maxRecDepth 100000 in
set_option maxHeartbeats 4000000 in
theorem times_law (r c : Int) (xs : List Nat) (ao : Option Addr) (n cap : Nat) (r2 c2 : Int) (ys : List Nat) (bo : Option Addr) (m cap2 : Nat) (l : List Nat) (lo : Option Addr) (lc : Nat) (w : World) (hn : Hid (xs.length = n)) (hm : Hid (ys.length = m)) (hr : GRow w ao xs) (hs : GRow w bo ys) (ht : GRow w lo l) (hF : FW xs) (hG : FW ys) (hH : FW l) (za : ao = none → cap = 0 ∧ xs.length = 0) (zb : bo = none → cap2 = 0 ∧ ys.length = 0) (zl : lo = none → lc = 0 ∧ l.length = 0) (hxn : n ≤ 17592186044416) (hym : m ≤ 17592186044416) (hln : l.length ≤ 17592186044416) :
    Calls Try.prog 5 #[mxV r c ao n cap, mxV r2 c2 bo m cap2, .slice lo l.length lc] w fun e w' => e = .returned (.bool true) ∧ Below w.heap.size w w' := by
  have cA := fun W h => lentM_any r c xs ao cap W h za (by rw [hn.out]; exact hxn)
  have cB := fun W h => lentM_any r2 c2 ys bo cap2 W h zb (by rw [hm.out]; exact hym)
  have cL := fun W h => lentR_any l lo lc W h zl hln
  rw [hn.out] at cA
  rw [hm.out] at cB
  go_enter Try.func5, Try.ntmps5
  go_upto_region 1 with fail
  go_cut [18, 19, 20, 21, 22, 23, 7, 8, 9] (fun v18 v19 v20 v21 v22 v23 v7 v8 v9 wx => ∃ P7 P8 g1 g2 g3, v7 = .pointer (some ⟨P7, 0, none⟩) ∧ v8 = .pointer (some ⟨P8, 0, none⟩) ∧ v9 = .slice (some ⟨g3, 0, none⟩) l.length (l.length + 12) ∧ B3 wx w.heap.size (.int .i64 r) (.int .i64 c) (.slice ao n cap) ∧ B3 wx (w.heap.size + 1) (.int .i64 r2) (.int .i64 c2) (.slice bo m cap2) ∧ B3 wx P7 (.int .i64 r) (.int .i64 c) (.slice (some ⟨g1, 0, none⟩) n (n + 12)) ∧ B3 wx P8 (.int .i64 r2) (.int .i64 c2) (.slice (some ⟨g2, 0, none⟩) m (m + 12)) ∧ LentF wx g1 xs ∧ LentF wx g2 ys ∧ LentF wx g3 l ∧ Below w.heap.size w wx)
  case first =>
    refine region_inv (by kernel_rfl) (fun L a w' => ∃ v7 v8 v9 v18 v19 v20 v21 v22 v23 P7 P8 g1 g2 g3, a = ⟨#[mxV r c ao n cap, mxV r2 c2 bo m cap2, .slice lo l.length lc, .pointer (some ⟨w.heap.size, 0, none⟩), .pointer (some ⟨w.heap.size + 1, 0, none⟩), undef, .bool false, v7, v8, v9, undef, undef, undef, undef, undef, undef, undef, undef, v18, v19, v20, v21, v22, v23, undef, undef, undef, undef, undef, undef, undef, undef, undef, undef, undef, undef, undef, undef, undef, undef, undef, undef, undef, undef, undef, undef, undef, undef, undef, undef, undef, undef, undef, undef, undef, undef, undef, undef, undef, undef, undef, undef, undef, undef, undef, undef, undef, undef, undef, undef, undef, undef, undef, undef, undef, undef, undef, undef, undef, undef, undef], []⟩ ∧ LendS w r c xs ao n cap r2 c2 ys bo m cap2 l lo lc L w' v7 v8 v9 v18 v19 v20 v21 v22 v23 P7 P8 g1 g2 g3) ?_ ?_ ?_
    · refine ⟨undef, undef, undef, undef, undef, undef, undef, undef, undef, 0, 0, 0, 0, 0, rfl, ?_⟩
      have nn : ∀ i, ¬ On (Array.replicate 11 false) i := fun i => on_none
      exact ⟨((B3.new _ _ _ _ _).alloc _).drew, (B3.newAt (by go_simp) _ _ _ _).drew, (old_two (Below.refl _ _)).drew, fun h => absurd h (nn _), fun h => absurd h (nn _), fun h => absurd h (nn _), fun h => absurd h (nn _), fun h => absurd h (nn _), fun h => absurd h (nn _), fun h => absurd h (nn _), fun h => absurd h (nn _), fun h => absurd h (nn _), fun h => absurd h (nn _), fun h => absurd h (nn _), fun h => absurd h (nn _), fun h => absurd h (nn _), fun h => absurd h (nn _), fun h => absurd h (nn _), fun h => absurd h (nn _)⟩
    · rintro L a w' i hL ⟨v7, v8, v9, v18, v19, v20, v21, v22, v23, P7, P8, g1, g2, g3, rfl, hS⟩ hi
      obtain ⟨h1, h2, h3⟩ := mem_ready hi
      have h1 : i < 11 := h1
      have hL : L.size = 11 := hL
      have hno := not_on (by rw [hL]; exact h1) h2
      have ho := on_set (L := L) (i := i) (by rw [hL]; exact h1)
      have hcs : i = 0 ∨ i = 1 ∨ i = 2 ∨ i = 3 ∨ i = 4 ∨ i = 5 ∨ i = 6 ∨ i = 7 ∨ i = 8 ∨ i = 9 ∨ i = 10 := by omega
      have o : ∀ k, k ≠ i → On (L.setIfInBounds i true) k → On L k := fun k hk h => ((ho k).1 h).resolve_left hk
      have hsz : w.heap.size + 1 < w'.heap.size := hS.mb.2.2.2.2.2.2
      have bx6 : On L 6 → P7 < w'.heap.size := fun h => (hS.d6 h).2.1.elim fun x hx => hx.elim fun y hy => hy.elim fun z hz => hz.2.2.2.2.2.2
      have bx7 : On L 7 → P8 < w'.heap.size := fun h => (hS.d7 h).2.1.elim fun x hx => hx.elim fun y hy => hy.elim fun z hz => hz.2.2.2.2.2.2
      rcases hcs with rfl | rfl | rfl | rfl | rfl | rfl | rfl | rfl | rfl | rfl | rfl
      · obtain ⟨a0, a1, a2, _⟩ := id hS.ma
        refine wpOp_free (fun K hK => ?_)
        unfold wpOp
        go_simp
        refine Or.inl ?_
        refine hK _ _ ⟨_, _, _, _, _, _, _, _, _, P7, P8, g1, g2, g3, rfl, ?_⟩
        exact ⟨hS.ma, hS.mb, hS.bel, fun _ => rfl, fun h => ⟨(hS.d1 (o 1 (by decide) h)).1, (hS.d1 (o 1 (by decide) h)).2.1, (hS.d1 (o 1 (by decide) h)).2.2⟩, fun h => hS.d2 (o 2 (by decide) h), fun h => ⟨(hS.d3 (o 3 (by decide) h)).1, (hS.d3 (o 3 (by decide) h)).2.1, (hS.d3 (o 3 (by decide) h)).2.2⟩, fun h => hS.d4 (o 4 (by decide) h), fun h => ⟨(hS.d5 (o 5 (by decide) h)).1, (hS.d5 (o 5 (by decide) h)).2.1, (hS.d5 (o 5 (by decide) h)).2.2⟩, fun h => ⟨(hS.d6 (o 6 (by decide) h)).1, ((hS.d6 (o 6 (by decide) h)).2.1.elim fun x hx => hx.elim fun y hy => hy.elim fun z hz => ⟨x, y, z, hz⟩), (hS.d6 (o 6 (by decide) h)).2.2.1, fun h' => (hS.d6 (o 6 (by decide) h)).2.2.2.1 (o 1 (by decide) h'), fun h' => (hS.d6 (o 6 (by decide) h)).2.2.2.2.1 (o 3 (by decide) h'), fun h' => (hS.d6 (o 6 (by decide) h)).2.2.2.2.2 (o 5 (by decide) h')⟩, fun h => ⟨(hS.d7 (o 7 (by decide) h)).1, ((hS.d7 (o 7 (by decide) h)).2.1.elim fun x hx => hx.elim fun y hy => hy.elim fun z hz => ⟨x, y, z, hz⟩), (hS.d7 (o 7 (by decide) h)).2.2.1, fun h' => (hS.d7 (o 7 (by decide) h)).2.2.2.1 (o 1 (by decide) h'), fun h' => (hS.d7 (o 7 (by decide) h)).2.2.2.2.1 (o 3 (by decide) h'), fun h' => (hS.d7 (o 7 (by decide) h)).2.2.2.2.2.1 (o 5 (by decide) h'), fun h' => (hS.d7 (o 7 (by decide) h)).2.2.2.2.2.2 (o 6 (by decide) h')⟩, fun h => hS.d8 (o 8 (by decide) h), fun h => hS.d9 (o 9 (by decide) h), fun h => hS.d10 (o 10 (by decide) h), fun h => (ho 1).2 (Or.inr (hS.k3 (o 3 (by decide) h))), fun h => (ho 3).2 (Or.inr (hS.k5 (o 5 (by decide) h))), fun h => ⟨(ho 1).2 (Or.inr (hS.k8 (o 8 (by decide) h)).1), (ho 3).2 (Or.inr (hS.k8 (o 8 (by decide) h)).2.1), (ho 5).2 (Or.inr (hS.k8 (o 8 (by decide) h)).2.2.1), (ho 6).2 (Or.inr (hS.k8 (o 8 (by decide) h)).2.2.2.1), (ho 7).2 (Or.inr (hS.k8 (o 8 (by decide) h)).2.2.2.2)⟩, fun h => (ho 8).2 (Or.inr (hS.k9 (o 9 (by decide) h))), fun h => (ho 9).2 (Or.inr (hS.k10 (o 10 (by decide) h)))⟩
      · obtain rfl := hS.d0 (ready_dep hi 0 (by kernel_rfl))
        refine wpOp_free (fun K hK => ?_)
        unfold wpOp
        go_simp
        refine Or.inl ?_
        refine (cA _ (hr.below hS.bel)).mono (fun e wq => ?_)
        rintro ⟨gn, rfl, lg, gg, bq⟩
        have bs := bq.size
        refine hK _ _ ⟨_, _, _, _, _, _, _, _, _, P7, P8, gn, g2, g3, rfl, ?_⟩
        exact ⟨(hS.ma).below bq, (hS.mb).below bq, hS.bel.trans (bq.mono hS.bel.size), fun h => hS.d0 (o 0 (by decide) h), fun _ => ⟨rfl, lg, by omega⟩, fun h => hS.d2 (o 2 (by decide) h), fun h => absurd (hS.k3 (o 3 (by decide) h)) hno, fun h => hS.d4 (o 4 (by decide) h), fun h => absurd (hS.k3 (hS.k5 (o 5 (by decide) h))) hno, fun h => ⟨(hS.d6 (o 6 (by decide) h)).1, ((hS.d6 (o 6 (by decide) h)).2.1.elim fun x hx => hx.elim fun y hy => hy.elim fun z hz => ⟨x, y, z, (hz).below bq⟩), (hS.d6 (o 6 (by decide) h)).2.2.1, fun _ => (by have := bx6 (o 6 (by decide) h); omega), fun h' => (hS.d6 (o 6 (by decide) h)).2.2.2.2.1 (o 3 (by decide) h'), fun h' => (hS.d6 (o 6 (by decide) h)).2.2.2.2.2 (o 5 (by decide) h')⟩, fun h => ⟨(hS.d7 (o 7 (by decide) h)).1, ((hS.d7 (o 7 (by decide) h)).2.1.elim fun x hx => hx.elim fun y hy => hy.elim fun z hz => ⟨x, y, z, (hz).below bq⟩), (hS.d7 (o 7 (by decide) h)).2.2.1, fun _ => (by have := bx7 (o 7 (by decide) h); omega), fun h' => (hS.d7 (o 7 (by decide) h)).2.2.2.2.1 (o 3 (by decide) h'), fun h' => (hS.d7 (o 7 (by decide) h)).2.2.2.2.2.1 (o 5 (by decide) h'), fun h' => (hS.d7 (o 7 (by decide) h)).2.2.2.2.2.2 (o 6 (by decide) h')⟩, fun h => absurd ((hS.k8 (o 8 (by decide) h)).1) hno, fun h => absurd ((hS.k8 (hS.k9 (o 9 (by decide) h))).1) hno, fun h => hS.d10 (o 10 (by decide) h), fun h => absurd (hS.k3 (o 3 (by decide) h)) hno, fun h => absurd (hS.k3 (hS.k5 (o 5 (by decide) h))) hno, fun h => absurd ((hS.k8 (o 8 (by decide) h)).1) hno, fun h => (ho 8).2 (Or.inr (hS.k9 (o 9 (by decide) h))), fun h => (ho 9).2 (Or.inr (hS.k10 (o 10 (by decide) h)))⟩
      · obtain ⟨a0, a1, a2, _⟩ := id hS.mb
        refine wpOp_free (fun K hK => ?_)
        unfold wpOp
        go_simp
        refine Or.inl ?_
        refine hK _ _ ⟨_, _, _, _, _, _, _, _, _, P7, P8, g1, g2, g3, rfl, ?_⟩
        exact ⟨hS.ma, hS.mb, hS.bel, fun h => hS.d0 (o 0 (by decide) h), fun h => ⟨(hS.d1 (o 1 (by decide) h)).1, (hS.d1 (o 1 (by decide) h)).2.1, (hS.d1 (o 1 (by decide) h)).2.2⟩, fun _ => rfl, fun h => ⟨(hS.d3 (o 3 (by decide) h)).1, (hS.d3 (o 3 (by decide) h)).2.1, (hS.d3 (o 3 (by decide) h)).2.2⟩, fun h => hS.d4 (o 4 (by decide) h), fun h => ⟨(hS.d5 (o 5 (by decide) h)).1, (hS.d5 (o 5 (by decide) h)).2.1, (hS.d5 (o 5 (by decide) h)).2.2⟩, fun h => ⟨(hS.d6 (o 6 (by decide) h)).1, ((hS.d6 (o 6 (by decide) h)).2.1.elim fun x hx => hx.elim fun y hy => hy.elim fun z hz => ⟨x, y, z, hz⟩), (hS.d6 (o 6 (by decide) h)).2.2.1, fun h' => (hS.d6 (o 6 (by decide) h)).2.2.2.1 (o 1 (by decide) h'), fun h' => (hS.d6 (o 6 (by decide) h)).2.2.2.2.1 (o 3 (by decide) h'), fun h' => (hS.d6 (o 6 (by decide) h)).2.2.2.2.2 (o 5 (by decide) h')⟩, fun h => ⟨(hS.d7 (o 7 (by decide) h)).1, ((hS.d7 (o 7 (by decide) h)).2.1.elim fun x hx => hx.elim fun y hy => hy.elim fun z hz => ⟨x, y, z, hz⟩), (hS.d7 (o 7 (by decide) h)).2.2.1, fun h' => (hS.d7 (o 7 (by decide) h)).2.2.2.1 (o 1 (by decide) h'), fun h' => (hS.d7 (o 7 (by decide) h)).2.2.2.2.1 (o 3 (by decide) h'), fun h' => (hS.d7 (o 7 (by decide) h)).2.2.2.2.2.1 (o 5 (by decide) h'), fun h' => (hS.d7 (o 7 (by decide) h)).2.2.2.2.2.2 (o 6 (by decide) h')⟩, fun h => hS.d8 (o 8 (by decide) h), fun h => hS.d9 (o 9 (by decide) h), fun h => hS.d10 (o 10 (by decide) h), fun h => (ho 1).2 (Or.inr (hS.k3 (o 3 (by decide) h))), fun h => (ho 3).2 (Or.inr (hS.k5 (o 5 (by decide) h))), fun h => ⟨(ho 1).2 (Or.inr (hS.k8 (o 8 (by decide) h)).1), (ho 3).2 (Or.inr (hS.k8 (o 8 (by decide) h)).2.1), (ho 5).2 (Or.inr (hS.k8 (o 8 (by decide) h)).2.2.1), (ho 6).2 (Or.inr (hS.k8 (o 8 (by decide) h)).2.2.2.1), (ho 7).2 (Or.inr (hS.k8 (o 8 (by decide) h)).2.2.2.2)⟩, fun h => (ho 8).2 (Or.inr (hS.k9 (o 9 (by decide) h))), fun h => (ho 9).2 (Or.inr (hS.k10 (o 10 (by decide) h)))⟩
      · obtain rfl := hS.d2 (ready_dep hi 2 (by kernel_rfl))
        have q1 := ready_dep hi 1 (by kernel_rfl)
        refine wpOp_free (fun K hK => ?_)
        unfold wpOp
        go_simp
        refine Or.inl ?_
        refine (cB _ (hs.below hS.bel)).mono (fun e wq => ?_)
        rintro ⟨gn, rfl, lg, gg, bq⟩
        have bs := bq.size
        refine hK _ _ ⟨_, _, _, _, _, _, _, _, _, P7, P8, g1, gn, g3, rfl, ?_⟩
        exact ⟨(hS.ma).below bq, (hS.mb).below bq, hS.bel.trans (bq.mono hS.bel.size), fun h => hS.d0 (o 0 (by decide) h), fun h => ⟨(hS.d1 (o 1 (by decide) h)).1, ((hS.d1 (o 1 (by decide) h)).2.1).below bq, (hS.d1 (o 1 (by decide) h)).2.2⟩, fun h => hS.d2 (o 2 (by decide) h), fun _ => ⟨rfl, lg, by omega⟩, fun h => hS.d4 (o 4 (by decide) h), fun h => absurd (hS.k5 (o 5 (by decide) h)) hno, fun h => ⟨(hS.d6 (o 6 (by decide) h)).1, ((hS.d6 (o 6 (by decide) h)).2.1.elim fun x hx => hx.elim fun y hy => hy.elim fun z hz => ⟨x, y, z, (hz).below bq⟩), (hS.d6 (o 6 (by decide) h)).2.2.1, fun h' => (hS.d6 (o 6 (by decide) h)).2.2.2.1 (o 1 (by decide) h'), fun _ => (by have := bx6 (o 6 (by decide) h); omega), fun h' => (hS.d6 (o 6 (by decide) h)).2.2.2.2.2 (o 5 (by decide) h')⟩, fun h => ⟨(hS.d7 (o 7 (by decide) h)).1, ((hS.d7 (o 7 (by decide) h)).2.1.elim fun x hx => hx.elim fun y hy => hy.elim fun z hz => ⟨x, y, z, (hz).below bq⟩), (hS.d7 (o 7 (by decide) h)).2.2.1, fun h' => (hS.d7 (o 7 (by decide) h)).2.2.2.1 (o 1 (by decide) h'), fun _ => (by have := bx7 (o 7 (by decide) h); omega), fun h' => (hS.d7 (o 7 (by decide) h)).2.2.2.2.2.1 (o 5 (by decide) h'), fun h' => (hS.d7 (o 7 (by decide) h)).2.2.2.2.2.2 (o 6 (by decide) h')⟩, fun h => absurd ((hS.k8 (o 8 (by decide) h)).2.1) hno, fun h => absurd ((hS.k8 (hS.k9 (o 9 (by decide) h))).2.1) hno, fun h => hS.d10 (o 10 (by decide) h), fun _ => (ho 1).2 (Or.inr q1), fun h => absurd (hS.k5 (o 5 (by decide) h)) hno, fun h => absurd ((hS.k8 (o 8 (by decide) h)).2.1) hno, fun h => (ho 8).2 (Or.inr (hS.k9 (o 9 (by decide) h))), fun h => (ho 9).2 (Or.inr (hS.k10 (o 10 (by decide) h)))⟩
      · refine wpOp_free (fun K hK => ?_)
        unfold wpOp
        go_simp
        refine Or.inl ?_
        refine hK _ _ ⟨_, _, _, _, _, _, _, _, _, P7, P8, g1, g2, g3, rfl, ?_⟩
        exact ⟨hS.ma, hS.mb, hS.bel, fun h => hS.d0 (o 0 (by decide) h), fun h => ⟨(hS.d1 (o 1 (by decide) h)).1, (hS.d1 (o 1 (by decide) h)).2.1, (hS.d1 (o 1 (by decide) h)).2.2⟩, fun h => hS.d2 (o 2 (by decide) h), fun h => ⟨(hS.d3 (o 3 (by decide) h)).1, (hS.d3 (o 3 (by decide) h)).2.1, (hS.d3 (o 3 (by decide) h)).2.2⟩, fun _ => rfl, fun h => ⟨(hS.d5 (o 5 (by decide) h)).1, (hS.d5 (o 5 (by decide) h)).2.1, (hS.d5 (o 5 (by decide) h)).2.2⟩, fun h => ⟨(hS.d6 (o 6 (by decide) h)).1, ((hS.d6 (o 6 (by decide) h)).2.1.elim fun x hx => hx.elim fun y hy => hy.elim fun z hz => ⟨x, y, z, hz⟩), (hS.d6 (o 6 (by decide) h)).2.2.1, fun h' => (hS.d6 (o 6 (by decide) h)).2.2.2.1 (o 1 (by decide) h'), fun h' => (hS.d6 (o 6 (by decide) h)).2.2.2.2.1 (o 3 (by decide) h'), fun h' => (hS.d6 (o 6 (by decide) h)).2.2.2.2.2 (o 5 (by decide) h')⟩, fun h => ⟨(hS.d7 (o 7 (by decide) h)).1, ((hS.d7 (o 7 (by decide) h)).2.1.elim fun x hx => hx.elim fun y hy => hy.elim fun z hz => ⟨x, y, z, hz⟩), (hS.d7 (o 7 (by decide) h)).2.2.1, fun h' => (hS.d7 (o 7 (by decide) h)).2.2.2.1 (o 1 (by decide) h'), fun h' => (hS.d7 (o 7 (by decide) h)).2.2.2.2.1 (o 3 (by decide) h'), fun h' => (hS.d7 (o 7 (by decide) h)).2.2.2.2.2.1 (o 5 (by decide) h'), fun h' => (hS.d7 (o 7 (by decide) h)).2.2.2.2.2.2 (o 6 (by decide) h')⟩, fun h => hS.d8 (o 8 (by decide) h), fun h => hS.d9 (o 9 (by decide) h), fun h => hS.d10 (o 10 (by decide) h), fun h => (ho 1).2 (Or.inr (hS.k3 (o 3 (by decide) h))), fun h => (ho 3).2 (Or.inr (hS.k5 (o 5 (by decide) h))), fun h => ⟨(ho 1).2 (Or.inr (hS.k8 (o 8 (by decide) h)).1), (ho 3).2 (Or.inr (hS.k8 (o 8 (by decide) h)).2.1), (ho 5).2 (Or.inr (hS.k8 (o 8 (by decide) h)).2.2.1), (ho 6).2 (Or.inr (hS.k8 (o 8 (by decide) h)).2.2.2.1), (ho 7).2 (Or.inr (hS.k8 (o 8 (by decide) h)).2.2.2.2)⟩, fun h => (ho 8).2 (Or.inr (hS.k9 (o 9 (by decide) h))), fun h => (ho 9).2 (Or.inr (hS.k10 (o 10 (by decide) h)))⟩
      · obtain rfl := hS.d4 (ready_dep hi 4 (by kernel_rfl))
        have q3 := ready_dep hi 3 (by kernel_rfl)
        refine wpOp_free (fun K hK => ?_)
        unfold wpOp
        go_simp
        refine Or.inl ?_
        refine (cL _ (ht.below hS.bel)).mono (fun e wq => ?_)
        rintro ⟨rfl, lg, bq⟩
        have gg := Nat.le_refl w'.heap.size
        have bs := bq.size
        refine hK _ _ ⟨_, _, _, _, _, _, _, _, _, P7, P8, g1, g2, w'.heap.size, rfl, ?_⟩
        exact ⟨(hS.ma).below bq, (hS.mb).below bq, hS.bel.trans (bq.mono hS.bel.size), fun h => hS.d0 (o 0 (by decide) h), fun h => ⟨(hS.d1 (o 1 (by decide) h)).1, ((hS.d1 (o 1 (by decide) h)).2.1).below bq, (hS.d1 (o 1 (by decide) h)).2.2⟩, fun h => hS.d2 (o 2 (by decide) h), fun h => ⟨(hS.d3 (o 3 (by decide) h)).1, ((hS.d3 (o 3 (by decide) h)).2.1).below bq, (hS.d3 (o 3 (by decide) h)).2.2⟩, fun h => hS.d4 (o 4 (by decide) h), fun _ => ⟨rfl, lg, by omega⟩, fun h => ⟨(hS.d6 (o 6 (by decide) h)).1, ((hS.d6 (o 6 (by decide) h)).2.1.elim fun x hx => hx.elim fun y hy => hy.elim fun z hz => ⟨x, y, z, (hz).below bq⟩), (hS.d6 (o 6 (by decide) h)).2.2.1, fun h' => (hS.d6 (o 6 (by decide) h)).2.2.2.1 (o 1 (by decide) h'), fun h' => (hS.d6 (o 6 (by decide) h)).2.2.2.2.1 (o 3 (by decide) h'), fun _ => (by have := bx6 (o 6 (by decide) h); omega)⟩, fun h => ⟨(hS.d7 (o 7 (by decide) h)).1, ((hS.d7 (o 7 (by decide) h)).2.1.elim fun x hx => hx.elim fun y hy => hy.elim fun z hz => ⟨x, y, z, (hz).below bq⟩), (hS.d7 (o 7 (by decide) h)).2.2.1, fun h' => (hS.d7 (o 7 (by decide) h)).2.2.2.1 (o 1 (by decide) h'), fun h' => (hS.d7 (o 7 (by decide) h)).2.2.2.2.1 (o 3 (by decide) h'), fun _ => (by have := bx7 (o 7 (by decide) h); omega), fun h' => (hS.d7 (o 7 (by decide) h)).2.2.2.2.2.2 (o 6 (by decide) h')⟩, fun h => absurd ((hS.k8 (o 8 (by decide) h)).2.2.1) hno, fun h => absurd ((hS.k8 (hS.k9 (o 9 (by decide) h))).2.2.1) hno, fun h => absurd ((hS.k8 (hS.k9 (hS.k10 (o 10 (by decide) h)))).2.2.1) hno, fun h => (ho 1).2 (Or.inr (hS.k3 (o 3 (by decide) h))), fun _ => (ho 3).2 (Or.inr q3), fun h => absurd ((hS.k8 (o 8 (by decide) h)).2.2.1) hno, fun h => (ho 8).2 (Or.inr (hS.k9 (o 9 (by decide) h))), fun h => (ho 9).2 (Or.inr (hS.k10 (o 10 (by decide) h)))⟩
      · refine wpOp_free (fun K hK => ?_)
        unfold wpOp
        go_simp
        refine Or.inl ?_
        refine hK _ _ ⟨_, _, _, _, _, _, _, _, _, w'.heap.size, P8, g1, g2, g3, rfl, ?_⟩
        exact ⟨(hS.ma).alloc _, (hS.mb).alloc _, hS.bel.alloc hS.bel.size _, fun h => hS.d0 (o 0 (by decide) h), fun h => ⟨(hS.d1 (o 1 (by decide) h)).1, ((hS.d1 (o 1 (by decide) h)).2.1).below (below_one _ _), (hS.d1 (o 1 (by decide) h)).2.2⟩, fun h => hS.d2 (o 2 (by decide) h), fun h => ⟨(hS.d3 (o 3 (by decide) h)).1, ((hS.d3 (o 3 (by decide) h)).2.1).below (below_one _ _), (hS.d3 (o 3 (by decide) h)).2.2⟩, fun h => hS.d4 (o 4 (by decide) h), fun h => ⟨(hS.d5 (o 5 (by decide) h)).1, ((hS.d5 (o 5 (by decide) h)).2.1).below (below_one _ _), (hS.d5 (o 5 (by decide) h)).2.2⟩, fun _ => ⟨rfl, ⟨_, _, _, B3.new _ _ _ _ _⟩, by omega, fun h' => (by have := ((hS.d1 (o 1 (by decide) h')).2.1).lt; omega), fun h' => (by have := ((hS.d3 (o 3 (by decide) h')).2.1).lt; omega), fun h' => (by have := ((hS.d5 (o 5 (by decide) h')).2.1).lt; omega)⟩, fun h => ⟨(hS.d7 (o 7 (by decide) h)).1, ((hS.d7 (o 7 (by decide) h)).2.1.elim fun x hx => hx.elim fun y hy => hy.elim fun z hz => ⟨x, y, z, (hz).alloc _⟩), (hS.d7 (o 7 (by decide) h)).2.2.1, fun h' => (hS.d7 (o 7 (by decide) h)).2.2.2.1 (o 1 (by decide) h'), fun h' => (hS.d7 (o 7 (by decide) h)).2.2.2.2.1 (o 3 (by decide) h'), fun h' => (hS.d7 (o 7 (by decide) h)).2.2.2.2.2.1 (o 5 (by decide) h'), fun _ => (by have := bx7 (o 7 (by decide) h); omega)⟩, fun h => absurd ((hS.k8 (o 8 (by decide) h)).2.2.2.1) hno, fun h => absurd ((hS.k8 (hS.k9 (o 9 (by decide) h))).2.2.2.1) hno, fun h => hS.d10 (o 10 (by decide) h), fun h => (ho 1).2 (Or.inr (hS.k3 (o 3 (by decide) h))), fun h => (ho 3).2 (Or.inr (hS.k5 (o 5 (by decide) h))), fun h => absurd ((hS.k8 (o 8 (by decide) h)).2.2.2.1) hno, fun h => (ho 8).2 (Or.inr (hS.k9 (o 9 (by decide) h))), fun h => (ho 9).2 (Or.inr (hS.k10 (o 10 (by decide) h)))⟩
      · refine wpOp_free (fun K hK => ?_)
        unfold wpOp
        go_simp
        refine Or.inl ?_
        refine hK _ _ ⟨_, _, _, _, _, _, _, _, _, P7, w'.heap.size, g1, g2, g3, rfl, ?_⟩
        exact ⟨(hS.ma).alloc _, (hS.mb).alloc _, hS.bel.alloc hS.bel.size _, fun h => hS.d0 (o 0 (by decide) h), fun h => ⟨(hS.d1 (o 1 (by decide) h)).1, ((hS.d1 (o 1 (by decide) h)).2.1).below (below_one _ _), (hS.d1 (o 1 (by decide) h)).2.2⟩, fun h => hS.d2 (o 2 (by decide) h), fun h => ⟨(hS.d3 (o 3 (by decide) h)).1, ((hS.d3 (o 3 (by decide) h)).2.1).below (below_one _ _), (hS.d3 (o 3 (by decide) h)).2.2⟩, fun h => hS.d4 (o 4 (by decide) h), fun h => ⟨(hS.d5 (o 5 (by decide) h)).1, ((hS.d5 (o 5 (by decide) h)).2.1).below (below_one _ _), (hS.d5 (o 5 (by decide) h)).2.2⟩, fun h => ⟨(hS.d6 (o 6 (by decide) h)).1, ((hS.d6 (o 6 (by decide) h)).2.1.elim fun x hx => hx.elim fun y hy => hy.elim fun z hz => ⟨x, y, z, (hz).alloc _⟩), (hS.d6 (o 6 (by decide) h)).2.2.1, fun h' => (hS.d6 (o 6 (by decide) h)).2.2.2.1 (o 1 (by decide) h'), fun h' => (hS.d6 (o 6 (by decide) h)).2.2.2.2.1 (o 3 (by decide) h'), fun h' => (hS.d6 (o 6 (by decide) h)).2.2.2.2.2 (o 5 (by decide) h')⟩, fun _ => ⟨rfl, ⟨_, _, _, B3.new _ _ _ _ _⟩, by omega, fun h' => (by have := ((hS.d1 (o 1 (by decide) h')).2.1).lt; omega), fun h' => (by have := ((hS.d3 (o 3 (by decide) h')).2.1).lt; omega), fun h' => (by have := ((hS.d5 (o 5 (by decide) h')).2.1).lt; omega), fun h' => (by have := bx6 (o 6 (by decide) h'); omega)⟩, fun h => absurd ((hS.k8 (o 8 (by decide) h)).2.2.2.2) hno, fun h => absurd ((hS.k8 (hS.k9 (o 9 (by decide) h))).2.2.2.2) hno, fun h => hS.d10 (o 10 (by decide) h), fun h => (ho 1).2 (Or.inr (hS.k3 (o 3 (by decide) h))), fun h => (ho 3).2 (Or.inr (hS.k5 (o 5 (by decide) h))), fun h => absurd ((hS.k8 (o 8 (by decide) h)).2.2.2.2) hno, fun h => (ho 8).2 (Or.inr (hS.k9 (o 9 (by decide) h))), fun h => (ho 9).2 (Or.inr (hS.k10 (o 10 (by decide) h)))⟩
      · have dn1 := ready_dep hi 1 (by kernel_rfl)
        have dn5 := ready_dep hi 5 (by kernel_rfl)
        have dn6 := ready_dep hi 6 (by kernel_rfl)
        have dn7 := ready_dep hi 7 (by kernel_rfl)
        have dn3 := hS.k5 dn5
        have hS8 := hS.d6 dn6
        have hS97 : P7 ≠ P8 := (hS.d7 dn7).2.2.2.2.2.2 dn6
        obtain ⟨rfl, _, _⟩ := hS.d1 dn1
        obtain ⟨rfl, ⟨x, y, z, hbx⟩, hP, hq1, hq3, hq5⟩ := hS.d6 dn6
        obtain ⟨c0, c1, c2, f0, f1, f2, _⟩ := id hbx
        refine wpOp_free (fun K hK => ?_)
        unfold wpOp
        go_simp
        refine Or.inl ?_
        refine hK _ _ ⟨_, _, _, _, _, _, _, _, _, P7, P8, g1, g2, g3, rfl, ?_⟩
        exact ⟨(hS.ma).far3 (by omega) _ _ _, (hS.mb).far3 (by omega) _ _ _, set_three hS.bel (by omega) _ _ _, fun h => hS.d0 (o 0 (by decide) h), fun h => ⟨(hS.d1 (o 1 (by decide) h)).1, ((hS.d1 (o 1 (by decide) h)).2.1).far3 (hq1 dn1) _ _ _, (hS.d1 (o 1 (by decide) h)).2.2⟩, fun h => hS.d2 (o 2 (by decide) h), fun h => ⟨(hS.d3 (o 3 (by decide) h)).1, ((hS.d3 (o 3 (by decide) h)).2.1).far3 (hq3 dn3) _ _ _, (hS.d3 (o 3 (by decide) h)).2.2⟩, fun h => hS.d4 (o 4 (by decide) h), fun h => ⟨(hS.d5 (o 5 (by decide) h)).1, ((hS.d5 (o 5 (by decide) h)).2.1).far3 (hq5 dn5) _ _ _, (hS.d5 (o 5 (by decide) h)).2.2⟩, fun h => ⟨(hS.d6 (o 6 (by decide) h)).1, ⟨_, _, _, three_put hbx _ _ _⟩, (hS.d6 (o 6 (by decide) h)).2.2.1, fun h' => (hS.d6 (o 6 (by decide) h)).2.2.2.1 (o 1 (by decide) h'), fun h' => (hS.d6 (o 6 (by decide) h)).2.2.2.2.1 (o 3 (by decide) h'), fun h' => (hS.d6 (o 6 (by decide) h)).2.2.2.2.2 (o 5 (by decide) h')⟩, fun h => ⟨(hS.d7 (o 7 (by decide) h)).1, ((hS.d7 (o 7 (by decide) h)).2.1.elim fun x hx => hx.elim fun y hy => hy.elim fun z hz => ⟨x, y, z, (hz).far3 hS97 _ _ _⟩), (hS.d7 (o 7 (by decide) h)).2.2.1, fun h' => (hS.d7 (o 7 (by decide) h)).2.2.2.1 (o 1 (by decide) h'), fun h' => (hS.d7 (o 7 (by decide) h)).2.2.2.2.1 (o 3 (by decide) h'), fun h' => (hS.d7 (o 7 (by decide) h)).2.2.2.2.2.1 (o 5 (by decide) h'), fun h' => (hS.d7 (o 7 (by decide) h)).2.2.2.2.2.2 (o 6 (by decide) h')⟩, fun _ => three_put hbx _ _ _, fun h => absurd (hS.k9 (o 9 (by decide) h)) hno, fun h => hS.d10 (o 10 (by decide) h), fun h => (ho 1).2 (Or.inr (hS.k3 (o 3 (by decide) h))), fun h => (ho 3).2 (Or.inr (hS.k5 (o 5 (by decide) h))), fun _ => ⟨(ho 1).2 (Or.inr dn1), (ho 3).2 (Or.inr dn3), (ho 5).2 (Or.inr dn5), (ho 6).2 (Or.inr dn6), (ho 7).2 (Or.inr dn7)⟩, fun h => absurd (hS.k9 (o 9 (by decide) h)) hno, fun h => absurd (hS.k9 (hS.k10 (o 10 (by decide) h))) hno⟩
      · have dn8 := ready_dep hi 8 (by kernel_rfl)
        obtain ⟨dn1, dn3, dn5, dn6, dn7⟩ := hS.k8 dn8
        have hS97 : P7 ≠ P8 := (hS.d7 dn7).2.2.2.2.2.2 dn6
        obtain ⟨rfl, _, _⟩ := hS.d3 dn3
        obtain ⟨rfl, ⟨x, y, z, hbx⟩, hP, hq1, hq3, hq5, hq6⟩ := hS.d7 dn7
        obtain ⟨c0, c1, c2, f0, f1, f2, _⟩ := id hbx
        refine wpOp_free (fun K hK => ?_)
        unfold wpOp
        go_simp
        refine Or.inl ?_
        refine hK _ _ ⟨_, _, _, _, _, _, _, _, _, P7, P8, g1, g2, g3, rfl, ?_⟩
        exact ⟨(hS.ma).far3 (by omega) _ _ _, (hS.mb).far3 (by omega) _ _ _, set_three hS.bel (by omega) _ _ _, fun h => hS.d0 (o 0 (by decide) h), fun h => ⟨(hS.d1 (o 1 (by decide) h)).1, ((hS.d1 (o 1 (by decide) h)).2.1).far3 (hq1 dn1) _ _ _, (hS.d1 (o 1 (by decide) h)).2.2⟩, fun h => hS.d2 (o 2 (by decide) h), fun h => ⟨(hS.d3 (o 3 (by decide) h)).1, ((hS.d3 (o 3 (by decide) h)).2.1).far3 (hq3 dn3) _ _ _, (hS.d3 (o 3 (by decide) h)).2.2⟩, fun h => hS.d4 (o 4 (by decide) h), fun h => ⟨(hS.d5 (o 5 (by decide) h)).1, ((hS.d5 (o 5 (by decide) h)).2.1).far3 (hq5 dn5) _ _ _, (hS.d5 (o 5 (by decide) h)).2.2⟩, fun h => ⟨(hS.d6 (o 6 (by decide) h)).1, ((hS.d6 (o 6 (by decide) h)).2.1.elim fun x hx => hx.elim fun y hy => hy.elim fun z hz => ⟨x, y, z, (hz).far3 (fun e => hS97 e.symm) _ _ _⟩), (hS.d6 (o 6 (by decide) h)).2.2.1, fun h' => (hS.d6 (o 6 (by decide) h)).2.2.2.1 (o 1 (by decide) h'), fun h' => (hS.d6 (o 6 (by decide) h)).2.2.2.2.1 (o 3 (by decide) h'), fun h' => (hS.d6 (o 6 (by decide) h)).2.2.2.2.2 (o 5 (by decide) h')⟩, fun h => ⟨(hS.d7 (o 7 (by decide) h)).1, ⟨_, _, _, three_put hbx _ _ _⟩, (hS.d7 (o 7 (by decide) h)).2.2.1, fun h' => (hS.d7 (o 7 (by decide) h)).2.2.2.1 (o 1 (by decide) h'), fun h' => (hS.d7 (o 7 (by decide) h)).2.2.2.2.1 (o 3 (by decide) h'), fun h' => (hS.d7 (o 7 (by decide) h)).2.2.2.2.2.1 (o 5 (by decide) h'), fun h' => (hS.d7 (o 7 (by decide) h)).2.2.2.2.2.2 (o 6 (by decide) h')⟩, fun h => (hS.d8 (o 8 (by decide) h)).far3 (fun e => hS97 e.symm) _ _ _, fun _ => three_put hbx _ _ _, fun h => hS.d10 (o 10 (by decide) h), fun h => (ho 1).2 (Or.inr (hS.k3 (o 3 (by decide) h))), fun h => (ho 3).2 (Or.inr (hS.k5 (o 5 (by decide) h))), fun h => ⟨(ho 1).2 (Or.inr (hS.k8 (o 8 (by decide) h)).1), (ho 3).2 (Or.inr (hS.k8 (o 8 (by decide) h)).2.1), (ho 5).2 (Or.inr (hS.k8 (o 8 (by decide) h)).2.2.1), (ho 6).2 (Or.inr (hS.k8 (o 8 (by decide) h)).2.2.2.1), (ho 7).2 (Or.inr (hS.k8 (o 8 (by decide) h)).2.2.2.2)⟩, fun _ => (ho 8).2 (Or.inr dn8), fun h => absurd (hS.k10 (o 10 (by decide) h)) hno⟩
      · have dn9 := ready_dep hi 9 (by kernel_rfl)
        obtain ⟨rfl, _, _⟩ := hS.d5 (hS.k8 (hS.k9 dn9)).2.2.1
        refine wpOp_free (fun K hK => ?_)
        unfold wpOp
        go_simp
        refine Or.inl ?_
        refine hK _ _ ⟨_, _, _, _, _, _, _, _, _, P7, P8, g1, g2, g3, rfl, ?_⟩
        exact ⟨hS.ma, hS.mb, hS.bel, fun h => hS.d0 (o 0 (by decide) h), fun h => ⟨(hS.d1 (o 1 (by decide) h)).1, (hS.d1 (o 1 (by decide) h)).2.1, (hS.d1 (o 1 (by decide) h)).2.2⟩, fun h => hS.d2 (o 2 (by decide) h), fun h => ⟨(hS.d3 (o 3 (by decide) h)).1, (hS.d3 (o 3 (by decide) h)).2.1, (hS.d3 (o 3 (by decide) h)).2.2⟩, fun h => hS.d4 (o 4 (by decide) h), fun h => ⟨(hS.d5 (o 5 (by decide) h)).1, (hS.d5 (o 5 (by decide) h)).2.1, (hS.d5 (o 5 (by decide) h)).2.2⟩, fun h => ⟨(hS.d6 (o 6 (by decide) h)).1, ((hS.d6 (o 6 (by decide) h)).2.1.elim fun x hx => hx.elim fun y hy => hy.elim fun z hz => ⟨x, y, z, hz⟩), (hS.d6 (o 6 (by decide) h)).2.2.1, fun h' => (hS.d6 (o 6 (by decide) h)).2.2.2.1 (o 1 (by decide) h'), fun h' => (hS.d6 (o 6 (by decide) h)).2.2.2.2.1 (o 3 (by decide) h'), fun h' => (hS.d6 (o 6 (by decide) h)).2.2.2.2.2 (o 5 (by decide) h')⟩, fun h => ⟨(hS.d7 (o 7 (by decide) h)).1, ((hS.d7 (o 7 (by decide) h)).2.1.elim fun x hx => hx.elim fun y hy => hy.elim fun z hz => ⟨x, y, z, hz⟩), (hS.d7 (o 7 (by decide) h)).2.2.1, fun h' => (hS.d7 (o 7 (by decide) h)).2.2.2.1 (o 1 (by decide) h'), fun h' => (hS.d7 (o 7 (by decide) h)).2.2.2.2.1 (o 3 (by decide) h'), fun h' => (hS.d7 (o 7 (by decide) h)).2.2.2.2.2.1 (o 5 (by decide) h'), fun h' => (hS.d7 (o 7 (by decide) h)).2.2.2.2.2.2 (o 6 (by decide) h')⟩, fun h => hS.d8 (o 8 (by decide) h), fun h => hS.d9 (o 9 (by decide) h), fun _ => rfl, fun h => (ho 1).2 (Or.inr (hS.k3 (o 3 (by decide) h))), fun h => (ho 3).2 (Or.inr (hS.k5 (o 5 (by decide) h))), fun h => ⟨(ho 1).2 (Or.inr (hS.k8 (o 8 (by decide) h)).1), (ho 3).2 (Or.inr (hS.k8 (o 8 (by decide) h)).2.1), (ho 5).2 (Or.inr (hS.k8 (o 8 (by decide) h)).2.2.1), (ho 6).2 (Or.inr (hS.k8 (o 8 (by decide) h)).2.2.2.1), (ho 7).2 (Or.inr (hS.k8 (o 8 (by decide) h)).2.2.2.2)⟩, fun h => (ho 8).2 (Or.inr (hS.k9 (o 9 (by decide) h))), fun _ => (ho 9).2 (Or.inr dn9)⟩
    · rintro L a w' hL ⟨v7, v8, v9, v18, v19, v20, v21, v22, v23, P7, P8, g1, g2, g3, rfl, hS⟩ hnone
      have hd := all_done hL hnone (by kernel_rfl)
      have o := fun i (h : i < 11) => hd i h
      obtain ⟨e1, l1, _⟩ := hS.d1 (o 1 (by omega))
      obtain ⟨e3, l3, _⟩ := hS.d3 (o 3 (by omega))
      obtain ⟨e5, l5, _⟩ := hS.d5 (o 5 (by omega))
      obtain ⟨e6, _⟩ := hS.d6 (o 6 (by omega))
      obtain ⟨e7, _⟩ := hS.d7 (o 7 (by omega))
      have e8 := hS.d8 (o 8 (by omega))
      have e9 := hS.d9 (o 9 (by omega))
      have e10 := hS.d10 (o 10 (by omega))
      have z1 := hS.ma
      have z2 := hS.mb
      have z3 := hS.bel
      clear hd o hS hnone hL
      go_wp2_with fail
      go_meet
      exact ⟨P7, P8, g1, g2, g3, e6, e7, e10, z1, z2, e8, e9, l1, l3, l5, z3⟩
  case rest =>
    obtain ⟨P7, P8, g1, g2, g3, rfl, rfl, rfl, MA, MB, PX, PY, l1, l2, l3, HB⟩ := hcut
    obtain ⟨p0, p1, p2, _⟩ := id PX
    obtain ⟨q0, q1, q2, _⟩ := id PY
    have cm := fun W h1 h2 => mmul_any r c xs r2 c2 ys (some ⟨g1, 0, none⟩) (some ⟨g2, 0, none⟩) (n + 12) (m + 12) W h1 h2 hF hG
    have cn := fun W h1 h2 => rmul_any r c xs r2 c2 ys ao bo cap cap2 W h1 h2 hF hG
    have ca := fun W h1 h2 => mapply_any r c xs l (some ⟨g1, 0, none⟩) (some ⟨g3, 0, none⟩) (n + 12) (l.length + 12) W h1 h2 hF hH
    have cb := fun W h1 h2 => rapply_any r c xs l ao lo cap lc W h1 h2 hF hH hln
    rw [hn.out, hm.out] at cm cn
    rw [hn.out] at ca cb
    have lb : (mlA r c xs r2 c2 ys).os.length ≤ 2304 := mlA_len r c xs r2 c2 ys
    have lb2 : (apA r c xs l).1.length ≤ 2304 := mlA_len r c xs c 1 l
    generalize mlA r c xs r2 c2 ys = AM at *
    generalize apA r c xs l = AP at *
    obtain ⟨A1, A2, A3, A4⟩ := AM
    obtain ⟨A5, A6⟩ := AP
    go_upto_region 3 with (go_at_call 13; refine (cm _ l1.row l2.row).mono ?_; rintro e w1 ⟨_, rfl, mo, mc, ms, rfl, hz⟩; have hv1 : GvL _ A3 mo mc ms w1 := hz; clear hz)
    have X1 := hv1.2.2.2.2.alloc hv1.2.2.2.2.size (.cells #[.int .i64 A1, .int .i64 A2, .slice mo ms.length mc] 24)
    have BM := B3.new w1 (.int .i64 A1) (.int .i64 A2) (.slice mo ms.length mc) 24
    have gm := hv1.2.1.below (below_one w1 (.cells #[.int .i64 A1, .int .i64 A2, .slice mo ms.length mc] 24))
    replace MA := MA.below X1
    replace MB := MB.below X1
    replace PX := PX.below X1
    replace PY := PY.below X1
    replace l1 := l1.below X1
    replace l2 := l2.below X1
    replace l3 := l3.below X1
    replace HB := HB.trans (X1.mono HB.size)
    have n1 := hv1.1
    clear hv1 X1 p0 p1 p2 q0 q1 q2
    generalize w1.alloc (.cells #[.int .i64 A1, .int .i64 A2, .slice mo ms.length mc] 24) = W1 at *
    generalize w1.heap.size = M1 at *
    obtain ⟨p0, p1, p2, _⟩ := id MA
    obtain ⟨q0, q1, q2, _⟩ := id MB
    go_upto_region 4 with (go_at_call 36; refine (cn _ (hr.below HB) (hs.below HB)).mono ?_; rintro e w2 ⟨_, rfl, no, nc, ns, rfl, hz⟩; have hv1 : GvL _ A3 no nc ns w2 := hz; clear hz)
    have X1 := hv1.2.2.2.2.alloc hv1.2.2.2.2.size (.cells #[.int .i64 A1, .int .i64 A2, .slice no ns.length nc] 24)
    have BN := B3.new w2 (.int .i64 A1) (.int .i64 A2) (.slice no ns.length nc) 24
    have gn := hv1.2.1.below (below_one w2 (.cells #[.int .i64 A1, .int .i64 A2, .slice no ns.length nc] 24))
    replace MA := MA.below X1
    replace MB := MB.below X1
    replace PX := PX.below X1
    replace PY := PY.below X1
    replace BM := BM.below X1
    replace gm := gm.below X1
    replace l1 := l1.below X1
    replace l2 := l2.below X1
    replace l3 := l3.below X1
    replace HB := HB.trans (X1.mono HB.size)
    have n2 := hv1.1
    clear hv1 X1 p0 p1 p2 q0 q1 q2
    generalize w2.alloc (.cells #[.int .i64 A1, .int .i64 A2, .slice no ns.length nc] 24) = W2 at *
    generalize w2.heap.size = M2 at *
    obtain ⟨p0, p1, p2, _⟩ := id PX
    go_upto_region 5 with (go_at_call 37; refine (ca _ l1.row l3.row).mono ?_; rintro e w3 ⟨_, rfl, so, sc, ss, rfl, n3, gs, _, _, bz⟩; replace MA := MA.below bz; replace MB := MB.below bz; replace PX := PX.below bz; replace PY := PY.below bz; replace BM := BM.below bz; replace BN := BN.below bz; replace gm := gm.below bz; replace gn := gn.below bz; replace l1 := l1.below bz; replace l2 := l2.below bz; replace l3 := l3.below bz; replace HB := HB.trans (bz.mono HB.size))
    clear bz p0 p1 p2
    obtain ⟨p0, p1, p2, _⟩ := id MA
    go_upto_region 6 with (go_at_call 38; refine (cb _ (hr.below HB) (ht.below HB)).mono ?_; rintro e w4 ⟨_, rfl, tq, tc, ts, rfl, n4, gt, _, _, bz⟩; replace MA := MA.below bz; replace MB := MB.below bz; replace PX := PX.below bz; replace PY := PY.below bz; replace BM := BM.below bz; replace BN := BN.below bz; replace gm := gm.below bz; replace gn := gn.below bz; replace gs := gs.below bz; replace l1 := l1.below bz; replace l2 := l2.below bz; replace l3 := l3.below bz; replace HB := HB.trans (bz.mono HB.size))
    clear bz p0 p1 p2
    have f1 : (A6 == A6) = true := by simp
    have km := fun W h1 h2 => keptM_any r c xs ao cap g1 W h1 hF h2 (by rw [hn.out]; exact hxn)
    have kn := fun W h1 h2 => keptM_any r2 c2 ys bo cap2 g2 W h1 hG h2 (by rw [hm.out]; exact hym)
    have kl := fun W h1 h2 => keptR_any l lo lc g3 W h1 hH h2 hln
    rw [hn.out] at km
    rw [hm.out] at kn
    obtain ⟨x0, x1, x2, _⟩ := id BM
    obtain ⟨y0, y1, y2, _⟩ := id BN
    go_wp2_with (first
      | (go_at_call 11; refine (lis_LN A1 A2 A4 n1 n2 mo no mc nc _ gm gn lb).mono ?_; rintro e w5 ⟨rfl, bz⟩; replace MA := MA.below bz; replace MB := MB.below bz; replace PX := PX.below bz; replace PY := PY.below bz; replace gs := gs.below bz; replace gt := gt.below bz; replace l1 := l1.below bz; replace l2 := l2.below bz; replace l3 := l3.below bz; replace HB := HB.trans (bz.mono HB.size); obtain ⟨p0, p1, p2, _⟩ := id MA; obtain ⟨q0, q1, q2, _⟩ := id MB; obtain ⟨s0, s1, s2, _⟩ := id PX; obtain ⟨t0, t1, t2, _⟩ := id PY)
      | (go_at_call 39; refine (msreals_any n3 n4 sc tc gs gt lb2).mono ?_; rintro e w6 ⟨rfl, bz⟩; replace MA := MA.below bz; replace MB := MB.below bz; replace PX := PX.below bz; replace PY := PY.below bz; replace gs := gs.below bz; replace gt := gt.below bz; replace l1 := l1.below bz; replace l2 := l2.below bz; replace l3 := l3.below bz; replace HB := HB.trans (bz.mono HB.size); obtain ⟨p0, p1, p2, _⟩ := id MA; obtain ⟨q0, q1, q2, _⟩ := id MB; obtain ⟨s0, s1, s2, _⟩ := id PX; obtain ⟨t0, t1, t2, _⟩ := id PY)
      | (go_at_call_of 34 (Value.agg #[Value.int IntKind.i64 r, Value.int IntKind.i64 c, Value.slice ao n cap]); refine (km _ (hr.below HB) l1).mono ?_; rintro e w7 ⟨rfl, bz⟩; replace MA := MA.below bz; replace MB := MB.below bz; replace PX := PX.below bz; replace PY := PY.below bz; replace gs := gs.below bz; replace gt := gt.below bz; replace l1 := l1.below bz; replace l2 := l2.below bz; replace l3 := l3.below bz; replace HB := HB.trans (bz.mono HB.size); obtain ⟨p0, p1, p2, _⟩ := id MA; obtain ⟨q0, q1, q2, _⟩ := id MB; obtain ⟨s0, s1, s2, _⟩ := id PX; obtain ⟨t0, t1, t2, _⟩ := id PY)
      | (go_at_call_of 34 (Value.agg #[Value.int IntKind.i64 r2, Value.int IntKind.i64 c2, Value.slice bo m cap2]); refine (kn _ (hs.below HB) l2).mono ?_; rintro e w8 ⟨rfl, bz⟩; replace MA := MA.below bz; replace MB := MB.below bz; replace PX := PX.below bz; replace PY := PY.below bz; replace gs := gs.below bz; replace gt := gt.below bz; replace l1 := l1.below bz; replace l2 := l2.below bz; replace l3 := l3.below bz; replace HB := HB.trans (bz.mono HB.size); obtain ⟨p0, p1, p2, _⟩ := id MA; obtain ⟨q0, q1, q2, _⟩ := id MB; obtain ⟨s0, s1, s2, _⟩ := id PX; obtain ⟨t0, t1, t2, _⟩ := id PY)
      | (go_at_call 40; refine (kl _ (ht.below HB) l3).mono ?_; rintro e w9 ⟨rfl, bz⟩; replace HB := HB.trans (bz.mono HB.size))
      | (go_at_call 20; refine (mawake _).mono ?_; rintro e w10 ⟨rfl, bz⟩; replace HB := HB.trans (bz.mono HB.size)))
    go_ret
    exact ⟨rfl, HB⟩
theorem times_row (r c : Int) (xs : List Nat) (ao : Option Addr) (cap : Nat) (r2 c2 : Int) (ys : List Nat) (bo : Option Addr) (cap2 : Nat) (l : List Nat) (lo : Option Addr) (lc : Nat) (w : World) (hr : GRow w ao xs) (hF : FW xs) (za : ao = none → cap = 0 ∧ xs.length = 0) (h1 : xs.length ≤ cap) (h2 : cap ≤ 17592186044416) (hs : GRow w bo ys) (hG : FW ys) (zb : bo = none → cap2 = 0 ∧ ys.length = 0) (h3 : ys.length ≤ cap2) (h4 : cap2 ≤ 17592186044416) (ht : GRow w lo l) (hH : FW l) (h5 : l.length ≤ lc) (h6 : lc ≤ 17592186044416) (zl : lo = none → lc = 0 ∧ l.length = 0) :
    Calls Try.prog 5 #[mxV r c ao xs.length cap, mxV r2 c2 bo ys.length cap2, .slice lo l.length lc] w fun e w' => e = .returned (.bool true) ∧ Below w.heap.size w w' :=
  times_law r c xs ao xs.length cap r2 c2 ys bo ys.length cap2 l lo lc w rfl rfl hr hs ht hF hG hH za zb zl (by omega) (by omega) (by omega)
end Go.Proofs.Ythbnffnoldmcnaa
