/- What the reference's Sub answers. -/
import Derived.Test.YtjjchlfdaacddaaDoorMo
import Derived.Test.YtjjchlfdaacddaaDoorMd
namespace Go.Proofs.YtjjchlfdaacddaaDoor
open Go.RowKit

set_option maxHeartbeats 2000000 in
theorem dsub_any (a b : Dy) (ao bo : Option Addr) (cap bcap : Nat) (w : World) (hr : NS w ao cap a.mag) (hs : NS w bo bcap b.mag) (hL : Lm a.mag) (hM : Lm b.mag) :
    Calls Tryd.prog 30 #[.agg #[.bool a.neg, .slice ao a.mag.length cap, .int .i64 a.exp], .agg #[.bool b.neg, .slice bo b.mag.length bcap, .int .i64 b.exp]] w (GaveX w (subD a b)) := by
  have hN := fun w' (h : NS w' bo bcap b.mag) => dneg_any b bo bcap w' h hM
  cases hb : rightB b
  · have e1 : negD b = (dy0, 2) := by unfold negD; rw [if_neg (by rw [hb]; simp)]
    have e2 : subD a b = (dy0, 2) := by unfold subD; rw [hb]; simp
    rw [e1] at hN
    rw [e2]
    obtain ⟨n1, xs, ex⟩ := a
    obtain ⟨n2, ys, ey⟩ := b
    simp only [dy0] at *
    clear hb e1 e2
    go_enter Tryd.func30, Tryd.ntmps30
    go_wp2_with (go_at_call 33; refine (hN _ (hs.below al3)).mono ?_; rintro e w1 ⟨ao1, cap1, rfl, r1, fr1, b1⟩; obtain ⟨⟨c0, c1, c2⟩, ⟨d0, d1, d2⟩, ⟨e0, e1, e2⟩, ⟨k0, k1, k2⟩, hB⟩ := bx3 b1; have g0 := mark_alloc e0 k0; have g1 := mark_alloc e1 k1; have g2 := mark_alloc e2 k2; have q0 := cell_alloc e0; have q1 := cell_alloc e1; have q2 := cell_alloc e2)
    have hB2 := hB.alloc hB.size (.cells #[.bool false, .slice ao1 0 cap1, .int .i64 0] 24)
    exact bodyPost_ret (v := .tuple #[.agg #[.bool false, .slice none 0 0, .int .i64 0], .int .i64 2]) (by simp [results, Tryd.results30, go_sem, q0, q1, q2]) rfl ⟨none, 0, rfl, NS.nil _, Frs.none _, ((hB2.setCell (by simp; omega) _).setCell (by simp; omega) _).setCell (by simp; omega) _⟩
  · have e1 : negD b = (trn b, 0) := by unfold negD; rw [if_pos hb]
    have e2 : subD a b = addD a (trn b) := sub_add hb
    rw [e1] at hN
    rw [e2]
    have hM2 : Lm (trn b).mag := hM
    have hA := fun o c w' (h1 : NS w' ao cap a.mag) (h2 : NS w' o c (trn b).mag) => dadd_any a (trn b) ao o cap c w' h1 h2 hL hM2
    obtain ⟨⟨tn, tm, te⟩, ht⟩ : ∃ t, trn b = t := ⟨_, rfl⟩
    rw [ht] at hN hA ⊢
    obtain ⟨⟨⟨rn, rm, re⟩, rk⟩, hrr⟩ : ∃ r, addD a ⟨tn, tm, te⟩ = r := ⟨_, rfl⟩
    rw [hrr] at hA ⊢
    obtain ⟨n1, xs, ex⟩ := a
    obtain ⟨n2, ys, ey⟩ := b
    simp only at *
    clear hb e1 e2 ht hrr hM2
    go_enter Tryd.func30, Tryd.ntmps30
    go_wp2_with (first
      | (go_at_call 33; refine (hN _ (hs.below al3)).mono ?_; rintro e w1 ⟨ao1, cap1, rfl, r1, fr1, b1⟩; obtain ⟨⟨c0, c1, c2⟩, ⟨d0, d1, d2⟩, ⟨e0, e1, e2⟩, ⟨k0, k1, k2⟩, hB⟩ := bx3 b1; have p0 := cell_alloc c0; have p1 := cell_alloc c1; have p2 := cell_alloc c2)
      | (go_at_call 29; refine (hA _ _ _ (hr.below (hB.alloc hB.size _)) (r1.below ((Below.refl _ _).alloc (Nat.le_refl _) _))).mono ?_; rintro e w2 ⟨ao2, cap2, rfl, r2, fr2, b2⟩; have B2 := b1.trans (one_more b1 b2); clear c0 c1 c2 d0 d1 d2 e0 e1 e2 k0 k1 k2 p0 p1 p2; obtain ⟨⟨c0, c1, c2⟩, ⟨d0, d1, d2⟩, ⟨e0, e1, e2⟩, ⟨k0, k1, k2⟩, hB2⟩ := bx3 B2))
    have hs1 := b1.size
    simp at hs1
    have hfr2 : Frs (w.heap.size + 3) ao2 := fr2.mono (by simp; omega)
    refine bodyPost_ret (v := .tuple #[.agg #[.bool rn, .slice ao2 rm.length cap2, .int .i64 re], .int .i64 rk]) (by simp [results, Tryd.results30, go_sem, e0, e1, e2]) rfl ⟨ao2, cap2, rfl, ?_, hfr2.mono (by omega), ((hB2.setCell (by simp; omega) _).setCell (by simp; omega) _).setCell (by simp; omega) _⟩
    exact ((r2.setBox hfr2 (by omega) _ _).setBox hfr2 (by omega) _ _).setBox hfr2 (by omega) _ _
end Go.Proofs.YtjjchlfdaacddaaDoor
