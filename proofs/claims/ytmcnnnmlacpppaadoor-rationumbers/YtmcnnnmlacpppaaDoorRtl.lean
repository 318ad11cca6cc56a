/- The laws' own small functions: small, SameRatio, is, known. -/
import Derived.Test.YtmcnnnmlacpppaaDoorRtk
namespace Go.Proofs.YtmcnnnmlacpppaaDoor
open Go.RowKit

set_option maxHeartbeats 400000 in
theorem small_any (n : Bool) (a b : Nat) (a0 : a ≠ 0) (b0 : b ≠ 0) (a1 : a < 18446744073709551616) (b1 : b < 18446744073709551616) (w : World) :
    Calls Tryd.prog 14 #[.bool n, .int .u64 a, .int .u64 b] w (GaveI w n a b) := by
  have RB := B3q.new w (.bool false) (.slice none 0 0) (.slice none 0 0) 25
  have hb0 : Below w.heap.size w (w.alloc (.cells #[.bool false, .slice none 0 0, .slice none 0 0] 25)) := (Below.refl _ _).alloc (Nat.le_refl _) _
  obtain ⟨p1, p2⟩ := lo_one a0 a1
  obtain ⟨q1, q2⟩ := lo_one b0 b1
  unfold GaveI
  rw [p1, q1, p2, q2]
  clear p1 p2 q1 q2
  go_enter Tryd.func14, Tryd.ntmps14
  go_upto_region 1 with fail
  generalize w.alloc (.cells #[.bool false, .slice none 0 0, .slice none 0 0] 25) = W0 at *
  have l1 : W0.heap.size ≠ w.heap.size := by have := RB.lt; omega
  have l2 : W0.heap.size + 1 ≠ w.heap.size := by have := RB.lt; omega
  have l3 : w.heap.size ≠ W0.heap.size := by have := RB.lt; omega
  have l4 : w.heap.size ≠ W0.heap.size + 1 := by have := RB.lt; omega
  have RBF := RB.fill (.bool n) (.slice (some ⟨W0.heap.size, 0, none⟩) 1 1) (.slice (some ⟨W0.heap.size + 1, 0, none⟩) 1 1)
  have hBF := below_three hb0 (Nat.le_refl _) (.bool n) (.slice (some ⟨W0.heap.size, 0, none⟩) 1 1) (.slice (some ⟨W0.heap.size + 1, 0, none⟩) 1 1)
  have hV : (((W0.setCell ⟨w.heap.size, 0, none⟩ (.bool n)).setCell ⟨w.heap.size, 1, none⟩ (.slice (some ⟨W0.heap.size, 0, none⟩) 1 1)).setCell ⟨w.heap.size, 2, none⟩ (.slice (some ⟨W0.heap.size + 1, 0, none⟩) 1 1)).heap.size = W0.heap.size := by simp [World.setCell]
  obtain ⟨r0, r1, r2, f0, f1, f2, _, _⟩ := id RB
  go_wp2
  generalize ((W0.setCell ⟨w.heap.size, 0, none⟩ (.bool n)).setCell ⟨w.heap.size, 1, none⟩ (.slice (some ⟨W0.heap.size, 0, none⟩) 1 1)).setCell ⟨w.heap.size, 2, none⟩ (.slice (some ⟨W0.heap.size + 1, 0, none⟩) 1 1) = V at *
  have LA := (oneLS V a 22).made (.cells #[.int .u64 ((b : Nat) : Int)] 22)
  have LB := oneLS (V.alloc (.cells #[.int .u64 ((a : Nat) : Int)] 22)) b 22
  have hs : (V.alloc (.cells #[.int .u64 ((a : Nat) : Int)] 22)).heap.size = W0.heap.size + 1 := by simp [hV]
  rw [hs] at LB
  rw [hV] at LA
  have hbb := (hBF.alloc hBF.size (.cells #[.int .u64 ((a : Nat) : Int)] 22)).alloc (by rw [hs]; have := hb0.size; omega) (.cells #[.int .u64 ((b : Nat) : Int)] 22)
  have RB2 := (RBF.alloc (.cells #[.int .u64 ((a : Nat) : Int)] 22)).alloc (.cells #[.int .u64 ((b : Nat) : Int)] 22)
  obtain ⟨s0, s1, s2, t0, t1, t2, _, _⟩ := id RB2
  exact bodyPost_ret (v := .agg #[.bool n, .slice (some ⟨W0.heap.size, 0, none⟩) 1 1, .slice (some ⟨W0.heap.size + 1, 0, none⟩) 1 1]) (by simp only [results, Tryd.results14]; simp [go_sem, s0, s1, s2]) rfl ⟨some ⟨W0.heap.size, 0, none⟩, 1, some ⟨W0.heap.size + 1, 0, none⟩, 1, rfl, LA, LB, hbb⟩
theorem lo_inj {a b : Nat} : decide (lo a = lo b) = (a == b) := by
  rw [Bool.eq_iff_iff, decide_eq_true_iff, beq_iff_eq]
  constructor
  · intro h
    rw [← vl_lo a, h, vl_lo]
  · rintro rfl
    rfl
def smB (n1 n2 : Bool) (N1 D1 N2 D2 : Nat) : Bool := (n1 == n2) && (N1 == N2) && (D1 == D2)
set_option maxHeartbeats 1000000 in
theorem sameR_any (n1 n2 : Bool) (N1 D1 N2 D2 : Nat) (ao1 bo1 ao2 bo2 : Option Addr) (ac1 bc1 ac2 bc2 : Nat) (w : World) (a1 : LRow w ao1 (lo N1)) (b1 : LRow w bo1 (lo D1)) (a2 : LRow w ao2 (lo N2)) (b2 : LRow w bo2 (lo D2)) (k1 : nl N1 ≤ 256) (k2 : nl D1 ≤ 256) :
    Calls Tryd.prog 19 #[.agg #[.bool n1, .slice ao1 (nl N1) ac1, .slice bo1 (nl D1) bc1], .agg #[.bool n2, .slice ao2 (nl N2) ac2, .slice bo2 (nl D2) bc2]] w fun e w' => e = .returned (.bool (smB n1 n2 N1 D1 N2 D2)) ∧ Below w.heap.size w w' := by
  have AB := (B3q.new w (.bool n1) (.slice ao1 (nl N1) ac1) (.slice bo1 (nl D1) bc1) 25).alloc (.cells #[.bool n2, .slice ao2 (nl N2) ac2, .slice bo2 (nl D2) bc2] 25)
  have BB := B3q.new (w.alloc (.cells #[.bool n1, .slice ao1 (nl N1) ac1, .slice bo1 (nl D1) bc1] 25)) (.bool n2) (.slice ao2 (nl N2) ac2) (.slice bo2 (nl D2) bc2) 25
  have hs1 : (w.alloc (.cells #[.bool n1, .slice ao1 (nl N1) ac1, .slice bo1 (nl D1) bc1] 25)).heap.size = w.heap.size + 1 := by simp
  rw [hs1] at BB
  have hb0 : Below w.heap.size w ((w.alloc (.cells #[.bool n1, .slice ao1 (nl N1) ac1, .slice bo1 (nl D1) bc1] 25)).alloc (.cells #[.bool n2, .slice ao2 (nl N2) ac2, .slice bo2 (nl D2) bc2] 25)) := ((Below.refl _ _).alloc (Nat.le_refl _) _).alloc (by rw [hs1]; omega) _
  have c1 := sameLimbs_any (lo N1) (lo N2) ao1 ao2 ac1 ac2 _ (a1.below hb0) (a2.below hb0) (by rw [lo_length]; omega)
  rw [lo_inj, lo_length, lo_length] at c1
  go_enter Tryd.func19, Tryd.ntmps19
  go_upto_region 1 with fail
  generalize (w.alloc (.cells #[.bool n1, .slice ao1 (nl N1) ac1, .slice bo1 (nl D1) bc1] 25)).alloc (.cells #[.bool n2, .slice ao2 (nl N2) ac2, .slice bo2 (nl D2) bc2] 25) = W0 at *
  have c2 := fun w' (h : Below W0.heap.size W0 w') => sameLimbs_any (lo D1) (lo D2) bo1 bo2 bc1 bc2 w' ((b1.below hb0).below h) ((b2.below hb0).below h) (by rw [lo_length]; omega)
  simp only [lo_inj, lo_length] at c2
  obtain ⟨x0, x1, x2, _, _, _, _, _⟩ := id AB
  obtain ⟨y0, y1, y2, _, _, _, _, _⟩ := id BB
  clear hs1 a1 b1 a2 b2
  cases hn : (n1 == n2)
  · go_wp2
    go_ret
    exact ⟨retB (by unfold smB; rw [hn]; rfl), hb0⟩
  · cases hN : (N1 == N2)
    · rw [hN] at c1
      go_wp2_with (go_at_call 50; refine c1.mono ?_; rintro e w2 ⟨rfl, b2⟩)
      go_ret
      exact ⟨retB (by unfold smB; rw [hn, hN]; rfl), hb0.trans (b2.mono hb0.size)⟩
    · rw [hN] at c1
      cases hD : (D1 == D2)
      all_goals
        simp only [hD] at c2
        go_wp2_with (first | (go_at_call 50; refine (c2 _ b2).mono ?_; rintro e w3 ⟨rfl, b3⟩) | (go_at_call 50; refine c1.mono ?_; rintro e w2 ⟨rfl, b2⟩; have AB2 := AB.below b2; have BB2 := BB.below b2; obtain ⟨x0', x1', x2', _, _, _, _, _⟩ := id AB2; obtain ⟨y0', y1', y2', _, _, _, _, _⟩ := id BB2))
        go_ret
        exact ⟨retB (by unfold smB; rw [hn, hN, hD]; rfl), hb0.trans ((b2.trans (b3.mono b2.size)).mono hb0.size)⟩
/-- The right ratio that stands for any one. -/
def knQ (neg : Bool) (N D : Nat) : Bool × Nat × Nat := match (nmA neg N D).1 with | some r => r | none => (false, 1, 1)
theorem knQ_right (neg : Bool) (N D : Nat) : RqB (knQ neg N D).1 (knQ neg N D).2.1 (knQ neg N D).2.2 := by
  obtain ⟨o, er, h⟩ : ∃ o er, nmA neg N D = (o, er) := ⟨_, _, rfl⟩
  unfold knQ
  rw [h]
  cases o with
  | none => exact (show RqB false 1 1 from ⟨by decide, by decide, by decide, by decide, fun _ => rfl⟩)
  | some r =>
    obtain ⟨a, b, c⟩ := r
    exact nmA_right h
set_option maxHeartbeats 1000000 in
theorem known_any (neg : Bool) (xs ys : List Nat) (ao bo : Option Addr) (cap bcap : Nat) (w : World) (h1 : LS w ao cap xs) (h2 : LS w bo bcap ys) (hL : Lm xs) (hM : Lm ys) (n1 : xs.length ≤ 15000) (n2 : ys.length ≤ 15000) (hT : TabW w) :
    Calls Tryd.prog 23 #[.agg #[.bool neg, .slice ao xs.length cap, .slice bo ys.length bcap]] w (GaveI w (knQ neg (vl xs) (vl ys)).1 (knQ neg (vl xs) (vl ys)).2.1 (knQ neg (vl xs) (vl ys)).2.2) := by
  have RB := (B3q.new w (.bool neg) (.slice ao xs.length cap) (.slice bo ys.length bcap) 25).alloc (.cells #[.bool false, .slice none 0 0, .slice none 0 0] 25)
  have OB := B3q.new (w.alloc (.cells #[.bool neg, .slice ao xs.length cap, .slice bo ys.length bcap] 25)) (.bool false) (.slice none 0 0) (.slice none 0 0) 25
  have hsz : (w.alloc (.cells #[.bool neg, .slice ao xs.length cap, .slice bo ys.length bcap] 25)).heap.size = w.heap.size + 1 := by simp
  rw [hsz] at OB
  have hb0 : Below w.heap.size w ((w.alloc (.cells #[.bool neg, .slice ao xs.length cap, .slice bo ys.length bcap] 25)).alloc (.cells #[.bool false, .slice none 0 0, .slice none 0 0] 25)) := ((Below.refl _ _).alloc (Nat.le_refl _) _).alloc (by rw [hsz]; omega) _
  have cN := rnorm_any neg xs ys ao bo cap bcap _ (h1.below hb0) (h2.below hb0) hL hM n1 n2 (tabW_below hT hb0)
  have ci := fun w' => rint_any 1 (by omega) (by omega) w'
  obtain ⟨o, er, hnm⟩ : ∃ o er, nmA neg (vl xs) (vl ys) = (o, er) := ⟨_, _, rfl⟩
  have herr : o = none → er = 3 ∨ er = 7 := fun ho => by
    subst ho
    unfold nmA at hnm
    (repeat' split at hnm) <;> simp at hnm <;> omega
  unfold knQ
  rw [hnm] at cN ⊢
  go_enter Tryd.func23, Tryd.ntmps23
  go_upto_region 1 with fail
  generalize (w.alloc (.cells #[.bool neg, .slice ao xs.length cap, .slice bo ys.length bcap] 25)).alloc (.cells #[.bool false, .slice none 0 0, .slice none 0 0] 25) = W0 at *
  obtain ⟨x0, x1, x2, _, _, _, _, _⟩ := id RB
  clear hsz h1 h2 hnm
  cases o with
  | none =>
    have he : (er == 0) = false := by rcases herr rfl with h | h <;> rw [h] <;> rfl
    have he2 : (er != 0) = true := by rcases herr rfl with h | h <;> rw [h] <;> rfl
    unfold GaveR at cN
    go_upto_region 2 with (go_at_call 15; refine cN.mono ?_; rintro e w2 ⟨rfl, b2⟩)
    have b3 := b2.alloc b2.size (.cells #[.bool false, .slice none 0 0, .slice none 0 0] 25)
    generalize w2.alloc (.cells #[.bool false, .slice none 0 0, .slice none 0 0] 25) = W3 at *
    go_wp2_with (go_at_call 20; refine (ci _).mono ?_; rintro e w4 ⟨ro, rc, so, sc, rfl, hA4, hB4, b4⟩; have b5 := b3.trans (b4.mono b3.size); have OB4 := OB.below b5; obtain ⟨o0', o1', o2', q0', q1', q2', _, _⟩ := id OB4)
    exact bodyPost_ret (v := .agg #[.bool false, .slice ro (nl 1) rc, .slice so (nl 1) sc]) (by simp [results, Tryd.results23, go_sem, o0', o1', o2']) rfl ⟨ro, rc, so, sc, rfl, hA4.threeB OB4 _ _ _, hB4.threeB OB4 _ _ _, below_three (hb0.trans (b5.mono hb0.size)) (by omega) _ _ _⟩
  | some r =>
    obtain ⟨ng, N3, D3⟩ := r
    unfold GaveR at cN
    go_upto_region 2 with (go_at_call 15; refine cN.mono ?_; rintro e w2 ⟨ro, rc, so, sc, rfl, hA2, hB2, b2⟩)
    have b3 := b2.alloc b2.size (.cells #[.bool ng, .slice ro (nl N3) rc, .slice so (nl D3) sc] 25)
    have XB := B3q.new w2 (.bool ng) (.slice ro (nl N3) rc) (.slice so (nl D3) sc) 25
    have hA3 := hA2.made (.cells #[.bool ng, .slice ro (nl N3) rc, .slice so (nl D3) sc] 25)
    have hB3 := hB2.made (.cells #[.bool ng, .slice ro (nl N3) rc, .slice so (nl D3) sc] 25)
    generalize w2.alloc (.cells #[.bool ng, .slice ro (nl N3) rc, .slice so (nl D3) sc] 25) = W3 at *
    obtain ⟨z0, z1, z2, _, _, _, _, _⟩ := id XB
    have OB4 := OB.below b3
    obtain ⟨o0', o1', o2', q0', q1', q2', _, _⟩ := id OB4
    go_wp2
    exact bodyPost_ret (v := .agg #[.bool ng, .slice ro (nl N3) rc, .slice so (nl D3) sc]) (by simp [results, Tryd.results23, go_sem, o0', o1', o2']) rfl ⟨ro, rc, so, sc, rfl, hA3.threeB OB4 _ _ _, hB3.threeB OB4 _ _ _, below_three (hb0.trans (b3.mono hb0.size)) (by omega) _ _ _⟩
end Go.Proofs.YtmcnnnmlacpppaaDoor
