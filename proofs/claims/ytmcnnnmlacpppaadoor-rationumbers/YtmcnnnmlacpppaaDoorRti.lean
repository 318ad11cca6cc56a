/- Ratios: Add, Sub, Mul, Div of right ones. (Written by mkrti.py.) -/
import Derived.Test.YtmcnnnmlacpppaaDoorRth
namespace Go.Proofs.YtmcnnnmlacpppaaDoor
open Go.RowKit

theorem B3q.far {w : World} {b g : Nat} {x y z : Value} (h : B3q w b x y z) (hn : b ≠ g) {i : Nat} (a : Value) : B3q (w.setCell ⟨g, i, none⟩ a) b x y z := by
  obtain ⟨c0, c1, c2, f0, f1, f2, no, lt⟩ := h
  refine ⟨by simp [go_sem, c0], by simp [go_sem, c1], by simp [go_sem, c2], by simp [go_sem, f0], by simp [go_sem, f1], by simp [go_sem, f2], fun k hk => ?_, by simpa [World.setCell] using lt⟩
  have := no k hk
  simp [go_sem, this]
theorem rrightq_any (n : Bool) (N D : Nat) (ao bo : Option Addr) (ac bc : Nat) (w : World) (h1 : LRow w ao (lo N)) (h2 : LRow w bo (lo D)) (hT : TabW w) (R : RqB n N D) :
    Calls Tryd.prog 21 #[.agg #[.bool n, .slice ao (nl N) ac, .slice bo (nl D) bc]] w fun e w' => e = .returned (.bool true) ∧ Below w.heap.size w w' := by
  have := rright_any n (lo N) (lo D) ao bo ac bc w h1 h2 (lo_lm _) (lo_lm _) hT
  rw [R.right, lo_length, lo_length] at this
  exact this
set_option maxRecDepth 100000 in
set_option maxHeartbeats 1000000 in
theorem raddr_any (n1 n2 : Bool) (N1 D1 N2 D2 : Nat) (ao1 bo1 ao2 bo2 : Option Addr) (ac1 bc1 ac2 bc2 : Nat) (w : World) (a1 : LS w ao1 ac1 (lo N1)) (b1 : LS w bo1 bc1 (lo D1)) (a2 : LS w ao2 ac2 (lo N2)) (b2 : LS w bo2 bc2 (lo D2)) (hT : TabW w) (R1 : RqB n1 N1 D1) (R2 : RqB n2 N2 D2) :
    Calls Tryd.prog 12 #[.agg #[.bool n1, .slice ao1 (nl N1) ac1, .slice bo1 (nl D1) bc1], .agg #[.bool n2, .slice ao2 (nl N2) ac2, .slice bo2 (nl D2) bc2]] w (GaveR w (nmA (smQ n1 n2 (N1 * D2) (N2 * D1)).1 (smQ n1 n2 (N1 * D2) (N2 * D1)).2 (D1 * D2)).1 (nmA (smQ n1 n2 (N1 * D2) (N2 * D1)).1 (smQ n1 n2 (N1 * D2) (N2 * D1)).2 (D1 * D2)).2) := by
  have AB := ((B3q.new w (.bool n1) (.slice ao1 (nl N1) ac1) (.slice bo1 (nl D1) bc1) 25).alloc (.cells #[.bool n2, .slice ao2 (nl N2) ac2, .slice bo2 (nl D2) bc2] 25)).alloc (.cells #[.bool false, .slice none 0 0, .slice none 0 0] 25)
  have BB := (B3q.new (w.alloc (.cells #[.bool n1, .slice ao1 (nl N1) ac1, .slice bo1 (nl D1) bc1] 25)) (.bool n2) (.slice ao2 (nl N2) ac2) (.slice bo2 (nl D2) bc2) 25).alloc (.cells #[.bool false, .slice none 0 0, .slice none 0 0] 25)
  have OB := B3q.new ((w.alloc (.cells #[.bool n1, .slice ao1 (nl N1) ac1, .slice bo1 (nl D1) bc1] 25)).alloc (.cells #[.bool n2, .slice ao2 (nl N2) ac2, .slice bo2 (nl D2) bc2] 25)) (.bool false) (.slice none 0 0) (.slice none 0 0) 25
  have hs1 : (w.alloc (.cells #[.bool n1, .slice ao1 (nl N1) ac1, .slice bo1 (nl D1) bc1] 25)).heap.size = w.heap.size + 1 := by simp
  have hs2 : ((w.alloc (.cells #[.bool n1, .slice ao1 (nl N1) ac1, .slice bo1 (nl D1) bc1] 25)).alloc (.cells #[.bool n2, .slice ao2 (nl N2) ac2, .slice bo2 (nl D2) bc2] 25)).heap.size = w.heap.size + 1 + 1 := by simp
  rw [hs1] at BB
  rw [hs2] at OB
  have hb0 : Below w.heap.size w (((w.alloc (.cells #[.bool n1, .slice ao1 (nl N1) ac1, .slice bo1 (nl D1) bc1] 25)).alloc (.cells #[.bool n2, .slice ao2 (nl N2) ac2, .slice bo2 (nl D2) bc2] 25)).alloc (.cells #[.bool false, .slice none 0 0, .slice none 0 0] 25)) := (((Below.refl _ _).alloc (Nat.le_refl _) _).alloc (by rw [hs1]; omega) _).alloc (by rw [hs2]; omega) _
  have A1 := a1.below hb0
  have B1 := b1.below hb0
  have A2 := a2.below hb0
  have B2 := b2.below hb0
  have T1 := tabW_below hT hb0
  have HT : Hid (TabW w) := hT
  obtain ⟨o, er, hnm⟩ : ∃ o er, nmA (smQ n1 n2 (N1 * D2) (N2 * D1)).1 (smQ n1 n2 (N1 * D2) (N2 * D1)).2 (D1 * D2) = (o, er) := ⟨_, _, rfl⟩
  rw [hnm]
  have k1 := R1.n
  have k2 := R1.d
  have k3 := R2.n
  have k4 := R2.d
  go_enter Tryd.func12, Tryd.ntmps12
  go_upto_region 1 with fail
  generalize ((w.alloc (.cells #[.bool n1, .slice ao1 (nl N1) ac1, .slice bo1 (nl D1) bc1] 25)).alloc (.cells #[.bool n2, .slice ao2 (nl N2) ac2, .slice bo2 (nl D2) bc2] 25)).alloc (.cells #[.bool false, .slice none 0 0, .slice none 0 0] 25) = W0 at *
  clear hs1 hs2 hT a1 b1 a2 b2
  have u1 : ¬ w.heap.size = w.heap.size + 1 + 1 := by omega
  have u2 : ¬ w.heap.size + 1 + 1 = w.heap.size := by omega
  have u3 : ¬ w.heap.size + 1 = w.heap.size + 1 + 1 := by omega
  have u4 : ¬ w.heap.size + 1 + 1 = w.heap.size + 1 := by omega
  obtain ⟨x0, x1, x2, _, _, _, _, xlt⟩ := id AB
  obtain ⟨y0, y1, y2, _, _, _, _, ylt⟩ := id BB
  obtain ⟨o0, o1, o2, q0, q1, q2, _, olt⟩ := id OB
  have b1d := Below.refl W0.heap.size W0
  have r1 := fun w' (h : Below W0.heap.size W0 w') => rrightq_any n1 N1 D1 ao1 bo1 ac1 bc1 w' (A1.1.below h) (B1.1.below h) (tabW_below T1 h) R1
  have r2 := fun w' (h : Below W0.heap.size W0 w') => rrightq_any n2 N2 D2 ao2 bo2 ac2 bc2 w' (A2.1.below h) (B2.1.below h) (tabW_below T1 h) R2
  go_upto_region 3 with (first | (go_at_call 21; refine (r2 _ b3).mono ?_; rintro e w4 ⟨rfl, hb4⟩; have b4 := b3.trans (hb4.mono b3.size); have AB4 := AB.below b4; have BB4 := BB.below b4; have OB4 := OB.below b4; obtain ⟨x0', x1', x2', _, _, _, _, _⟩ := id AB4; obtain ⟨y0', y1', y2', yf0, yf1, yf2, _, _⟩ := id BB4; obtain ⟨oo0, oo1, oo2, oq0, oq1, oq2, _, _⟩ := id OB4) | (go_at_call 21; refine (r1 _ b1d).mono ?_; rintro e w3 ⟨rfl, b3⟩; have BB3 := BB.below b3; obtain ⟨y0', y1', y2', _, _, _, _, _⟩ := id BB3))
  have cN := raddq_any n1 n2 N1 D1 N2 D2 ao1 bo1 ao2 bo2 ac1 bc1 ac2 bc2 w4 (A1.below b4) (B1.below b4) (A2.below b4) (B2.below b4) (tabW_below T1 b4) k1 k2 k3 k4
  rw [hnm] at cN
  have b6 := b4
  clear hnm r1 r2 x0 x1 x2 y0 y1 y2
  cases o with
  | none =>
    unfold GaveR at cN
    go_wp2_with (go_at_call 41; refine cN.mono ?_; rintro e w7 ⟨rfl, hb7⟩; have b7 := b6.trans (hb7.mono b6.size); have OB7 := OB.below b7; obtain ⟨o0', o1', o2', q0', q1', q2', _, _⟩ := id OB7)
    have b8 := hb0.trans (b7.mono hb0.size)
    exact bodyPost_ret (v := .tuple #[.agg #[.bool false, .slice none 0 0, .slice none 0 0], .int .i64 er]) (by simp [results, Tryd.results12, go_sem, o0', o1', o2']) rfl ⟨rfl, below_three b8 (by omega) _ _ _⟩
  | some r =>
    obtain ⟨ng, N3, D3⟩ := r
    unfold GaveR at cN
    go_wp2_with (go_at_call 41; refine cN.mono ?_; rintro e w7 ⟨ro, rc, so, sc, rfl, hA3, hB3, hb7⟩; have b7 := b6.trans (hb7.mono b6.size); have OB7 := OB.below b7; obtain ⟨o0', o1', o2', q0', q1', q2', _, _⟩ := id OB7)
    have b8 := hb0.trans (b7.mono hb0.size)
    exact bodyPost_ret (v := .tuple #[.agg #[.bool ng, .slice ro (nl N3) rc, .slice so (nl D3) sc], .int .i64 0]) (by simp [results, Tryd.results12, go_sem, o0', o1', o2']) rfl ⟨ro, rc, so, sc, rfl, hA3.threeB OB7 _ _ _, hB3.threeB OB7 _ _ _, below_three b8 (by omega) _ _ _⟩
set_option maxRecDepth 100000 in
set_option maxHeartbeats 1000000 in
theorem rsubr_any (n1 n2 : Bool) (N1 D1 N2 D2 : Nat) (ao1 bo1 ao2 bo2 : Option Addr) (ac1 bc1 ac2 bc2 : Nat) (w : World) (a1 : LS w ao1 ac1 (lo N1)) (b1 : LS w bo1 bc1 (lo D1)) (a2 : LS w ao2 ac2 (lo N2)) (b2 : LS w bo2 bc2 (lo D2)) (hT : TabW w) (R1 : RqB n1 N1 D1) (R2 : RqB n2 N2 D2) :
    Calls Tryd.prog 26 #[.agg #[.bool n1, .slice ao1 (nl N1) ac1, .slice bo1 (nl D1) bc1], .agg #[.bool n2, .slice ao2 (nl N2) ac2, .slice bo2 (nl D2) bc2]] w (GaveR w (nmA (smQ n1 (!n2) (N1 * D2) (N2 * D1)).1 (smQ n1 (!n2) (N1 * D2) (N2 * D1)).2 (D1 * D2)).1 (nmA (smQ n1 (!n2) (N1 * D2) (N2 * D1)).1 (smQ n1 (!n2) (N1 * D2) (N2 * D1)).2 (D1 * D2)).2) := by
  have AB := ((B3q.new w (.bool n1) (.slice ao1 (nl N1) ac1) (.slice bo1 (nl D1) bc1) 25).alloc (.cells #[.bool n2, .slice ao2 (nl N2) ac2, .slice bo2 (nl D2) bc2] 25)).alloc (.cells #[.bool false, .slice none 0 0, .slice none 0 0] 25)
  have BB := (B3q.new (w.alloc (.cells #[.bool n1, .slice ao1 (nl N1) ac1, .slice bo1 (nl D1) bc1] 25)) (.bool n2) (.slice ao2 (nl N2) ac2) (.slice bo2 (nl D2) bc2) 25).alloc (.cells #[.bool false, .slice none 0 0, .slice none 0 0] 25)
  have OB := B3q.new ((w.alloc (.cells #[.bool n1, .slice ao1 (nl N1) ac1, .slice bo1 (nl D1) bc1] 25)).alloc (.cells #[.bool n2, .slice ao2 (nl N2) ac2, .slice bo2 (nl D2) bc2] 25)) (.bool false) (.slice none 0 0) (.slice none 0 0) 25
  have hs1 : (w.alloc (.cells #[.bool n1, .slice ao1 (nl N1) ac1, .slice bo1 (nl D1) bc1] 25)).heap.size = w.heap.size + 1 := by simp
  have hs2 : ((w.alloc (.cells #[.bool n1, .slice ao1 (nl N1) ac1, .slice bo1 (nl D1) bc1] 25)).alloc (.cells #[.bool n2, .slice ao2 (nl N2) ac2, .slice bo2 (nl D2) bc2] 25)).heap.size = w.heap.size + 1 + 1 := by simp
  rw [hs1] at BB
  rw [hs2] at OB
  have hb0 : Below w.heap.size w (((w.alloc (.cells #[.bool n1, .slice ao1 (nl N1) ac1, .slice bo1 (nl D1) bc1] 25)).alloc (.cells #[.bool n2, .slice ao2 (nl N2) ac2, .slice bo2 (nl D2) bc2] 25)).alloc (.cells #[.bool false, .slice none 0 0, .slice none 0 0] 25)) := (((Below.refl _ _).alloc (Nat.le_refl _) _).alloc (by rw [hs1]; omega) _).alloc (by rw [hs2]; omega) _
  have A1 := a1.below hb0
  have B1 := b1.below hb0
  have A2 := a2.below hb0
  have B2 := b2.below hb0
  have T1 := tabW_below hT hb0
  have HT : Hid (TabW w) := hT
  obtain ⟨o, er, hnm⟩ : ∃ o er, nmA (smQ n1 (!n2) (N1 * D2) (N2 * D1)).1 (smQ n1 (!n2) (N1 * D2) (N2 * D1)).2 (D1 * D2) = (o, er) := ⟨_, _, rfl⟩
  rw [hnm]
  have k1 := R1.n
  have k2 := R1.d
  have k3 := R2.n
  have k4 := R2.d
  go_enter Tryd.func26, Tryd.ntmps26
  go_upto_region 1 with fail
  generalize ((w.alloc (.cells #[.bool n1, .slice ao1 (nl N1) ac1, .slice bo1 (nl D1) bc1] 25)).alloc (.cells #[.bool n2, .slice ao2 (nl N2) ac2, .slice bo2 (nl D2) bc2] 25)).alloc (.cells #[.bool false, .slice none 0 0, .slice none 0 0] 25) = W0 at *
  clear hs1 hs2 hT a1 b1 a2 b2
  have u1 : ¬ w.heap.size = w.heap.size + 1 + 1 := by omega
  have u2 : ¬ w.heap.size + 1 + 1 = w.heap.size := by omega
  have u3 : ¬ w.heap.size + 1 = w.heap.size + 1 + 1 := by omega
  have u4 : ¬ w.heap.size + 1 + 1 = w.heap.size + 1 := by omega
  obtain ⟨x0, x1, x2, _, _, _, _, xlt⟩ := id AB
  obtain ⟨y0, y1, y2, _, _, _, _, ylt⟩ := id BB
  obtain ⟨o0, o1, o2, q0, q1, q2, _, olt⟩ := id OB
  have b1d := Below.refl W0.heap.size W0
  have r1 := fun w' (h : Below W0.heap.size W0 w') => rrightq_any n1 N1 D1 ao1 bo1 ac1 bc1 w' (A1.1.below h) (B1.1.below h) (tabW_below T1 h) R1
  have r2 := fun w' (h : Below W0.heap.size W0 w') => rrightq_any n2 N2 D2 ao2 bo2 ac2 bc2 w' (A2.1.below h) (B2.1.below h) (tabW_below T1 h) R2
  go_upto_region 4 with (first | (go_at_call 21; refine (r2 _ b3).mono ?_; rintro e w4 ⟨rfl, hb4⟩; have b4 := b3.trans (hb4.mono b3.size); have AB4 := AB.below b4; have BB4 := BB.below b4; have OB4 := OB.below b4; obtain ⟨x0', x1', x2', _, _, _, _, _⟩ := id AB4; obtain ⟨y0', y1', y2', yf0, yf1, yf2, _, _⟩ := id BB4; obtain ⟨oo0, oo1, oo2, oq0, oq1, oq2, _, _⟩ := id OB4) | (go_at_call 21; refine (r1 _ b1d).mono ?_; rintro e w3 ⟨rfl, b3⟩; have BB3 := BB.below b3; obtain ⟨y0', y1', y2', _, _, _, _, _⟩ := id BB3))
  have hL : ∀ {ao : Option Addr} {cap : Nat} {xs : List Nat}, LS w4 ao cap xs → LS (w4.setCell ⟨w.heap.size + 1, 0, none⟩ (.bool !n2)) ao cap xs := fun h => h.boxed BB4 0 _
  have BB5 := BB4.set0 (.bool !n2)
  have b6 : Below w.heap.size w (w4.setCell ⟨w.heap.size + 1, 0, none⟩ (.bool !n2)) := (hb0.trans (b4.mono hb0.size)).setCell (p := ⟨w.heap.size + 1, 0, none⟩) (by show w.heap.size ≤ w.heap.size + 1; omega) _
  have cN := raddq_any n1 (!n2) N1 D1 N2 D2 ao1 bo1 ao2 bo2 ac1 bc1 ac2 bc2 (w4.setCell ⟨w.heap.size + 1, 0, none⟩ (.bool !n2)) (hL (A1.below b4)) (hL (B1.below b4)) (hL (A2.below b4)) (hL (B2.below b4)) (tabW_below HT.out b6) k1 k2 k3 k4
  rw [hnm] at cN
  have AB5 : B3q (w4.setCell ⟨w.heap.size + 1, 0, none⟩ (.bool !n2)) w.heap.size (.bool n1) (.slice ao1 (nl N1) ac1) (.slice bo1 (nl D1) bc1) := AB4.far (by omega) _
  have OB5 : B3q (w4.setCell ⟨w.heap.size + 1, 0, none⟩ (.bool !n2)) (w.heap.size + 1 + 1) (.bool false) (.slice none 0 0) (.slice none 0 0) := OB4.far (by omega) _
  generalize w4.setCell ⟨w.heap.size + 1, 0, none⟩ (.bool !n2) = W5 at *
  clear hnm r1 r2 x0 x1 x2 y0 y1 y2 x0' x1' x2' y0' y1' y2' oo0 oo1 oo2
  obtain ⟨x0, x1, x2, _, _, _, _, _⟩ := id AB5
  obtain ⟨y0, y1, y2, _, _, _, _, _⟩ := id BB5
  cases o with
  | none =>
    unfold GaveR at cN
    go_wp2_with (go_at_call 41; refine cN.mono ?_; rintro e w7 ⟨rfl, hb7⟩; have b7 := b6.trans (hb7.mono b6.size); have OB7 := OB5.below hb7; obtain ⟨o0', o1', o2', q0', q1', q2', _, _⟩ := id OB7)
    have b8 := b7
    exact bodyPost_ret (v := .tuple #[.agg #[.bool false, .slice none 0 0, .slice none 0 0], .int .i64 er]) (by simp [results, Tryd.results26, go_sem, o0', o1', o2']) rfl ⟨rfl, below_three b8 (by omega) _ _ _⟩
  | some r =>
    obtain ⟨ng, N3, D3⟩ := r
    unfold GaveR at cN
    go_wp2_with (go_at_call 41; refine cN.mono ?_; rintro e w7 ⟨ro, rc, so, sc, rfl, hA3, hB3, hb7⟩; have b7 := b6.trans (hb7.mono b6.size); have OB7 := OB5.below hb7; obtain ⟨o0', o1', o2', q0', q1', q2', _, _⟩ := id OB7)
    have b8 := b7
    exact bodyPost_ret (v := .tuple #[.agg #[.bool ng, .slice ro (nl N3) rc, .slice so (nl D3) sc], .int .i64 0]) (by simp [results, Tryd.results26, go_sem, o0', o1', o2']) rfl ⟨ro, rc, so, sc, rfl, hA3.threeB OB7 _ _ _, hB3.threeB OB7 _ _ _, below_three b8 (by omega) _ _ _⟩
set_option maxRecDepth 100000 in
set_option maxHeartbeats 1000000 in
theorem rmulr_any (n1 n2 : Bool) (N1 D1 N2 D2 : Nat) (ao1 bo1 ao2 bo2 : Option Addr) (ac1 bc1 ac2 bc2 : Nat) (w : World) (a1 : LS w ao1 ac1 (lo N1)) (b1 : LS w bo1 bc1 (lo D1)) (a2 : LS w ao2 ac2 (lo N2)) (b2 : LS w bo2 bc2 (lo D2)) (hT : TabW w) (R1 : RqB n1 N1 D1) (R2 : RqB n2 N2 D2) :
    Calls Tryd.prog 24 #[.agg #[.bool n1, .slice ao1 (nl N1) ac1, .slice bo1 (nl D1) bc1], .agg #[.bool n2, .slice ao2 (nl N2) ac2, .slice bo2 (nl D2) bc2]] w (GaveR w (nmA (n1 != n2) (N1 * N2) (D1 * D2)).1 (nmA (n1 != n2) (N1 * N2) (D1 * D2)).2) := by
  have AB := ((B3q.new w (.bool n1) (.slice ao1 (nl N1) ac1) (.slice bo1 (nl D1) bc1) 25).alloc (.cells #[.bool n2, .slice ao2 (nl N2) ac2, .slice bo2 (nl D2) bc2] 25)).alloc (.cells #[.bool false, .slice none 0 0, .slice none 0 0] 25)
  have BB := (B3q.new (w.alloc (.cells #[.bool n1, .slice ao1 (nl N1) ac1, .slice bo1 (nl D1) bc1] 25)) (.bool n2) (.slice ao2 (nl N2) ac2) (.slice bo2 (nl D2) bc2) 25).alloc (.cells #[.bool false, .slice none 0 0, .slice none 0 0] 25)
  have OB := B3q.new ((w.alloc (.cells #[.bool n1, .slice ao1 (nl N1) ac1, .slice bo1 (nl D1) bc1] 25)).alloc (.cells #[.bool n2, .slice ao2 (nl N2) ac2, .slice bo2 (nl D2) bc2] 25)) (.bool false) (.slice none 0 0) (.slice none 0 0) 25
  have hs1 : (w.alloc (.cells #[.bool n1, .slice ao1 (nl N1) ac1, .slice bo1 (nl D1) bc1] 25)).heap.size = w.heap.size + 1 := by simp
  have hs2 : ((w.alloc (.cells #[.bool n1, .slice ao1 (nl N1) ac1, .slice bo1 (nl D1) bc1] 25)).alloc (.cells #[.bool n2, .slice ao2 (nl N2) ac2, .slice bo2 (nl D2) bc2] 25)).heap.size = w.heap.size + 1 + 1 := by simp
  rw [hs1] at BB
  rw [hs2] at OB
  have hb0 : Below w.heap.size w (((w.alloc (.cells #[.bool n1, .slice ao1 (nl N1) ac1, .slice bo1 (nl D1) bc1] 25)).alloc (.cells #[.bool n2, .slice ao2 (nl N2) ac2, .slice bo2 (nl D2) bc2] 25)).alloc (.cells #[.bool false, .slice none 0 0, .slice none 0 0] 25)) := (((Below.refl _ _).alloc (Nat.le_refl _) _).alloc (by rw [hs1]; omega) _).alloc (by rw [hs2]; omega) _
  have A1 := a1.below hb0
  have B1 := b1.below hb0
  have A2 := a2.below hb0
  have B2 := b2.below hb0
  have T1 := tabW_below hT hb0
  have HT : Hid (TabW w) := hT
  obtain ⟨o, er, hnm⟩ : ∃ o er, nmA (n1 != n2) (N1 * N2) (D1 * D2) = (o, er) := ⟨_, _, rfl⟩
  rw [hnm]
  have k1 := R1.n
  have k2 := R1.d
  have k3 := R2.n
  have k4 := R2.d
  go_enter Tryd.func24, Tryd.ntmps24
  go_upto_region 1 with fail
  generalize ((w.alloc (.cells #[.bool n1, .slice ao1 (nl N1) ac1, .slice bo1 (nl D1) bc1] 25)).alloc (.cells #[.bool n2, .slice ao2 (nl N2) ac2, .slice bo2 (nl D2) bc2] 25)).alloc (.cells #[.bool false, .slice none 0 0, .slice none 0 0] 25) = W0 at *
  clear hs1 hs2 hT a1 b1 a2 b2
  have u1 : ¬ w.heap.size = w.heap.size + 1 + 1 := by omega
  have u2 : ¬ w.heap.size + 1 + 1 = w.heap.size := by omega
  have u3 : ¬ w.heap.size + 1 = w.heap.size + 1 + 1 := by omega
  have u4 : ¬ w.heap.size + 1 + 1 = w.heap.size + 1 := by omega
  obtain ⟨x0, x1, x2, _, _, _, _, xlt⟩ := id AB
  obtain ⟨y0, y1, y2, _, _, _, _, ylt⟩ := id BB
  obtain ⟨o0, o1, o2, q0, q1, q2, _, olt⟩ := id OB
  have b1d := Below.refl W0.heap.size W0
  have r1 := fun w' (h : Below W0.heap.size W0 w') => rrightq_any n1 N1 D1 ao1 bo1 ac1 bc1 w' (A1.1.below h) (B1.1.below h) (tabW_below T1 h) R1
  have r2 := fun w' (h : Below W0.heap.size W0 w') => rrightq_any n2 N2 D2 ao2 bo2 ac2 bc2 w' (A2.1.below h) (B2.1.below h) (tabW_below T1 h) R2
  go_upto_region 3 with (first | (go_at_call 21; refine (r2 _ b3).mono ?_; rintro e w4 ⟨rfl, hb4⟩; have b4 := b3.trans (hb4.mono b3.size); have AB4 := AB.below b4; have BB4 := BB.below b4; have OB4 := OB.below b4; obtain ⟨x0', x1', x2', _, _, _, _, _⟩ := id AB4; obtain ⟨y0', y1', y2', yf0, yf1, yf2, _, _⟩ := id BB4; obtain ⟨oo0, oo1, oo2, oq0, oq1, oq2, _, _⟩ := id OB4) | (go_at_call 21; refine (r1 _ b1d).mono ?_; rintro e w3 ⟨rfl, b3⟩; have BB3 := BB.below b3; obtain ⟨y0', y1', y2', _, _, _, _, _⟩ := id BB3))
  have cN := rmulq_any n1 n2 N1 D1 N2 D2 ao1 bo1 ao2 bo2 ac1 bc1 ac2 bc2 w4 (A1.below b4) (B1.below b4) (A2.below b4) (B2.below b4) (tabW_below T1 b4) k1 k2 k3 k4
  rw [hnm] at cN
  have b6 := b4
  clear hnm r1 r2 x0 x1 x2 y0 y1 y2
  cases o with
  | none =>
    unfold GaveR at cN
    go_wp2_with (go_at_call 42; refine cN.mono ?_; rintro e w7 ⟨rfl, hb7⟩; have b7 := b6.trans (hb7.mono b6.size); have OB7 := OB.below b7; obtain ⟨o0', o1', o2', q0', q1', q2', _, _⟩ := id OB7)
    have b8 := hb0.trans (b7.mono hb0.size)
    exact bodyPost_ret (v := .tuple #[.agg #[.bool false, .slice none 0 0, .slice none 0 0], .int .i64 er]) (by simp [results, Tryd.results24, go_sem, o0', o1', o2']) rfl ⟨rfl, below_three b8 (by omega) _ _ _⟩
  | some r =>
    obtain ⟨ng, N3, D3⟩ := r
    unfold GaveR at cN
    go_wp2_with (go_at_call 42; refine cN.mono ?_; rintro e w7 ⟨ro, rc, so, sc, rfl, hA3, hB3, hb7⟩; have b7 := b6.trans (hb7.mono b6.size); have OB7 := OB.below b7; obtain ⟨o0', o1', o2', q0', q1', q2', _, _⟩ := id OB7)
    have b8 := hb0.trans (b7.mono hb0.size)
    exact bodyPost_ret (v := .tuple #[.agg #[.bool ng, .slice ro (nl N3) rc, .slice so (nl D3) sc], .int .i64 0]) (by simp [results, Tryd.results24, go_sem, o0', o1', o2']) rfl ⟨ro, rc, so, sc, rfl, hA3.threeB OB7 _ _ _, hB3.threeB OB7 _ _ _, below_three b8 (by omega) _ _ _⟩
end Go.Proofs.YtmcnnnmlacpppaaDoor
