/- Ratios: Div, Sign, Cmp of right ones. (Written by mkrtj.py.) -/
import Derived.Test.YtmcnnnmlacpppaaDoorRti
namespace Go.Proofs.YtmcnnnmlacpppaaDoor
open Go.RowKit

theorem B3q.set2 {w : World} {g : Nat} {x y z : Value} (h : B3q w g x y z) (a : Value) : B3q (w.setCell ⟨g, 2, none⟩ a) g x y a := by
  obtain ⟨c0, c1, c2, f0, f1, f2, no, lt⟩ := h
  refine ⟨by go_simp, by go_simp, by go_simp, by go_simp, by go_simp, by go_simp, fun k hk => ?_, by simpa [World.setCell] using lt⟩
  have := no k hk
  simp [go_sem, this]
set_option maxRecDepth 100000 in
set_option maxHeartbeats 1000000 in
theorem rdivr_any (n1 n2 : Bool) (N1 D1 N2 D2 : Nat) (ao1 bo1 ao2 bo2 : Option Addr) (ac1 bc1 ac2 bc2 : Nat) (w : World) (a1 : LS w ao1 ac1 (lo N1)) (b1 : LS w bo1 bc1 (lo D1)) (a2 : LS w ao2 ac2 (lo N2)) (b2 : LS w bo2 bc2 (lo D2)) (hT : TabW w) (R1 : RqB n1 N1 D1) (R2 : RqB n2 N2 D2) (hN2 : N2 ≠ 0) :
    Calls Tryd.prog 13 #[.agg #[.bool n1, .slice ao1 (nl N1) ac1, .slice bo1 (nl D1) bc1], .agg #[.bool n2, .slice ao2 (nl N2) ac2, .slice bo2 (nl D2) bc2]] w (GaveR w (nmA (n1 != n2) (N1 * D2) (D1 * N2)).1 (nmA (n1 != n2) (N1 * D2) (D1 * N2)).2) := by
  have AB := ((B3q.new w (.bool n1) (.slice ao1 (nl N1) ac1) (.slice bo1 (nl D1) bc1) 25).alloc (.cells #[.bool n2, .slice ao2 (nl N2) ac2, .slice bo2 (nl D2) bc2] 25)).alloc (.cells #[.bool false, .slice none 0 0, .slice none 0 0] 25)
  have BB := (B3q.new (w.alloc (.cells #[.bool n1, .slice ao1 (nl N1) ac1, .slice bo1 (nl D1) bc1] 25)) (.bool n2) (.slice ao2 (nl N2) ac2) (.slice bo2 (nl D2) bc2) 25).alloc (.cells #[.bool false, .slice none 0 0, .slice none 0 0] 25)
  have OB := B3q.new ((w.alloc (.cells #[.bool n1, .slice ao1 (nl N1) ac1, .slice bo1 (nl D1) bc1] 25)).alloc (.cells #[.bool n2, .slice ao2 (nl N2) ac2, .slice bo2 (nl D2) bc2] 25)) (.bool false) (.slice none 0 0) (.slice none 0 0) 25
  have hs1 : (w.alloc (.cells #[.bool n1, .slice ao1 (nl N1) ac1, .slice bo1 (nl D1) bc1] 25)).heap.size = w.heap.size + 1 := by simp
  have hs2 : ((w.alloc (.cells #[.bool n1, .slice ao1 (nl N1) ac1, .slice bo1 (nl D1) bc1] 25)).alloc (.cells #[.bool n2, .slice ao2 (nl N2) ac2, .slice bo2 (nl D2) bc2] 25)).heap.size = w.heap.size + 1 + 1 := by simp
  rw [hs1] at BB
  rw [hs2] at OB
  have hb0 : Below w.heap.size w (((w.alloc (.cells #[.bool n1, .slice ao1 (nl N1) ac1, .slice bo1 (nl D1) bc1] 25)).alloc (.cells #[.bool n2, .slice ao2 (nl N2) ac2, .slice bo2 (nl D2) bc2] 25)).alloc (.cells #[.bool false, .slice none 0 0, .slice none 0 0] 25)) := (((Below.refl _ _).alloc (Nat.le_refl _) _).alloc (by rw [hs1]; omega) _).alloc (by rw [hs2]; omega) _
  have A1 := a1.below hb0
  have B1 := b1.below hb0
  have A2 := a2.below hb0
  have B2 := b2.below hb0
  have T1 := tabW_below hT hb0
  have HT : Hid (TabW w) := hT
  obtain ⟨o, er, hnm⟩ : ∃ o er, nmA (n1 != n2) (N1 * D2) (D1 * N2) = (o, er) := ⟨_, _, rfl⟩
  rw [hnm]
  have k1 := R1.n
  have k2 := R1.d
  have k3 := R2.n
  have k4 := R2.d
  go_enter Tryd.func13, Tryd.ntmps13
  go_upto_region 1 with fail
  generalize ((w.alloc (.cells #[.bool n1, .slice ao1 (nl N1) ac1, .slice bo1 (nl D1) bc1] 25)).alloc (.cells #[.bool n2, .slice ao2 (nl N2) ac2, .slice bo2 (nl D2) bc2] 25)).alloc (.cells #[.bool false, .slice none 0 0, .slice none 0 0] 25) = W0 at *
  clear hs1 hs2 hT a1 b1 a2 b2
  have u1 : ¬ w.heap.size = w.heap.size + 1 + 1 := by omega
  have u2 : ¬ w.heap.size + 1 + 1 = w.heap.size := by omega
  have u3 : ¬ w.heap.size + 1 = w.heap.size + 1 + 1 := by omega
  have u4 : ¬ w.heap.size + 1 + 1 = w.heap.size + 1 := by omega
  obtain ⟨x0, x1, x2, _, _, _, _, xlt⟩ := id AB
  obtain ⟨y0, y1, y2, _, _, _, _, ylt⟩ := id BB
  obtain ⟨o0, o1, o2, q0, q1, q2, _, olt⟩ := id OB
  have b1d := Below.refl W0.heap.size W0
  have r1 := fun w' (h : Below W0.heap.size W0 w') => rrightq_any n1 N1 D1 ao1 bo1 ac1 bc1 w' (A1.1.below h) (B1.1.below h) (tabW_below T1 h) R1
  have r2 := fun w' (h : Below W0.heap.size W0 w') => rrightq_any n2 N2 D2 ao2 bo2 ac2 bc2 w' (A2.1.below h) (B2.1.below h) (tabW_below T1 h) R2
  have z2 : ((nl N2 : Int) == 0) = false := by have := nlR_pos hN2; rw [beq_eq_false_iff_ne]; omega
  go_upto_region 7 with (first | (go_at_call 21; refine (r2 _ b3).mono ?_; rintro e w4 ⟨rfl, hb4⟩; have b4 := b3.trans (hb4.mono b3.size); have AB4 := AB.below b4; have BB4 := BB.below b4; have OB4 := OB.below b4; obtain ⟨x0', x1', x2', _, _, _, _, _⟩ := id AB4; obtain ⟨y0', y1', y2', yf0, yf1, yf2, _, _⟩ := id BB4; obtain ⟨oo0, oo1, oo2, oq0, oq1, oq2, _, _⟩ := id OB4) | (go_at_call 21; refine (r1 _ b1d).mono ?_; rintro e w3 ⟨rfl, b3⟩; have BB3 := BB.below b3; obtain ⟨y0', y1', y2', _, _, _, _, _⟩ := id BB3))
  have BB5 := (BB4.set1 (.slice bo2 (nl D2) bc2)).set2 (.slice ao2 (nl N2) ac2)
  have hL : ∀ {ao : Option Addr} {cap : Nat} {xs : List Nat}, LS w4 ao cap xs → LS ((w4.setCell ⟨w.heap.size + 1, 1, none⟩ (.slice bo2 (nl D2) bc2)).setCell ⟨w.heap.size + 1, 2, none⟩ (.slice ao2 (nl N2) ac2)) ao cap xs := fun h => (h.boxed BB4 1 _).boxed (BB4.set1 (.slice bo2 (nl D2) bc2)) 2 _
  have b6 : Below w.heap.size w ((w4.setCell ⟨w.heap.size + 1, 1, none⟩ (.slice bo2 (nl D2) bc2)).setCell ⟨w.heap.size + 1, 2, none⟩ (.slice ao2 (nl N2) ac2)) := ((hb0.trans (b4.mono hb0.size)).setCell (p := ⟨w.heap.size + 1, 1, none⟩) (by show w.heap.size ≤ w.heap.size + 1; omega) _).setCell (p := ⟨w.heap.size + 1, 2, none⟩) (by show w.heap.size ≤ w.heap.size + 1; omega) _
  have cN := rmulq_any n1 n2 N1 D1 D2 N2 ao1 bo1 bo2 ao2 ac1 bc1 bc2 ac2 ((w4.setCell ⟨w.heap.size + 1, 1, none⟩ (.slice bo2 (nl D2) bc2)).setCell ⟨w.heap.size + 1, 2, none⟩ (.slice ao2 (nl N2) ac2)) (hL (A1.below b4)) (hL (B1.below b4)) (hL (B2.below b4)) (hL (A2.below b4)) (tabW_below HT.out b6) k1 k2 k4 k3
  rw [hnm] at cN
  have AB5 : B3q ((w4.setCell ⟨w.heap.size + 1, 1, none⟩ (.slice bo2 (nl D2) bc2)).setCell ⟨w.heap.size + 1, 2, none⟩ (.slice ao2 (nl N2) ac2)) w.heap.size (.bool n1) (.slice ao1 (nl N1) ac1) (.slice bo1 (nl D1) bc1) := (AB4.far (by omega) _).far (by omega) _
  have OB5 : B3q ((w4.setCell ⟨w.heap.size + 1, 1, none⟩ (.slice bo2 (nl D2) bc2)).setCell ⟨w.heap.size + 1, 2, none⟩ (.slice ao2 (nl N2) ac2)) (w.heap.size + 1 + 1) (.bool false) (.slice none 0 0) (.slice none 0 0) := (OB4.far (by omega) _).far (by omega) _
  generalize (w4.setCell ⟨w.heap.size + 1, 1, none⟩ (.slice bo2 (nl D2) bc2)).setCell ⟨w.heap.size + 1, 2, none⟩ (.slice ao2 (nl N2) ac2) = W5 at *
  clear hnm r1 r2 x0 x1 x2 y0 y1 y2 x0' x1' x2' y0' y1' y2' oo0 oo1 oo2
  obtain ⟨x0, x1, x2, _, _, _, _, _⟩ := id AB5
  obtain ⟨y0, y1, y2, _, _, _, _, _⟩ := id BB5
  cases o with
  | none =>
    unfold GaveR at cN
    go_wp2_with (go_at_call 42; refine cN.mono ?_; rintro e w7 ⟨rfl, hb7⟩; have b7 := b6.trans (hb7.mono b6.size); have OB7 := OB5.below hb7; obtain ⟨o0', o1', o2', q0', q1', q2', _, _⟩ := id OB7)
    have b8 := b7
    exact bodyPost_ret (v := .tuple #[.agg #[.bool false, .slice none 0 0, .slice none 0 0], .int .i64 er]) (by simp [results, Tryd.results13, go_sem, o0', o1', o2']) rfl ⟨rfl, below_three b8 (by omega) _ _ _⟩
  | some r =>
    obtain ⟨ng, N3, D3⟩ := r
    unfold GaveR at cN
    go_wp2_with (go_at_call 42; refine cN.mono ?_; rintro e w7 ⟨ro, rc, so, sc, rfl, hA3, hB3, hb7⟩; have b7 := b6.trans (hb7.mono b6.size); have OB7 := OB5.below hb7; obtain ⟨o0', o1', o2', q0', q1', q2', _, _⟩ := id OB7)
    have b8 := b7
    exact bodyPost_ret (v := .tuple #[.agg #[.bool ng, .slice ro (nl N3) rc, .slice so (nl D3) sc], .int .i64 0]) (by simp [results, Tryd.results13, go_sem, o0', o1', o2']) rfl ⟨ro, rc, so, sc, rfl, hA3.threeB OB7 _ _ _, hB3.threeB OB7 _ _ _, below_three b8 (by omega) _ _ _⟩
set_option maxRecDepth 100000 in
set_option maxHeartbeats 1000000 in
theorem rdivz_any (n1 n2 : Bool) (N1 D1 N2 D2 : Nat) (ao1 bo1 ao2 bo2 : Option Addr) (ac1 bc1 ac2 bc2 : Nat) (w : World) (a1 : LS w ao1 ac1 (lo N1)) (b1 : LS w bo1 bc1 (lo D1)) (a2 : LS w ao2 ac2 (lo N2)) (b2 : LS w bo2 bc2 (lo D2)) (hT : TabW w) (R1 : RqB n1 N1 D1) (R2 : RqB n2 N2 D2) (hN2 : N2 = 0) :
    Calls Tryd.prog 13 #[.agg #[.bool n1, .slice ao1 (nl N1) ac1, .slice bo1 (nl D1) bc1], .agg #[.bool n2, .slice ao2 (nl N2) ac2, .slice bo2 (nl D2) bc2]] w (GaveR w none 7) := by
  have AB := ((B3q.new w (.bool n1) (.slice ao1 (nl N1) ac1) (.slice bo1 (nl D1) bc1) 25).alloc (.cells #[.bool n2, .slice ao2 (nl N2) ac2, .slice bo2 (nl D2) bc2] 25)).alloc (.cells #[.bool false, .slice none 0 0, .slice none 0 0] 25)
  have BB := (B3q.new (w.alloc (.cells #[.bool n1, .slice ao1 (nl N1) ac1, .slice bo1 (nl D1) bc1] 25)) (.bool n2) (.slice ao2 (nl N2) ac2) (.slice bo2 (nl D2) bc2) 25).alloc (.cells #[.bool false, .slice none 0 0, .slice none 0 0] 25)
  have OB := B3q.new ((w.alloc (.cells #[.bool n1, .slice ao1 (nl N1) ac1, .slice bo1 (nl D1) bc1] 25)).alloc (.cells #[.bool n2, .slice ao2 (nl N2) ac2, .slice bo2 (nl D2) bc2] 25)) (.bool false) (.slice none 0 0) (.slice none 0 0) 25
  have hs1 : (w.alloc (.cells #[.bool n1, .slice ao1 (nl N1) ac1, .slice bo1 (nl D1) bc1] 25)).heap.size = w.heap.size + 1 := by simp
  have hs2 : ((w.alloc (.cells #[.bool n1, .slice ao1 (nl N1) ac1, .slice bo1 (nl D1) bc1] 25)).alloc (.cells #[.bool n2, .slice ao2 (nl N2) ac2, .slice bo2 (nl D2) bc2] 25)).heap.size = w.heap.size + 1 + 1 := by simp
  rw [hs1] at BB
  rw [hs2] at OB
  have hb0 : Below w.heap.size w (((w.alloc (.cells #[.bool n1, .slice ao1 (nl N1) ac1, .slice bo1 (nl D1) bc1] 25)).alloc (.cells #[.bool n2, .slice ao2 (nl N2) ac2, .slice bo2 (nl D2) bc2] 25)).alloc (.cells #[.bool false, .slice none 0 0, .slice none 0 0] 25)) := (((Below.refl _ _).alloc (Nat.le_refl _) _).alloc (by rw [hs1]; omega) _).alloc (by rw [hs2]; omega) _
  have A1 := a1.below hb0
  have B1 := b1.below hb0
  have A2 := a2.below hb0
  have B2 := b2.below hb0
  have T1 := tabW_below hT hb0
  have HT : Hid (TabW w) := hT
  have z2 : ((nl N2 : Int) == 0) = true := by rw [hN2]; rfl
  clear hN2
  unfold GaveR
  have k1 := R1.n
  have k2 := R1.d
  have k3 := R2.n
  have k4 := R2.d
  go_enter Tryd.func13, Tryd.ntmps13
  go_upto_region 1 with fail
  generalize ((w.alloc (.cells #[.bool n1, .slice ao1 (nl N1) ac1, .slice bo1 (nl D1) bc1] 25)).alloc (.cells #[.bool n2, .slice ao2 (nl N2) ac2, .slice bo2 (nl D2) bc2] 25)).alloc (.cells #[.bool false, .slice none 0 0, .slice none 0 0] 25) = W0 at *
  clear hs1 hs2 hT a1 b1 a2 b2
  have u1 : ¬ w.heap.size = w.heap.size + 1 + 1 := by omega
  have u2 : ¬ w.heap.size + 1 + 1 = w.heap.size := by omega
  have u3 : ¬ w.heap.size + 1 = w.heap.size + 1 + 1 := by omega
  have u4 : ¬ w.heap.size + 1 + 1 = w.heap.size + 1 := by omega
  obtain ⟨x0, x1, x2, _, _, _, _, xlt⟩ := id AB
  obtain ⟨y0, y1, y2, _, _, _, _, ylt⟩ := id BB
  obtain ⟨o0, o1, o2, q0, q1, q2, _, olt⟩ := id OB
  have b1d := Below.refl W0.heap.size W0
  have r1 := fun w' (h : Below W0.heap.size W0 w') => rrightq_any n1 N1 D1 ao1 bo1 ac1 bc1 w' (A1.1.below h) (B1.1.below h) (tabW_below T1 h) R1
  have r2 := fun w' (h : Below W0.heap.size W0 w') => rrightq_any n2 N2 D2 ao2 bo2 ac2 bc2 w' (A2.1.below h) (B2.1.below h) (tabW_below T1 h) R2
  go_wp2_with (first | (go_at_call 21; refine (r2 _ b3).mono ?_; rintro e w4 ⟨rfl, hb4⟩; have b4 := b3.trans (hb4.mono b3.size); have AB4 := AB.below b4; have BB4 := BB.below b4; have OB4 := OB.below b4; obtain ⟨x0', x1', x2', _, _, _, _, _⟩ := id AB4; obtain ⟨y0', y1', y2', yf0, yf1, yf2, _, _⟩ := id BB4; obtain ⟨oo0, oo1, oo2, oq0, oq1, oq2, _, _⟩ := id OB4) | (go_at_call 21; refine (r1 _ b1d).mono ?_; rintro e w3 ⟨rfl, b3⟩; have BB3 := BB.below b3; obtain ⟨y0', y1', y2', _, _, _, _, _⟩ := id BB3))
  exact bodyPost_ret (v := .tuple #[.agg #[.bool false, .slice none 0 0, .slice none 0 0], .int .i64 7]) (by simp [results, Tryd.results13, go_sem, oo0, oo1, oo2]) rfl ⟨rfl, below_three (hb0.trans (b4.mono hb0.size)) (by omega) _ _ _⟩
/-- The sign of a ratio. -/
def sgR (n : Bool) (N : Nat) : Int := if N = 0 then 0 else if n then -1 else 1
set_option maxHeartbeats 400000 in
theorem rsgn_any (n : Bool) (N D : Nat) (ao bo : Option Addr) (ac bc : Nat) (w : World) :
    Calls Tryd.prog 47 #[.agg #[.bool n, .slice ao (nl N) ac, .slice bo (nl D) bc]] w fun e w' => e = .returned (.int .i64 (sgR n N)) ∧ Below w.heap.size w w' := by
  have hb0 : Below w.heap.size w (w.alloc (.cells #[.bool n, .slice ao (nl N) ac, .slice bo (nl D) bc] 25)) := (Below.refl _ _).alloc (Nat.le_refl _) _
  by_cases h0 : N = 0
  · subst h0
    have n0 : nl 0 = 0 := rfl
    have hE : sgR n 0 = 0 := by unfold sgR; rw [if_pos rfl]
    rw [hE]
    go_enter Tryd.func47, Tryd.ntmps47
    go_wp2
    go_ret
    exact ⟨rfl, hb0⟩
  · have z2 : ((nl N : Int) == 0) = false := by have := nlR_pos h0; rw [beq_eq_false_iff_ne]; omega
    cases n
    · have hE : sgR false N = 1 := by unfold sgR; rw [if_neg h0]; rfl
      rw [hE]
      go_enter Tryd.func47, Tryd.ntmps47
      go_wp2
      go_ret
      exact ⟨rfl, hb0⟩
    · have hE : sgR true N = -1 := by unfold sgR; rw [if_neg h0]; rfl
      rw [hE]
      go_enter Tryd.func47, Tryd.ntmps47
      go_wp2
      go_ret
      exact ⟨rfl, hb0⟩
set_option maxHeartbeats 400000 in
theorem rsign_any (n : Bool) (N D : Nat) (ao bo : Option Addr) (ac bc : Nat) (w : World) (h1 : LRow w ao (lo N)) (h2 : LRow w bo (lo D)) (hT : TabW w) (R : RqB n N D) :
    Calls Tryd.prog 16 #[.agg #[.bool n, .slice ao (nl N) ac, .slice bo (nl D) bc]] w fun e w' => e = .returned (.tuple #[.int .i64 (sgR n N), .int .i64 0]) ∧ Below w.heap.size w w' := by
  have RB := B3q.new w (.bool n) (.slice ao (nl N) ac) (.slice bo (nl D) bc) 25
  have hb0 : Below w.heap.size w (w.alloc (.cells #[.bool n, .slice ao (nl N) ac, .slice bo (nl D) bc] 25)) := (Below.refl _ _).alloc (Nat.le_refl _) _
  have r1 := rrightq_any n N D ao bo ac bc _ (h1.below hb0) (h2.below hb0) (tabW_below hT hb0) R
  have s1 := fun w' => rsgn_any n N D ao bo ac bc w'
  generalize sgR n N = s at *
  go_enter Tryd.func16, Tryd.ntmps16
  go_upto_region 1 with fail
  generalize w.alloc (.cells #[.bool n, .slice ao (nl N) ac, .slice bo (nl D) bc] 25) = W0 at *
  obtain ⟨x0, x1, x2, _, _, _, _, _⟩ := id RB
  go_wp2_with (first | (go_at_call 21; refine r1.mono ?_; rintro e w3 ⟨rfl, b3⟩; have RB3 := RB.below b3; obtain ⟨y0, y1, y2, _, _, _, _, _⟩ := id RB3) | (go_at_call 47; refine (s1 _).mono ?_; rintro e w4 ⟨rfl, b4⟩))
  go_ret2
  exact ⟨rfl, hb0.trans ((b3.trans (b4.mono b3.size)).mono hb0.size)⟩
/-- What Cmp tells. -/
def cmR (n1 n2 : Bool) (N1 D1 N2 D2 : Nat) : Int := if sgR n1 N1 = sgR n2 N2 then sgR n1 N1 * cmpI ((N1 * D2 : Nat) : Int) ((N2 * D1 : Nat) : Int) else cmpI (sgR n1 N1) (sgR n2 N2)
set_option maxRecDepth 100000 in
set_option maxHeartbeats 1000000 in
theorem rcmp_any (n1 n2 : Bool) (N1 D1 N2 D2 : Nat) (ao1 bo1 ao2 bo2 : Option Addr) (ac1 bc1 ac2 bc2 : Nat) (w : World) (a1 : LS w ao1 ac1 (lo N1)) (b1 : LS w bo1 bc1 (lo D1)) (a2 : LS w ao2 ac2 (lo N2)) (b2 : LS w bo2 bc2 (lo D2)) (hT : TabW w) (R1 : RqB n1 N1 D1) (R2 : RqB n2 N2 D2) :
    Calls Tryd.prog 27 #[.agg #[.bool n1, .slice ao1 (nl N1) ac1, .slice bo1 (nl D1) bc1], .agg #[.bool n2, .slice ao2 (nl N2) ac2, .slice bo2 (nl D2) bc2]] w fun e w' => e = .returned (.tuple #[.int .i64 (cmR n1 n2 N1 D1 N2 D2), .int .i64 0]) ∧ Below w.heap.size w w' := by
  have AB := (B3q.new w (.bool n1) (.slice ao1 (nl N1) ac1) (.slice bo1 (nl D1) bc1) 25).alloc (.cells #[.bool n2, .slice ao2 (nl N2) ac2, .slice bo2 (nl D2) bc2] 25)
  have BB := B3q.new (w.alloc (.cells #[.bool n1, .slice ao1 (nl N1) ac1, .slice bo1 (nl D1) bc1] 25)) (.bool n2) (.slice ao2 (nl N2) ac2) (.slice bo2 (nl D2) bc2) 25
  have hs1 : (w.alloc (.cells #[.bool n1, .slice ao1 (nl N1) ac1, .slice bo1 (nl D1) bc1] 25)).heap.size = w.heap.size + 1 := by simp
  rw [hs1] at BB
  have hb0 : Below w.heap.size w ((w.alloc (.cells #[.bool n1, .slice ao1 (nl N1) ac1, .slice bo1 (nl D1) bc1] 25)).alloc (.cells #[.bool n2, .slice ao2 (nl N2) ac2, .slice bo2 (nl D2) bc2] 25)) := ((Below.refl _ _).alloc (Nat.le_refl _) _).alloc (by rw [hs1]; omega) _
  have A1 := a1.below hb0
  have B1 := b1.below hb0
  have A2 := a2.below hb0
  have B2 := b2.below hb0
  have T1 := tabW_below hT hb0
  have k1 := R1.n
  have k2 := R1.d
  have k3 := R2.n
  have k4 := R2.d
  obtain ⟨cr, ecr⟩ : ∃ cr, cmR n1 n2 N1 D1 N2 D2 = cr := ⟨_, rfl⟩
  rw [ecr]
  have HCR : Hid _ := ecr
  have e1 := lo_length N1
  have e2 := lo_length D1
  have e3 := lo_length N2
  have e4 := lo_length D2
  clear ecr
  go_enter Tryd.func27, Tryd.ntmps27
  go_upto_region 1 with fail
  generalize (w.alloc (.cells #[.bool n1, .slice ao1 (nl N1) ac1, .slice bo1 (nl D1) bc1] 25)).alloc (.cells #[.bool n2, .slice ao2 (nl N2) ac2, .slice bo2 (nl D2) bc2] 25) = W0 at *
  clear hs1 hT a1 b1 a2 b2
  obtain ⟨x0, x1, x2, _, _, _, _, xlt⟩ := id AB
  obtain ⟨y0, y1, y2, _, _, _, _, ylt⟩ := id BB
  have HC : ∀ w', Below W0.heap.size W0 w' → w'.cell? ⟨w.heap.size, 0, none⟩ = some (.bool n1) ∧ w'.cell? ⟨w.heap.size, 1, none⟩ = some (.slice ao1 (nl N1) ac1) ∧ w'.cell? ⟨w.heap.size, 2, none⟩ = some (.slice bo1 (nl D1) bc1) ∧ w'.cell? ⟨w.heap.size + 1, 0, none⟩ = some (.bool n2) ∧ w'.cell? ⟨w.heap.size + 1, 1, none⟩ = some (.slice ao2 (nl N2) ac2) ∧ w'.cell? ⟨w.heap.size + 1, 2, none⟩ = some (.slice bo2 (nl D2) bc2) := fun w' h =>
    ⟨(AB.below h).c0, (AB.below h).c1, (AB.below h).c2, (BB.below h).c0, (BB.below h).c1, (BB.below h).c2⟩
  have b1d := Below.refl W0.heap.size W0
  have r1 := fun w' (h : Below W0.heap.size W0 w') => rrightq_any n1 N1 D1 ao1 bo1 ac1 bc1 w' (A1.1.below h) (B1.1.below h) (tabW_below T1 h) R1
  have r2 := fun w' (h : Below W0.heap.size W0 w') => rrightq_any n2 N2 D2 ao2 bo2 ac2 bc2 w' (A2.1.below h) (B2.1.below h) (tabW_below T1 h) R2
  have s1 := fun w' => rsgn_any n1 N1 D1 ao1 bo1 ac1 bc1 w'
  have s2 := fun w' => rsgn_any n2 N2 D2 ao2 bo2 ac2 bc2 w'
  have hbd1 : sgR n1 N1 = 0 ∨ sgR n1 N1 = 1 ∨ sgR n1 N1 = -1 := by unfold sgR; split; exact Or.inl rfl; split; exact Or.inr (Or.inr rfl); exact Or.inr (Or.inl rfl)
  unfold cmR at HCR
  generalize sgR n1 N1 = g1 at *
  generalize sgR n2 N2 = g2 at *
  go_upto_region 4 with (first | (go_at_call 21; refine (r2 _ b3).mono ?_; rintro e w4 ⟨rfl, hb4⟩; have b4 := b3.trans (hb4.mono b3.size); obtain ⟨x0', x1', x2', y0', y1', y2'⟩ := HC _ b4) | (go_at_call 21; refine (r1 _ b1d).mono ?_; rintro e w3 ⟨rfl, b3⟩; obtain ⟨u0', u1', u2', v0', v1', v2'⟩ := HC _ b3) | (go_at_call 47; refine (s1 _).mono ?_; rintro e w5 ⟨rfl, hb5⟩; have b5 := b4.trans (hb5.mono b4.size); obtain ⟨p0', p1', p2', q0', q1', q2'⟩ := HC _ b5))
  clear x0 x1 x2 y0 y1 y2 x0' x1' x2' y0' y1' y2' u0' u1' u2' v0' v1' v2' r1 r2 s1
  by_cases hg : g1 = g2
  · have hE := HCR.out
    rw [if_pos hg] at hE
    subst hg
    have t1 : (g1 == g1) = true := by simp
    have t2 : (g1 != g1) = false := by simp
    go_upto_region 6 with (go_at_call 47; refine (s2 _).mono ?_; rintro e w6 ⟨rfl, hb6⟩; have b6 := b5.trans (hb6.mono b5.size); obtain ⟨x0, x1, x2, y0, y1, y2⟩ := HC _ b6)
    have b6d := b6.drew
    have m1 := lmul_any (lo N1) (lo D2) ao1 bo2 ac1 bc2 w6.drew (A1.1.below b6d) (B2.1.below b6d) (lo_lm _) (lo_lm _) (by omega) (by omega)
    have m2 := fun w' (h : Below W0.heap.size W0 w') => lmul_any (lo N2) (lo D1) ao2 bo1 ac2 bc1 w' (A2.1.below h) (B1.1.below h) (lo_lm _) (lo_lm _) (by omega) (by omega)
    simp only [lo_length, vl_lo] at m1 m2
    have l1 : nl (N1 * D2) ≤ 600 := nl_mul (by omega) (by omega)
    have l2 : nl (N2 * D1) ≤ 600 := nl_mul (by omega) (by omega)
    obtain ⟨X, eX⟩ : ∃ X, N1 * D2 = X := ⟨_, rfl⟩
    obtain ⟨Y, eY⟩ : ∃ Y, N2 * D1 = Y := ⟨_, rfl⟩
    rw [eX] at m1 l1 hE
    rw [eY] at l2 hE
    simp only [eY] at m2
    have cC := fun w' xo yo xc yc (hx : LS w' xo xc (lo X)) (hy : LS w' yo yc (lo Y)) => lcmp_any (lo X) (lo Y) xo yo xc yc w' hx.1 hy.1 (lo_lm _) (lo_lm _) (by rw [lo_length]; omega) (by rw [lo_length]; omega)
    simp only [vl_lo, lo_length] at cC
    have cbd := cmpI_bd (X : Int) (Y : Int)
    generalize cmpI (X : Int) (Y : Int) = c at *
    have w1 : IntKind.i64.wrap (g1 * c) = g1 * c := wrapI_id (by rcases hbd1 with h | h | h <;> rw [h] <;> omega) (by rcases hbd1 with h | h | h <;> rw [h] <;> omega)
    have HE : Hid _ := hE
    clear hE eX eY HCR
    go_region_held3 (fun w' => w'.cell? ⟨w.heap.size, 0, none⟩ = some (.bool n1) ∧ w'.cell? ⟨w.heap.size, 1, none⟩ = some (.slice ao1 (nl N1) ac1) ∧ w'.cell? ⟨w.heap.size, 2, none⟩ = some (.slice bo1 (nl D1) bc1) ∧ w'.cell? ⟨w.heap.size + 1, 0, none⟩ = some (.bool n2) ∧ w'.cell? ⟨w.heap.size + 1, 1, none⟩ = some (.slice ao2 (nl N2) ac2) ∧ w'.cell? ⟨w.heap.size + 1, 2, none⟩ = some (.slice bo2 (nl D2) bc2)) (go_keep)
      (first
        | (go_at_call 55; refine (cC _ _ _ _ _ hX8 hY8).mono ?_; rintro e w9 ⟨rfl, hww⟩; subst w9)
        | (go_at_call 56; refine (m2 _ b7).mono ?_; rintro e w8 ⟨yo, yc, rfl, hY8, hb8⟩; have b8 := b7.trans (hb8.mono b7.size); have k8 := HC _ b8; have hX8 := hX7.below hb8)
        | (go_at_call 56; refine m1.mono ?_; rintro e w7 ⟨xo, xc, rfl, hX7, hb7⟩; have b7 : Below W0.heap.size W0 w7 := b6d.trans (hb7.mono b6.size); have k7 := HC _ b7))
    go_wp2
    go_ret2
    exact ⟨congrArg (fun z => Ending.returned (.tuple #[.int .i64 z, .int .i64 0])) HE.out, hb0.trans (b8.mono hb0.size)⟩
  · have hE := HCR.out
    rw [if_neg hg] at hE
    have t1 : (g1 != g2) = true := by simpa using hg
    have cI := fun w' => cmpInt_any g1 g2 w'
    rw [hE] at cI
    clear hE HCR
    go_wp2_with (first | (go_at_call 54; refine (cI _).mono ?_; rintro e w9 ⟨rfl, hww⟩; subst w9) | (go_at_call 47; refine (s2 w6).mono ?_; rintro e w7 ⟨rfl, hb7⟩; have b7 := b6.trans (hb7.mono b6.size)) | (go_at_call 47; refine (s2 _).mono ?_; rintro e w6 ⟨rfl, hb6⟩; have b6 := b5.trans (hb6.mono b5.size); obtain ⟨x0, x1, x2, y0, y1, y2⟩ := HC _ b6))
    go_ret2
    exact ⟨rfl, hb0.trans (b7.mono hb0.size)⟩
end Go.Proofs.YtmcnnnmlacpppaaDoor
