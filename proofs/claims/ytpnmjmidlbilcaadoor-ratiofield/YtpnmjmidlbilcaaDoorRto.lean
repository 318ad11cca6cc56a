/- RatioOrder. (Written by mkrto.py.) -/
import Derived.Test.YtpnmjmidlbilcaaDoorRtn
import Derived.Deep.CutRange
namespace Go.Proofs.YtpnmjmidlbilcaaDoor
open Go.RowKit

theorem B3q.far3 {w : World} {b g : Nat} {x y z : Value} (h : B3q w b x y z) (hn : b ≠ g) (a1 a2 a3 : Value) : B3q (((w.setCell ⟨g, 0, none⟩ a1).setCell ⟨g, 1, none⟩ a2).setCell ⟨g, 2, none⟩ a3) b x y z := ((h.far hn a1).far hn a2).far hn a3
set_option maxRecDepth 100000 in
set_option maxHeartbeats 4000000 in
theorem order_law (n1 : Bool) (xs1 ys1 : List Nat) (ao1 bo1 : Option Addr) (ac1 bc1 : Nat) (n2 : Bool) (xs2 ys2 : List Nat) (ao2 bo2 : Option Addr) (ac2 bc2 : Nat) (n3 : Bool) (xs3 ys3 : List Nat) (ao3 bo3 : Option Addr) (ac3 bc3 : Nat) (w : World) (a1 : LS w ao1 ac1 xs1) (b1 : LS w bo1 bc1 ys1) (l1 : Lm xs1) (m1 : Lm ys1) (s1 : xs1.length ≤ 17592186044416) (t1 : ys1.length ≤ 17592186044416) (a2 : LS w ao2 ac2 xs2) (b2 : LS w bo2 bc2 ys2) (l2 : Lm xs2) (m2 : Lm ys2) (s2 : xs2.length ≤ 17592186044416) (t2 : ys2.length ≤ 17592186044416) (a3 : LS w ao3 ac3 xs3) (b3 : LS w bo3 bc3 ys3) (l3 : Lm xs3) (m3 : Lm ys3) (s3 : xs3.length ≤ 17592186044416) (t3 : ys3.length ≤ 17592186044416) (hT : TabW w) :
    Calls Tryd.prog 5 #[.agg #[.bool n1, .slice ao1 xs1.length ac1, .slice bo1 ys1.length bc1], .agg #[.bool n2, .slice ao2 xs2.length ac2, .slice bo2 ys2.length bc2], .agg #[.bool n3, .slice ao3 xs3.length ac3, .slice bo3 ys3.length bc3]] w fun e w' => e = .returned (.bool true) ∧ Below w.heap.size w w' := by
  have X1 := ((B3q.new w (.bool n1) (.slice ao1 xs1.length ac1) (.slice bo1 ys1.length bc1) 25).alloc (.cells #[.bool n2, .slice ao2 xs2.length ac2, .slice bo2 ys2.length bc2] 25)).alloc (.cells #[.bool n3, .slice ao3 xs3.length ac3, .slice bo3 ys3.length bc3] 25)
  have X2 := (B3q.new (w.alloc (.cells #[.bool n1, .slice ao1 xs1.length ac1, .slice bo1 ys1.length bc1] 25)) (.bool n2) (.slice ao2 xs2.length ac2) (.slice bo2 ys2.length bc2) 25).alloc (.cells #[.bool n3, .slice ao3 xs3.length ac3, .slice bo3 ys3.length bc3] 25)
  have X3 := B3q.new ((w.alloc (.cells #[.bool n1, .slice ao1 xs1.length ac1, .slice bo1 ys1.length bc1] 25)).alloc (.cells #[.bool n2, .slice ao2 xs2.length ac2, .slice bo2 ys2.length bc2] 25)) (.bool n3) (.slice ao3 xs3.length ac3) (.slice bo3 ys3.length bc3) 25
  have hs1 : (w.alloc (.cells #[.bool n1, .slice ao1 xs1.length ac1, .slice bo1 ys1.length bc1] 25)).heap.size = w.heap.size + 1 := by simp
  have hs2 : ((w.alloc (.cells #[.bool n1, .slice ao1 xs1.length ac1, .slice bo1 ys1.length bc1] 25)).alloc (.cells #[.bool n2, .slice ao2 xs2.length ac2, .slice bo2 ys2.length bc2] 25)).heap.size = w.heap.size + 1 + 1 := by simp
  rw [hs1] at X2
  rw [hs2] at X3
  have hb0 : Below w.heap.size w (((w.alloc (.cells #[.bool n1, .slice ao1 xs1.length ac1, .slice bo1 ys1.length bc1] 25)).alloc (.cells #[.bool n2, .slice ao2 xs2.length ac2, .slice bo2 ys2.length bc2] 25)).alloc (.cells #[.bool n3, .slice ao3 xs3.length ac3, .slice bo3 ys3.length bc3] 25)) := (((Below.refl _ _).alloc (Nat.le_refl _) _).alloc (by rw [hs1]; omega) _).alloc (by rw [hs2]; omega) _
  have A1 := a1.below hb0
  have B1 := b1.below hb0
  have A2 := a2.below hb0
  have B2 := b2.below hb0
  have A3 := a3.below hb0
  have B3 := b3.below hb0
  have T1 := tabW_below hT hb0
  have HT : Hid (TabW w) := hT
  go_enter Tryd.func5, Tryd.ntmps5
  go_upto_region 1 with fail
  generalize ((w.alloc (.cells #[.bool n1, .slice ao1 xs1.length ac1, .slice bo1 ys1.length bc1] 25)).alloc (.cells #[.bool n2, .slice ao2 xs2.length ac2, .slice bo2 ys2.length bc2] 25)).alloc (.cells #[.bool n3, .slice ao3 xs3.length ac3, .slice bo3 ys3.length bc3] 25) = W0 at *
  clear hs1 hs2 a1 b1 a2 b2 a3 b3
  have caw := rawake_any W0 T1
  obtain ⟨x10, x11, x12, _, _, _, _, g1⟩ := id X1
  obtain ⟨x20, x21, x22, _, _, _, _, g2⟩ := id X2
  obtain ⟨x30, x31, x32, _, _, _, _, g3⟩ := id X3
  by_cases hbig : 240 < xs1.length + ys1.length + xs2.length + ys2.length + xs3.length + ys3.length
  · have i1 : (240 : Int) < (xs1.length : Int) + (ys1.length : Int) + (xs2.length : Int) + (ys2.length : Int) + (xs3.length : Int) + (ys3.length : Int) := by omega
    go_wp2_with (go_at_call 22; refine caw.mono ?_; rintro e w2 ⟨rfl, q2⟩)
    go_ret
    exact ⟨rfl, hb0.trans (q2.mono hb0.size)⟩
  have i1 : ¬ (240 : Int) < (xs1.length : Int) + (ys1.length : Int) + (xs2.length : Int) + (ys2.length : Int) + (xs3.length : Int) + (ys3.length : Int) := by omega
  go_upto_region 3 with fail
  clear i1 caw
  have kn1 := fun w' (h : Below W0.heap.size W0 w') => known_any n1 xs1 ys1 ao1 bo1 ac1 bc1 w' (A1.below h) (B1.below h) l1 m1 (by omega) (by omega) (tabW_below T1 h)
  have rq1 := knQ_right n1 (vl xs1) (vl ys1)
  have kn2 := fun w' (h : Below W0.heap.size W0 w') => known_any n2 xs2 ys2 ao2 bo2 ac2 bc2 w' (A2.below h) (B2.below h) l2 m2 (by omega) (by omega) (tabW_below T1 h)
  have rq2 := knQ_right n2 (vl xs2) (vl ys2)
  have kn3 := fun w' (h : Below W0.heap.size W0 w') => known_any n3 xs3 ys3 ao3 bo3 ac3 bc3 w' (A3.below h) (B3.below h) l3 m3 (by omega) (by omega) (tabW_below T1 h)
  have rq3 := knQ_right n3 (vl xs3) (vl ys3)
  obtain ⟨⟨k1, N1, D1⟩, e1⟩ : ∃ r, knQ n1 (vl xs1) (vl ys1) = r := ⟨_, rfl⟩
  rw [e1] at rq1
  simp only [e1] at kn1
  unfold GaveI at kn1
  obtain ⟨⟨k2, N2, D2⟩, e2⟩ : ∃ r, knQ n2 (vl xs2) (vl ys2) = r := ⟨_, rfl⟩
  rw [e2] at rq2
  simp only [e2] at kn2
  unfold GaveI at kn2
  obtain ⟨⟨k3, N3, D3⟩, e3⟩ : ∃ r, knQ n3 (vl xs3) (vl ys3) = r := ⟨_, rfl⟩
  rw [e3] at rq3
  simp only [e3] at kn3
  unfold GaveI at kn3
  have b0d := (Below.refl W0.heap.size W0).drew
  have kd1 := kn1 W0.drew b0d
  have u1 : ¬ w.heap.size = w.heap.size + 1 + 1 := by omega
  have u2 : ¬ w.heap.size + 1 + 1 = w.heap.size := by omega
  have u3 : ¬ w.heap.size + 1 = w.heap.size + 1 + 1 := by omega
  have u4 : ¬ w.heap.size + 1 + 1 = w.heap.size + 1 := by omega
  have u5 : ¬ w.heap.size = w.heap.size + 1 := by omega
  have u6 : ¬ w.heap.size + 1 = w.heap.size := by omega
  clear e1 e2 e3 s1 t1 s2 t2 s3 t3 l1 m1 l2 m2 l3 m3 hbig
  go_cut [44] from 45 (fun _ wx => ∃ (k1 k2 k3 : Bool) (N1 D1 N2 D2 N3 D3 : Nat) (po1 qo1 po2 qo2 po3 qo3 : Option Addr) (pc1 qc1 pc2 qc2 pc3 qc3 : Nat), B3q wx (w.heap.size) (.bool k1) (.slice po1 (nl N1) pc1) (.slice qo1 (nl D1) qc1) ∧ LS wx po1 pc1 (lo N1) ∧ LS wx qo1 qc1 (lo D1) ∧ RqB k1 N1 D1 ∧ B3q wx (w.heap.size + 1) (.bool k2) (.slice po2 (nl N2) pc2) (.slice qo2 (nl D2) qc2) ∧ LS wx po2 pc2 (lo N2) ∧ LS wx qo2 qc2 (lo D2) ∧ RqB k2 N2 D2 ∧ B3q wx (w.heap.size + 1 + 1) (.bool k3) (.slice po3 (nl N3) pc3) (.slice qo3 (nl D3) qc3) ∧ LS wx po3 pc3 (lo N3) ∧ LS wx qo3 qc3 (lo D3) ∧ RqB k3 N3 D3 ∧ Below w.heap.size w wx)
  case first =>
    go_region_with
      (first
        | (go_at_call_of 23 (Value.agg #[.bool n3, .slice ao3 xs3.length ac3, .slice bo3 ys3.length bc3]); refine (kn3 _ h2).mono ?_; rintro e w3 ⟨po3, pc3, qo3, qc3, rfl, P3, Q3, c3⟩; have h3 := h2.trans (c3.mono h2.size); have Y1 := X1.below h3; have Y2 := X2.below h3; have Y3 := X3.below h3; obtain ⟨y10, y11, y12, y13, y14, y15, _, _⟩ := id Y1; obtain ⟨y20, y21, y22, y23, y24, y25, _, _⟩ := id Y2; obtain ⟨y30, y31, y32, y33, y34, y35, _, _⟩ := id Y3)
        | (go_at_call_of 23 (Value.agg #[.bool n2, .slice ao2 xs2.length ac2, .slice bo2 ys2.length bc2]); refine (kn2 _ h1).mono ?_; rintro e w2 ⟨po2, pc2, qo2, qc2, rfl, P2, Q2, c2⟩; have h2 := h1.trans (c2.mono h1.size); have Z3 := X3.below h2; obtain ⟨z30, z31, z32, _, _, _, _, _⟩ := id Z3)
        | (go_at_call_of 23 (Value.agg #[.bool n1, .slice ao1 xs1.length ac1, .slice bo1 ys1.length bc1]); refine kd1.mono ?_; rintro e w1 ⟨po1, pc1, qo1, qc1, rfl, P1, Q1, c1⟩; have h1 := b0d.trans c1; have Z2 := X2.below h1; obtain ⟨z20, z21, z22, _, _, _, _, _⟩ := id Z2; have Z3 := X3.below h1; obtain ⟨v30, v31, v32, _, _, _, _, _⟩ := id Z3))
    all_goals
      have Y2' := Y2.far3 (g := w.heap.size) (by omega) (.bool k1) (.slice po1 (nl N1) pc1) (.slice qo1 (nl D1) qc1)
      have Y3' := (Y3.far3 (g := w.heap.size) (by omega) (.bool k1) (.slice po1 (nl N1) pc1) (.slice qo1 (nl D1) qc1)).far3 (g := w.heap.size + 1) (by omega) (.bool k2) (.slice po2 (nl N2) pc2) (.slice qo2 (nl D2) qc2)
      have F1 := ((Y1.fill (.bool k1) (.slice po1 (nl N1) pc1) (.slice qo1 (nl D1) qc1)).far3 (g := w.heap.size + 1) (by omega) (.bool k2) (.slice po2 (nl N2) pc2) (.slice qo2 (nl D2) qc2)).far3 (g := w.heap.size + 1 + 1) (by omega) (.bool k3) (.slice po3 (nl N3) pc3) (.slice qo3 (nl D3) qc3)
      have F2 := (Y2'.fill (.bool k2) (.slice po2 (nl N2) pc2) (.slice qo2 (nl D2) qc2)).far3 (g := w.heap.size + 1 + 1) (by omega) (.bool k3) (.slice po3 (nl N3) pc3) (.slice qo3 (nl D3) qc3)
      have F3 := Y3'.fill (.bool k3) (.slice po3 (nl N3) pc3) (.slice qo3 (nl D3) qc3)
      have LL := fun (ao : Option Addr) (cap : Nat) (xs : List Nat) (h : LS w3 ao cap xs) => ((h.threeB Y1 (.bool k1) (.slice po1 (nl N1) pc1) (.slice qo1 (nl D1) qc1)).threeB Y2' (.bool k2) (.slice po2 (nl N2) pc2) (.slice qo2 (nl D2) qc2)).threeB Y3' (.bool k3) (.slice po3 (nl N3) pc3) (.slice qo3 (nl D3) qc3)
      have FB := below_three (below_three (below_three (hb0.trans (h3.mono hb0.size)) (Nat.le_refl _) (.bool k1) (.slice po1 (nl N1) pc1) (.slice qo1 (nl D1) qc1)) (show w.heap.size ≤ w.heap.size + 1 by omega) (.bool k2) (.slice po2 (nl N2) pc2) (.slice qo2 (nl D2) qc2)) (show w.heap.size ≤ w.heap.size + 1 + 1 by omega) (.bool k3) (.slice po3 (nl N3) pc3) (.slice qo3 (nl D3) qc3)
      have p1 := (P1.below c2).below c3
      have p2 := P2.below c3
      have r1 := (Q1.below c2).below c3
      have r2 := Q2.below c3
      go_wp2
      go_meet
      exact ⟨k1, k2, k3, N1, D1, N2, D2, N3, D3, po1, qo1, po2, qo2, po3, qo3, pc1, qc1, pc2, qc2, pc3, qc3, F1, LL _ _ _ p1, LL _ _ _ r1, rq1, F2, LL _ _ _ p2, LL _ _ _ r2, rq2, F3, LL _ _ _ P3, LL _ _ _ Q3, rq3, FB⟩
  clear kn1 kn2 kn3 rq1 rq2 rq3 kd1 b0d k1 k2 k3 N1 D1 N2 D2 N3 D3 X1 X2 X3 x10 x11 x12 x20 x21 x22 x30 x31 x32
  obtain ⟨k1, k2, k3, N1, D1, N2, D2, N3, D3, po1, qo1, po2, qo2, po3, qo3, pc1, qc1, pc2, qc2, pc3, qc3, X1, P1, Q1, rq1, X2, P2, Q2, rq2, X3, P3, Q3, rq3, hbc⟩ := hcut
  have TC := tabW_below HT.out hbc
  clear hb0 T1 g1 g2 g3 A1 B1 A2 B2 A3 B3
  have HC : ∀ w', Below wc.heap.size wc w' → _ := fun w' (h : Below wc.heap.size wc w') => And.intro (X1.below h) (And.intro (X2.below h) (X3.below h))
  obtain ⟨x10, x11, x12, _, _, _, _, _⟩ := id X1
  obtain ⟨x20, x21, x22, _, _, _, _, _⟩ := id X2
  obtain ⟨x30, x31, x32, _, _, _, _, _⟩ := id X3
  have c12 := fun w' (h : Below wc.heap.size wc w') => rcmp_any k1 k2 N1 D1 N2 D2 po1 qo1 po2 qo2 pc1 qc1 pc2 qc2 w' (P1.below h) (Q1.below h) (P2.below h) (Q2.below h) (tabW_below TC h) rq1 rq2
  have c21 := fun w' (h : Below wc.heap.size wc w') => rcmp_any k2 k1 N2 D2 N1 D1 po2 qo2 po1 qo1 pc2 qc2 pc1 qc1 w' (P2.below h) (Q2.below h) (P1.below h) (Q1.below h) (tabW_below TC h) rq2 rq1
  have c23 := fun w' (h : Below wc.heap.size wc w') => rcmp_any k2 k3 N2 D2 N3 D3 po2 qo2 po3 qo3 pc2 qc2 pc3 qc3 w' (P2.below h) (Q2.below h) (P3.below h) (Q3.below h) (tabW_below TC h) rq2 rq3
  have c13 := fun w' (h : Below wc.heap.size wc w') => rcmp_any k1 k3 N1 D1 N3 D3 po1 qo1 po3 qo3 pc1 qc1 pc3 qc3 w' (P1.below h) (Q1.below h) (P3.below h) (Q3.below h) (tabW_below TC h) rq1 rq3
  have cS := fun w' (h : Below wc.heap.size wc w') => sameR_any k1 k2 N1 D1 N2 D2 po1 qo1 po2 qo2 pc1 qc1 pc2 qc2 w' (P1.below h).1 (Q1.below h).1 (P2.below h).1 (Q2.below h).1 rq1.n rq1.d
  have f1 := cm_anti rq1 rq2
  have f2 := cm_bd rq1 rq2
  have f3 := cm_same rq1 rq2
  have f4 := cm_trans rq1 rq2 rq3
  have HSG : Hid (∀ {s : Bool} {Z : Nat}, smQ k1 (!k2) (N1 * D2) (N2 * D1) = (s, Z) → ∀ {ng : Bool} {N4 D4 : Nat} {er : Int}, nmA s Z (D1 * D2) = (some (ng, N4, D4), er) → sgR ng N4 = cmR k1 k2 N1 D1 N2 D2) := fun {s Z} hs {ng N4 D4 er} h => sub_sign (N3 := N4) (D3 := D4) rq1 rq2 hs h
  rw [← f3] at cS
  obtain ⟨ab, eab⟩ : ∃ c, cmR k1 k2 N1 D1 N2 D2 = c := ⟨_, rfl⟩
  obtain ⟨ba, eba⟩ : ∃ c, cmR k2 k1 N2 D2 N1 D1 = c := ⟨_, rfl⟩
  obtain ⟨bc, ebc⟩ : ∃ c, cmR k2 k3 N2 D2 N3 D3 = c := ⟨_, rfl⟩
  obtain ⟨ac, eac⟩ : ∃ c, cmR k1 k3 N1 D1 N3 D3 = c := ⟨_, rfl⟩
  simp only [eab] at c12 cS HSG
  simp only [eba] at c21
  simp only [ebc] at c23
  simp only [eac] at c13
  rw [eab, eba] at f1
  rw [eab] at f2
  rw [eab, ebc, eac] at f4
  have HF1 : Hid _ := f1
  have HF2 : Hid _ := f2
  have HF4 : Hid _ := f4
  clear eab eba ebc eac f1 f2 f3 f4
  have b0 := Below.refl wc.heap.size wc
  go_upto_region 8 with (first
    | (go_at_call_of 27 (Value.agg #[.bool k3, .slice po3 (nl N3) pc3, .slice qo3 (nl D3) qc3]); refine (c13 _ b6).mono ?_; rintro e w7 ⟨rfl, d7⟩; have b7 := b6.trans (d7.mono b6.size); obtain ⟨E1, E2, E3⟩ := HC _ b7; obtain ⟨e10, e11, e12, _, _, _, _, _⟩ := id E1; obtain ⟨e20, e21, e22, _, _, _, _, _⟩ := id E2)
    | (go_at_call_of 27 (Value.agg #[.bool k3, .slice po3 (nl N3) pc3, .slice qo3 (nl D3) qc3]); refine (c23 _ b5).mono ?_; rintro e w6 ⟨rfl, d6⟩; have b6 := b5.trans (d6.mono b5.size); obtain ⟨E1, E2, E3⟩ := HC _ b6; obtain ⟨s10, s11, s12, _, _, _, _, _⟩ := id E1; obtain ⟨s30, s31, s32, _, _, _, _, _⟩ := id E3)
    | (go_at_call 27; refine (c21 _ b4).mono ?_; rintro e w5 ⟨rfl, d5⟩; have b5 := b4.trans (d5.mono b4.size); obtain ⟨E1, E2, E3⟩ := HC _ b5; obtain ⟨r20, r21, r22, _, _, _, _, _⟩ := id E2; obtain ⟨r30, r31, r32, _, _, _, _, _⟩ := id E3)
    | (go_at_call 27; refine (c12 _ b0).mono ?_; rintro e w4 ⟨rfl, b4⟩; obtain ⟨E1, E2, E3⟩ := HC _ b4; obtain ⟨q10, q11, q12, _, _, _, _, _⟩ := id E1; obtain ⟨q20, q21, q22, _, _, _, _, _⟩ := id E2))
  clear c12 c21 c23 c13 q10 q11 q12 q20 q21 q22 r20 r21 r22 r30 r31 r32 s10 s11 s12 s30 s31 s32 x10 x11 x12 x20 x21 x22 x30 x31 x32 b4 b5 b6 d5 d6 d7
  have cS7 := cS w7 b7
  have f1 := HF1.out
  have f2 := HF2.out
  have wn : IntKind.i64.wrap (-ba) = ab := by rw [wrapI_id (by omega) (by omega)]; omega
  have hnb : -ba = ab := by omega
  have t1 : (ab != ab) = false := by simp
  have t2 : ¬ ab < -1 := by omega
  have t3 : ¬ 1 < ab := by omega
  have t4 : ((ab == 0) != (ab == 0)) = false := by simp
  clear f1 cS
  go_cut [121] from 44 to 120 (fun s121 wx => s121 = .bool false ∧ Below wc.heap.size wc wx)
  case first =>
    obtain ⟨z, ez⟩ : ∃ z, (ab == 0) = z := ⟨_, rfl⟩
    rw [ez] at t4 cS7
    by_cases p1 : ab ≤ 0
    · by_cases p2 : bc ≤ 0
      · have p3 : ac ≤ 0 := HF4.out p1 p2
        go_wp2_with (go_at_call 19; refine cS7.mono ?_; rintro e w8 ⟨rfl, d8⟩)
        go_meet
        exact ⟨by rw [decide_eq_false (show ¬ 0 < ac by omega)], b7.trans (d8.mono b7.size)⟩
      · go_wp2_with (go_at_call 19; refine cS7.mono ?_; rintro e w8 ⟨rfl, d8⟩)
        go_meet
        exact ⟨rfl, b7.trans (d8.mono b7.size)⟩
    · go_wp2_with (go_at_call 19; refine cS7.mono ?_; rintro e w8 ⟨rfl, d8⟩)
      go_meet
      exact ⟨rfl, b7.trans (d8.mono b7.size)⟩
  clear cS7 e10 e11 e12 e20 e21 e22 wn hnb t1 t2 t3 t4 HF4 HF1 HF2 f2
  obtain ⟨rfl, b8⟩ := hcut
  clear b7
  obtain ⟨E1, E2, E3⟩ := HC _ b8
  obtain ⟨e10, e11, e12, _, _, _, _, _⟩ := id E1
  obtain ⟨e20, e21, e22, _, _, _, _, _⟩ := id E2
  have cB := rsubr_any k1 k2 N1 D1 N2 D2 po1 qo1 po2 qo2 pc1 qc1 pc2 qc2 _ (P1.below b8) (Q1.below b8) (P2.below b8) (Q2.below b8) (tabW_below TC b8) rq1 rq2
  obtain ⟨s, Z, hsq⟩ : ∃ s Z, smQ k1 (!k2) (N1 * D2) (N2 * D1) = (s, Z) := ⟨_, _, rfl⟩
  rw [hsq] at cB
  dsimp only at cB
  obtain ⟨o, er, hnm⟩ : ∃ o er, nmA s Z (D1 * D2) = (o, er) := ⟨_, _, rfl⟩
  rw [hnm] at cB
  have hbx := hbc.trans (b8.mono hbc.size)
  cases o with
  | none =>
    have h3 := sub_err rq1 rq2 hnm
    subst h3
    unfold GaveR at cB
    clear HSG hsq hnm
    go_upto_region 11 with (go_at_call 26; refine cB.mono ?_; rintro e w9 ⟨rfl, d9⟩)
    have b9 := (hbx.trans (d9.mono hbx.size))
    have b10 := b9.alloc b9.size (.cells #[.bool false, .slice none 0 0, .slice none 0 0] 25)
    generalize w9.alloc (.cells #[.bool false, .slice none 0 0, .slice none 0 0] 25) = W9 at *
    have caw := rawake_any W9 (tabW_below HT.out b10)
    go_wp2_with (go_at_call 22; refine caw.mono ?_; rintro e w10 ⟨rfl, d10⟩)
    go_ret
    exact ⟨rfl, b10.trans (d10.mono b10.size)⟩
  | some r =>
    obtain ⟨ng, N4, D4⟩ := r
    have hR4 := nmA_right hnm
    have hsg := HSG.out hsq hnm
    unfold GaveR at cB
    clear HSG hsq hnm
    go_upto_region 11 with (go_at_call 26; refine cB.mono ?_; rintro e w9 ⟨ro, rc, so, sc, rfl, hA9, hB9, d9⟩)
    have b9 := (hbx.trans (d9.mono hbx.size))
    have b10 := b9.alloc b9.size (.cells #[.bool ng, .slice ro (nl N4) rc, .slice so (nl D4) sc] 25)
    have YB := B3q.new w9 (.bool ng) (.slice ro (nl N4) rc) (.slice so (nl D4) sc) 25
    have hA10 := hA9.made (.cells #[.bool ng, .slice ro (nl N4) rc, .slice so (nl D4) sc] 25)
    have hB10 := hB9.made (.cells #[.bool ng, .slice ro (nl N4) rc, .slice so (nl D4) sc] 25)
    generalize w9.alloc (.cells #[.bool ng, .slice ro (nl N4) rc, .slice so (nl D4) sc] 25) = W9 at *
    have cG := rsign_any ng N4 D4 ro so rc sc W9 hA10.1 hB10.1 (tabW_below HT.out b10) hR4
    rw [hsg] at cG
    have caw := fun w' (h : Below w.heap.size w w') => rawake_any w' (tabW_below HT.out h)
    have t1 : (ab != ab) = false := by simp
    obtain ⟨y0, y1, y2, _, _, _, _, _⟩ := id YB
    go_wp2_with (first | (go_at_call 16; refine cG.mono ?_; rintro e w10 ⟨rfl, d10⟩; have b11 := b10.trans (d10.mono b10.size)) | (go_at_call 22; refine (caw _ b11).mono ?_; rintro e w11 ⟨rfl, d11⟩))
    go_ret
    exact ⟨rfl, b11.trans (d11.mono b11.size)⟩
end Go.Proofs.YtpnmjmidlbilcaaDoor
