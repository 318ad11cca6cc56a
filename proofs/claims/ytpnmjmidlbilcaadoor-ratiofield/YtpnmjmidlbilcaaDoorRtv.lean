/- RatioField. (Written by mkrtv.py.) -/
import Derived.Test.YtpnmjmidlbilcaaDoorRtu
import Derived.Test.YtpnmjmidlbilcaaDoorRto
namespace Go.Proofs.YtpnmjmidlbilcaaDoor
open Go.RowKit

set_option maxRecDepth 100000 in
set_option maxHeartbeats 32000000 in
theorem field_law (n1 : Bool) (xs1 ys1 : List Nat) (ao1 bo1 : Option Addr) (ac1 bc1 : Nat) (n2 : Bool) (xs2 ys2 : List Nat) (ao2 bo2 : Option Addr) (ac2 bc2 : Nat) (n3 : Bool) (xs3 ys3 : List Nat) (ao3 bo3 : Option Addr) (ac3 bc3 : Nat) (w : World) (a1 : LS w ao1 ac1 xs1) (b1 : LS w bo1 bc1 ys1) (l1 : Lm xs1) (m1 : Lm ys1) (s1 : xs1.length ≤ 17592186044416) (t1 : ys1.length ≤ 17592186044416) (a2 : LS w ao2 ac2 xs2) (b2 : LS w bo2 bc2 ys2) (l2 : Lm xs2) (m2 : Lm ys2) (s2 : xs2.length ≤ 17592186044416) (t2 : ys2.length ≤ 17592186044416) (a3 : LS w ao3 ac3 xs3) (b3 : LS w bo3 bc3 ys3) (l3 : Lm xs3) (m3 : Lm ys3) (s3 : xs3.length ≤ 17592186044416) (t3 : ys3.length ≤ 17592186044416) (hT : TabW w) :
    Calls Tryd.prog 4 #[.agg #[.bool n1, .slice ao1 xs1.length ac1, .slice bo1 ys1.length bc1], .agg #[.bool n2, .slice ao2 xs2.length ac2, .slice bo2 ys2.length bc2], .agg #[.bool n3, .slice ao3 xs3.length ac3, .slice bo3 ys3.length bc3]] w fun e w' => e = .returned (.bool true) ∧ Below w.heap.size w w' := by
  have X1 := ((B3q.new w (.bool n1) (.slice ao1 xs1.length ac1) (.slice bo1 ys1.length bc1) 25).alloc (.cells #[.bool n2, .slice ao2 xs2.length ac2, .slice bo2 ys2.length bc2] 25)).alloc (.cells #[.bool n3, .slice ao3 xs3.length ac3, .slice bo3 ys3.length bc3] 25)
  have X2 := (B3q.new (w.alloc (.cells #[.bool n1, .slice ao1 xs1.length ac1, .slice bo1 ys1.length bc1] 25)) (.bool n2) (.slice ao2 xs2.length ac2) (.slice bo2 ys2.length bc2) 25).alloc (.cells #[.bool n3, .slice ao3 xs3.length ac3, .slice bo3 ys3.length bc3] 25)
  have X3 := B3q.new ((w.alloc (.cells #[.bool n1, .slice ao1 xs1.length ac1, .slice bo1 ys1.length bc1] 25)).alloc (.cells #[.bool n2, .slice ao2 xs2.length ac2, .slice bo2 ys2.length bc2] 25)) (.bool n3) (.slice ao3 xs3.length ac3) (.slice bo3 ys3.length bc3) 25
  have hs1 : (w.alloc (.cells #[.bool n1, .slice ao1 xs1.length ac1, .slice bo1 ys1.length bc1] 25)).heap.size = w.heap.size + 1 := by simp
  have hs2 : ((w.alloc (.cells #[.bool n1, .slice ao1 xs1.length ac1, .slice bo1 ys1.length bc1] 25)).alloc (.cells #[.bool n2, .slice ao2 xs2.length ac2, .slice bo2 ys2.length bc2] 25)).heap.size = w.heap.size + 1 + 1 := by simp
  rw [hs1] at X2
  rw [hs2] at X3
  have hb0 : Below w.heap.size w (((w.alloc (.cells #[.bool n1, .slice ao1 xs1.length ac1, .slice bo1 ys1.length bc1] 25)).alloc (.cells #[.bool n2, .slice ao2 xs2.length ac2, .slice bo2 ys2.length bc2] 25)).alloc (.cells #[.bool n3, .slice ao3 xs3.length ac3, .slice bo3 ys3.length bc3] 25)) := (((Below.refl _ _).alloc (Nat.le_refl _) _).alloc (by rw [hs1]; omega) _).alloc (by rw [hs2]; omega) _
  have A1 := a1.below hb0
  have B1 := b1.below hb0
  have A2 := a2.below hb0
  have B2 := b2.below hb0
  have A3 := a3.below hb0
  have B3 := b3.below hb0
  have T1 := tabW_below hT hb0
  have HT : Hid (TabW w) := hT
  go_enter Tryd.func4, Tryd.ntmps4
  go_upto_region 1 with fail
  generalize ((w.alloc (.cells #[.bool n1, .slice ao1 xs1.length ac1, .slice bo1 ys1.length bc1] 25)).alloc (.cells #[.bool n2, .slice ao2 xs2.length ac2, .slice bo2 ys2.length bc2] 25)).alloc (.cells #[.bool n3, .slice ao3 xs3.length ac3, .slice bo3 ys3.length bc3] 25) = W0 at *
  clear hs1 hs2 a1 b1 a2 b2 a3 b3
  have caw := rawake_any W0 T1
  obtain ⟨x10, x11, x12, _, _, _, _, g1⟩ := id X1
  obtain ⟨x20, x21, x22, _, _, _, _, g2⟩ := id X2
  obtain ⟨x30, x31, x32, _, _, _, _, g3⟩ := id X3
  by_cases hbig : 240 < xs1.length + ys1.length + xs2.length + ys2.length + xs3.length + ys3.length
  · have i1 : (240 : Int) < (xs1.length : Int) + (ys1.length : Int) + (xs2.length : Int) + (ys2.length : Int) + (xs3.length : Int) + (ys3.length : Int) := by omega
    go_wp2_with (go_at_call 22; refine caw.mono ?_; rintro e w2 ⟨rfl, q2⟩)
    go_ret
    exact ⟨rfl, hb0.trans (q2.mono hb0.size)⟩
  have i1 : ¬ (240 : Int) < (xs1.length : Int) + (ys1.length : Int) + (xs2.length : Int) + (ys2.length : Int) + (xs3.length : Int) + (ys3.length : Int) := by omega
  go_upto_region 3 with fail
  clear i1 caw
  have kn1 := fun w' (h : Below W0.heap.size W0 w') => known_any n1 xs1 ys1 ao1 bo1 ac1 bc1 w' (A1.below h) (B1.below h) l1 m1 (by omega) (by omega) (tabW_below T1 h)
  have rq1 := knQ_right n1 (vl xs1) (vl ys1)
  have kn2 := fun w' (h : Below W0.heap.size W0 w') => known_any n2 xs2 ys2 ao2 bo2 ac2 bc2 w' (A2.below h) (B2.below h) l2 m2 (by omega) (by omega) (tabW_below T1 h)
  have rq2 := knQ_right n2 (vl xs2) (vl ys2)
  have kn3 := fun w' (h : Below W0.heap.size W0 w') => known_any n3 xs3 ys3 ao3 bo3 ac3 bc3 w' (A3.below h) (B3.below h) l3 m3 (by omega) (by omega) (tabW_below T1 h)
  have rq3 := knQ_right n3 (vl xs3) (vl ys3)
  obtain ⟨⟨k1, N1, D1⟩, e1⟩ : ∃ r, knQ n1 (vl xs1) (vl ys1) = r := ⟨_, rfl⟩
  rw [e1] at rq1
  simp only [e1] at kn1
  unfold GaveI at kn1
  obtain ⟨⟨k2, N2, D2⟩, e2⟩ : ∃ r, knQ n2 (vl xs2) (vl ys2) = r := ⟨_, rfl⟩
  rw [e2] at rq2
  simp only [e2] at kn2
  unfold GaveI at kn2
  obtain ⟨⟨k3, N3, D3⟩, e3⟩ : ∃ r, knQ n3 (vl xs3) (vl ys3) = r := ⟨_, rfl⟩
  rw [e3] at rq3
  simp only [e3] at kn3
  unfold GaveI at kn3
  have b0d := (Below.refl W0.heap.size W0).drew
  have kd1 := kn1 W0.drew b0d
  have u1 : ¬ w.heap.size = w.heap.size + 1 + 1 := by omega
  have u2 : ¬ w.heap.size + 1 + 1 = w.heap.size := by omega
  have u3 : ¬ w.heap.size + 1 = w.heap.size + 1 + 1 := by omega
  have u4 : ¬ w.heap.size + 1 + 1 = w.heap.size + 1 := by omega
  have u5 : ¬ w.heap.size = w.heap.size + 1 := by omega
  have u6 : ¬ w.heap.size + 1 = w.heap.size := by omega
  clear e1 e2 e3 s1 t1 s2 t2 s3 t3 l1 m1 l2 m2 l3 m3 hbig
  go_cut [58] from 59 (fun _ wx => ∃ (k1 k2 k3 : Bool) (N1 D1 N2 D2 N3 D3 : Nat) (po1 qo1 po2 qo2 po3 qo3 : Option Addr) (pc1 qc1 pc2 qc2 pc3 qc3 : Nat), B3q wx (w.heap.size) (.bool k1) (.slice po1 (nl N1) pc1) (.slice qo1 (nl D1) qc1) ∧ LS wx po1 pc1 (lo N1) ∧ LS wx qo1 qc1 (lo D1) ∧ RqB k1 N1 D1 ∧ B3q wx (w.heap.size + 1) (.bool k2) (.slice po2 (nl N2) pc2) (.slice qo2 (nl D2) qc2) ∧ LS wx po2 pc2 (lo N2) ∧ LS wx qo2 qc2 (lo D2) ∧ RqB k2 N2 D2 ∧ B3q wx (w.heap.size + 1 + 1) (.bool k3) (.slice po3 (nl N3) pc3) (.slice qo3 (nl D3) qc3) ∧ LS wx po3 pc3 (lo N3) ∧ LS wx qo3 qc3 (lo D3) ∧ RqB k3 N3 D3 ∧ Below w.heap.size w wx)
  case first =>
    go_region_with
      (first
        | (go_at_call_of 23 (Value.agg #[.bool n3, .slice ao3 xs3.length ac3, .slice bo3 ys3.length bc3]); refine (kn3 _ h2).mono ?_; rintro e w3 ⟨po3, pc3, qo3, qc3, rfl, P3, Q3, c3⟩; have h3 := h2.trans (c3.mono h2.size); have Y1 := X1.below h3; have Y2 := X2.below h3; have Y3 := X3.below h3; obtain ⟨y10, y11, y12, y13, y14, y15, _, _⟩ := id Y1; obtain ⟨y20, y21, y22, y23, y24, y25, _, _⟩ := id Y2; obtain ⟨y30, y31, y32, y33, y34, y35, _, _⟩ := id Y3)
        | (go_at_call_of 23 (Value.agg #[.bool n2, .slice ao2 xs2.length ac2, .slice bo2 ys2.length bc2]); refine (kn2 _ h1).mono ?_; rintro e w2 ⟨po2, pc2, qo2, qc2, rfl, P2, Q2, c2⟩; have h2 := h1.trans (c2.mono h1.size); have Z3 := X3.below h2; obtain ⟨z30, z31, z32, _, _, _, _, _⟩ := id Z3)
        | (go_at_call_of 23 (Value.agg #[.bool n1, .slice ao1 xs1.length ac1, .slice bo1 ys1.length bc1]); refine kd1.mono ?_; rintro e w1 ⟨po1, pc1, qo1, qc1, rfl, P1, Q1, c1⟩; have h1 := b0d.trans c1; have Z2 := X2.below h1; obtain ⟨z20, z21, z22, _, _, _, _, _⟩ := id Z2; have Z3 := X3.below h1; obtain ⟨v30, v31, v32, _, _, _, _, _⟩ := id Z3))
    all_goals
      have Y2' := Y2.far3 (g := w.heap.size) (by omega) (.bool k1) (.slice po1 (nl N1) pc1) (.slice qo1 (nl D1) qc1)
      have Y3' := (Y3.far3 (g := w.heap.size) (by omega) (.bool k1) (.slice po1 (nl N1) pc1) (.slice qo1 (nl D1) qc1)).far3 (g := w.heap.size + 1) (by omega) (.bool k2) (.slice po2 (nl N2) pc2) (.slice qo2 (nl D2) qc2)
      have F1 := ((Y1.fill (.bool k1) (.slice po1 (nl N1) pc1) (.slice qo1 (nl D1) qc1)).far3 (g := w.heap.size + 1) (by omega) (.bool k2) (.slice po2 (nl N2) pc2) (.slice qo2 (nl D2) qc2)).far3 (g := w.heap.size + 1 + 1) (by omega) (.bool k3) (.slice po3 (nl N3) pc3) (.slice qo3 (nl D3) qc3)
      have F2 := (Y2'.fill (.bool k2) (.slice po2 (nl N2) pc2) (.slice qo2 (nl D2) qc2)).far3 (g := w.heap.size + 1 + 1) (by omega) (.bool k3) (.slice po3 (nl N3) pc3) (.slice qo3 (nl D3) qc3)
      have F3 := Y3'.fill (.bool k3) (.slice po3 (nl N3) pc3) (.slice qo3 (nl D3) qc3)
      have LL := fun (ao : Option Addr) (cap : Nat) (xs : List Nat) (h : LS w3 ao cap xs) => ((h.threeB Y1 (.bool k1) (.slice po1 (nl N1) pc1) (.slice qo1 (nl D1) qc1)).threeB Y2' (.bool k2) (.slice po2 (nl N2) pc2) (.slice qo2 (nl D2) qc2)).threeB Y3' (.bool k3) (.slice po3 (nl N3) pc3) (.slice qo3 (nl D3) qc3)
      have FB := below_three (below_three (below_three (hb0.trans (h3.mono hb0.size)) (Nat.le_refl _) (.bool k1) (.slice po1 (nl N1) pc1) (.slice qo1 (nl D1) qc1)) (show w.heap.size ≤ w.heap.size + 1 by omega) (.bool k2) (.slice po2 (nl N2) pc2) (.slice qo2 (nl D2) qc2)) (show w.heap.size ≤ w.heap.size + 1 + 1 by omega) (.bool k3) (.slice po3 (nl N3) pc3) (.slice qo3 (nl D3) qc3)
      have p1 := (P1.below c2).below c3
      have p2 := P2.below c3
      have r1 := (Q1.below c2).below c3
      have r2 := Q2.below c3
      go_wp2
      go_meet
      exact ⟨k1, k2, k3, N1, D1, N2, D2, N3, D3, po1, qo1, po2, qo2, po3, qo3, pc1, qc1, pc2, qc2, pc3, qc3, F1, LL _ _ _ p1, LL _ _ _ r1, rq1, F2, LL _ _ _ p2, LL _ _ _ r2, rq2, F3, LL _ _ _ P3, LL _ _ _ Q3, rq3, FB⟩
  clear kn1 kn2 kn3 rq1 rq2 rq3 kd1 b0d k1 k2 k3 N1 D1 N2 D2 N3 D3 X1 X2 X3 x10 x11 x12 x20 x21 x22 x30 x31 x32
  obtain ⟨k1, k2, k3, N1, D1, N2, D2, N3, D3, po1, qo1, po2, qo2, po3, qo3, pc1, qc1, pc2, qc2, pc3, qc3, X1, P1, Q1, rq1, X2, P2, Q2, rq2, X3, P3, Q3, rq3, hbc⟩ := hcut
  have TC := tabW_below HT.out hbc
  clear hb0 T1 g1 g2 g3 A1 B1 A2 B2 A3 B3
  have HC : ∀ w', Below wc.heap.size wc w' → _ := fun w' (h : Below wc.heap.size wc w') => And.intro (X1.below h) (And.intro (X2.below h) (X3.below h))
  obtain ⟨x10, x11, x12, _, _, _, _, _⟩ := id X1
  obtain ⟨x20, x21, x22, _, _, _, _, _⟩ := id X2
  obtain ⟨x30, x31, x32, _, _, _, _, _⟩ := id X3
  as_aux_lemma =>
    obtain ⟨⟨k4, N4, D4⟩, t4⟩ : ∃ r, oT (adO (k1, N1, D1) (k2, N2, D2)) = r := ⟨_, rfl⟩
    obtain ⟨r4, ue4⟩ : ∃ r, oE (adO (k1, N1, D1) (k2, N2, D2)) = r := ⟨_, rfl⟩
    have c4 := addU k1 k2 N1 D1 N2 D2 po1 qo1 po2 qo2 pc1 qc1 pc2 qc2 wc P1 Q1 P2 Q2 TC rq1 rq2 k4 N4 D4 r4 t4 ue4
    obtain ⟨e40, e41, e42, _, _, _, _, _⟩ := id X1
    obtain ⟨f40, f41, f42, _, _, _, _, _⟩ := id X2
    go_upto_region 5 with (go_at_call 12; refine c4.mono ?_; rintro e v4 ⟨po4, pc4, qo4, qc4, rfl, P4, Q4, d4⟩)
    have st4 := d4.alloc d4.size (.cells #[.bool k4, .slice po4 (nl N4) pc4, .slice qo4 (nl D4) qc4] 25)
    have X4 := B3q.new v4 (.bool k4) (.slice po4 (nl N4) pc4) (.slice qo4 (nl D4) qc4) 25
    replace P4 := P4.made (.cells #[.bool k4, .slice po4 (nl N4) pc4, .slice qo4 (nl D4) qc4] 25)
    replace Q4 := Q4.made (.cells #[.bool k4, .slice po4 (nl N4) pc4, .slice qo4 (nl D4) qc4] 25)
    replace X1 := X1.below st4
    replace P1 := P1.below st4
    replace Q1 := Q1.below st4
    replace X2 := X2.below st4
    replace P2 := P2.below st4
    replace Q2 := Q2.below st4
    replace X3 := X3.below st4
    replace P3 := P3.below st4
    replace Q3 := Q3.below st4
    replace TC := tabW_below TC st4
    replace hbc := hbc.trans (st4.mono hbc.size)
    generalize v4.alloc (.cells #[.bool k4, .slice po4 (nl N4) pc4, .slice qo4 (nl D4) qc4] 25) = W4 at *
    generalize v4.heap.size = g4 at *
    clear c4 d4 e40 e41 e42 f40 f41 f42
    obtain ⟨⟨k5, N5, D5⟩, t5⟩ : ∃ r, oT (adO (k2, N2, D2) (k1, N1, D1)) = r := ⟨_, rfl⟩
    obtain ⟨r5, ue5⟩ : ∃ r, oE (adO (k2, N2, D2) (k1, N1, D1)) = r := ⟨_, rfl⟩
    have c5 := addU k2 k1 N2 D2 N1 D1 po2 qo2 po1 qo1 pc2 qc2 pc1 qc1 W4 P2 Q2 P1 Q1 TC rq2 rq1 k5 N5 D5 r5 t5 ue5
    obtain ⟨e50, e51, e52, _, _, _, _, _⟩ := id X2
    obtain ⟨f50, f51, f52, _, _, _, _, _⟩ := id X1
    go_upto_region 6 with (go_at_call 12; refine c5.mono ?_; rintro e v5 ⟨po5, pc5, qo5, qc5, rfl, P5, Q5, d5⟩)
    have st5 := d5.alloc d5.size (.cells #[.bool k5, .slice po5 (nl N5) pc5, .slice qo5 (nl D5) qc5] 25)
    have X5 := B3q.new v5 (.bool k5) (.slice po5 (nl N5) pc5) (.slice qo5 (nl D5) qc5) 25
    replace P5 := P5.made (.cells #[.bool k5, .slice po5 (nl N5) pc5, .slice qo5 (nl D5) qc5] 25)
    replace Q5 := Q5.made (.cells #[.bool k5, .slice po5 (nl N5) pc5, .slice qo5 (nl D5) qc5] 25)
    replace X1 := X1.below st5
    replace P1 := P1.below st5
    replace Q1 := Q1.below st5
    replace X2 := X2.below st5
    replace P2 := P2.below st5
    replace Q2 := Q2.below st5
    replace X3 := X3.below st5
    replace P3 := P3.below st5
    replace Q3 := Q3.below st5
    replace X4 := X4.below st5
    replace P4 := P4.below st5
    replace Q4 := Q4.below st5
    replace TC := tabW_below TC st5
    replace hbc := hbc.trans (st5.mono hbc.size)
    generalize v5.alloc (.cells #[.bool k5, .slice po5 (nl N5) pc5, .slice qo5 (nl D5) qc5] 25) = W5 at *
    generalize v5.heap.size = g5 at *
    clear c5 d5 e50 e51 e52 f50 f51 f52
    obtain ⟨⟨k6, N6, D6⟩, t6⟩ : ∃ r, oT (mlO (k1, N1, D1) (k2, N2, D2)) = r := ⟨_, rfl⟩
    obtain ⟨r6, ue6⟩ : ∃ r, oE (mlO (k1, N1, D1) (k2, N2, D2)) = r := ⟨_, rfl⟩
    have c6 := mulU k1 k2 N1 D1 N2 D2 po1 qo1 po2 qo2 pc1 qc1 pc2 qc2 W5 P1 Q1 P2 Q2 TC rq1 rq2 k6 N6 D6 r6 t6 ue6
    obtain ⟨e60, e61, e62, _, _, _, _, _⟩ := id X1
    obtain ⟨f60, f61, f62, _, _, _, _, _⟩ := id X2
    go_upto_region 7 with (go_at_call 24; refine c6.mono ?_; rintro e v6 ⟨po6, pc6, qo6, qc6, rfl, P6, Q6, d6⟩)
    have st6 := d6.alloc d6.size (.cells #[.bool k6, .slice po6 (nl N6) pc6, .slice qo6 (nl D6) qc6] 25)
    have X6 := B3q.new v6 (.bool k6) (.slice po6 (nl N6) pc6) (.slice qo6 (nl D6) qc6) 25
    replace P6 := P6.made (.cells #[.bool k6, .slice po6 (nl N6) pc6, .slice qo6 (nl D6) qc6] 25)
    replace Q6 := Q6.made (.cells #[.bool k6, .slice po6 (nl N6) pc6, .slice qo6 (nl D6) qc6] 25)
    replace X1 := X1.below st6
    replace P1 := P1.below st6
    replace Q1 := Q1.below st6
    replace X2 := X2.below st6
    replace P2 := P2.below st6
    replace Q2 := Q2.below st6
    replace X3 := X3.below st6
    replace P3 := P3.below st6
    replace Q3 := Q3.below st6
    replace X4 := X4.below st6
    replace P4 := P4.below st6
    replace Q4 := Q4.below st6
    replace X5 := X5.below st6
    replace P5 := P5.below st6
    replace Q5 := Q5.below st6
    replace TC := tabW_below TC st6
    replace hbc := hbc.trans (st6.mono hbc.size)
    generalize v6.alloc (.cells #[.bool k6, .slice po6 (nl N6) pc6, .slice qo6 (nl D6) qc6] 25) = W6 at *
    generalize v6.heap.size = g6 at *
    clear c6 d6 e60 e61 e62 f60 f61 f62
    obtain ⟨⟨k7, N7, D7⟩, t7⟩ : ∃ r, oT (mlO (k2, N2, D2) (k1, N1, D1)) = r := ⟨_, rfl⟩
    obtain ⟨r7, ue7⟩ : ∃ r, oE (mlO (k2, N2, D2) (k1, N1, D1)) = r := ⟨_, rfl⟩
    have c7 := mulU k2 k1 N2 D2 N1 D1 po2 qo2 po1 qo1 pc2 qc2 pc1 qc1 W6 P2 Q2 P1 Q1 TC rq2 rq1 k7 N7 D7 r7 t7 ue7
    obtain ⟨e70, e71, e72, _, _, _, _, _⟩ := id X2
    obtain ⟨f70, f71, f72, _, _, _, _, _⟩ := id X1
    go_upto_region 8 with (go_at_call 24; refine c7.mono ?_; rintro e v7 ⟨po7, pc7, qo7, qc7, rfl, P7, Q7, d7⟩)
    have st7 := d7.alloc d7.size (.cells #[.bool k7, .slice po7 (nl N7) pc7, .slice qo7 (nl D7) qc7] 25)
    have X7 := B3q.new v7 (.bool k7) (.slice po7 (nl N7) pc7) (.slice qo7 (nl D7) qc7) 25
    replace P7 := P7.made (.cells #[.bool k7, .slice po7 (nl N7) pc7, .slice qo7 (nl D7) qc7] 25)
    replace Q7 := Q7.made (.cells #[.bool k7, .slice po7 (nl N7) pc7, .slice qo7 (nl D7) qc7] 25)
    replace X1 := X1.below st7
    replace P1 := P1.below st7
    replace Q1 := Q1.below st7
    replace X2 := X2.below st7
    replace P2 := P2.below st7
    replace Q2 := Q2.below st7
    replace X3 := X3.below st7
    replace P3 := P3.below st7
    replace Q3 := Q3.below st7
    replace X4 := X4.below st7
    replace P4 := P4.below st7
    replace Q4 := Q4.below st7
    replace X5 := X5.below st7
    replace P5 := P5.below st7
    replace Q5 := Q5.below st7
    replace X6 := X6.below st7
    replace P6 := P6.below st7
    replace Q6 := Q6.below st7
    replace TC := tabW_below TC st7
    replace hbc := hbc.trans (st7.mono hbc.size)
    generalize v7.alloc (.cells #[.bool k7, .slice po7 (nl N7) pc7, .slice qo7 (nl D7) qc7] 25) = W7 at *
    generalize v7.heap.size = g7 at *
    clear c7 d7 e70 e71 e72 f70 f71 f72
    have lkA0 := likeU t4 ue4 t5 ue5 (ad_comm (a := (k1, N1, D1)) (b := (k2, N2, D2)) rq1 rq2) (fun r h => ((adO_tells (a := (k1, N1, D1)) (b := (k2, N2, D2)) rq1 rq2).some h).2) po4 qo4 po5 qo5 pc4 qc4 pc5 qc5 W7 P4 Q4 P5 Q5 TC
    have lkA1 := fun w' (h : Below W7.heap.size W7 w') => likeU t6 ue6 t7 ue7 (ml_comm (a := (k1, N1, D1)) (b := (k2, N2, D2)) rq1 rq2) (fun r h => ((mlO_tells (a := (k1, N1, D1)) (b := (k2, N2, D2)) rq1 rq2).some h).2) po6 qo6 po7 qo7 pc6 qc6 pc7 qc7 w' (P6.below h) (Q6.below h) (P7.below h) (Q7.below h) (tabW_below TC h)
    obtain ⟨hA0, hA1, hA2, _, _, _, _, _⟩ := id X4
    obtain ⟨lA0, lA1, lA2, _, _, _, _, _⟩ := id X5
    go_upto_region 10 with (first | (go_at_call 25; refine (lkA1 _ yA0).mono ?_; rintro e vA1 ⟨rfl, yA1⟩) | (go_at_call 25; refine lkA0.mono ?_; rintro e vA0 ⟨rfl, yA0⟩; have EAa := X6.below yA0; have EAb := X7.below yA0; obtain ⟨mA0, mA1, mA2, _, _, _, _, _⟩ := id EAa; obtain ⟨oA0, oA1, oA2, _, _, _, _, _⟩ := id EAb))
    have stA := yA0.trans (yA1.mono yA0.size)
    replace X1 := X1.below stA
    replace P1 := P1.below stA
    replace Q1 := Q1.below stA
    replace X2 := X2.below stA
    replace P2 := P2.below stA
    replace Q2 := Q2.below stA
    replace X3 := X3.below stA
    replace P3 := P3.below stA
    replace Q3 := Q3.below stA
    replace X4 := X4.below stA
    replace P4 := P4.below stA
    replace Q4 := Q4.below stA
    replace X5 := X5.below stA
    replace P5 := P5.below stA
    replace Q5 := Q5.below stA
    replace X6 := X6.below stA
    replace P6 := P6.below stA
    replace Q6 := Q6.below stA
    replace X7 := X7.below stA
    replace P7 := P7.below stA
    replace Q7 := Q7.below stA
    replace TC := tabW_below TC stA
    replace hbc := hbc.trans (stA.mono hbc.size)
    clear lkA0 lkA1
    as_aux_lemma =>
      obtain ⟨⟨k8, N8, D8⟩, t8⟩ : ∃ r, oT (adO (k2, N2, D2) (k3, N3, D3)) = r := ⟨_, rfl⟩
      obtain ⟨r8, ue8⟩ : ∃ r, oE (adO (k2, N2, D2) (k3, N3, D3)) = r := ⟨_, rfl⟩
      have c8 := addU k2 k3 N2 D2 N3 D3 po2 qo2 po3 qo3 pc2 qc2 pc3 qc3 vA1 P2 Q2 P3 Q3 TC rq2 rq3 k8 N8 D8 r8 t8 ue8
      obtain ⟨e80, e81, e82, _, _, _, _, _⟩ := id X2
      obtain ⟨f80, f81, f82, _, _, _, _, _⟩ := id X3
      go_upto_region 11 with (go_at_call 12; refine c8.mono ?_; rintro e v8 ⟨po8, pc8, qo8, qc8, rfl, P8, Q8, d8⟩)
      have st8 := d8.alloc d8.size (.cells #[.bool k8, .slice po8 (nl N8) pc8, .slice qo8 (nl D8) qc8] 25)
      have X8 := B3q.new v8 (.bool k8) (.slice po8 (nl N8) pc8) (.slice qo8 (nl D8) qc8) 25
      replace P8 := P8.made (.cells #[.bool k8, .slice po8 (nl N8) pc8, .slice qo8 (nl D8) qc8] 25)
      replace Q8 := Q8.made (.cells #[.bool k8, .slice po8 (nl N8) pc8, .slice qo8 (nl D8) qc8] 25)
      replace X1 := X1.below st8
      replace P1 := P1.below st8
      replace Q1 := Q1.below st8
      replace X2 := X2.below st8
      replace P2 := P2.below st8
      replace Q2 := Q2.below st8
      replace X3 := X3.below st8
      replace P3 := P3.below st8
      replace Q3 := Q3.below st8
      replace X4 := X4.below st8
      replace P4 := P4.below st8
      replace Q4 := Q4.below st8
      replace X5 := X5.below st8
      replace P5 := P5.below st8
      replace Q5 := Q5.below st8
      replace X6 := X6.below st8
      replace P6 := P6.below st8
      replace Q6 := Q6.below st8
      replace X7 := X7.below st8
      replace P7 := P7.below st8
      replace Q7 := Q7.below st8
      replace TC := tabW_below TC st8
      replace hbc := hbc.trans (st8.mono hbc.size)
      generalize v8.alloc (.cells #[.bool k8, .slice po8 (nl N8) pc8, .slice qo8 (nl D8) qc8] 25) = W8 at *
      generalize v8.heap.size = g8 at *
      clear c8 d8 e80 e81 e82 f80 f81 f82
      obtain ⟨z, ez⟩ : ∃ z, ((r4 == 0) && (r8 == 0)) = z := ⟨_, rfl⟩
      have EZ : Hid _ := ez
      clear ez
      go_cut [113] from 33 to 112 (fun s113 wx => s113 = .bool z ∧ wx = W8)
      case first =>
        cases h1 : (r4 == 0)
        · go_wp2
          go_meet
          exact ⟨by rw [← EZ.out, h1]; rfl, rfl⟩
        · cases h2 : (r8 == 0)
          all_goals
            go_wp2
            go_meet
            exact ⟨by rw [← EZ.out, h1, h2]; rfl, rfl⟩
      obtain ⟨rfl, h'⟩ := hcut
      subst wc
      go_upto_if 113 with fail
      go_cut [17, 18, 19, 20, 21, 22, 23, 24, 25, 26, 27, 28] from 33 (fun s17 s18 s19 s20 s21 s22 s23 s24 s25 s26 s27 s28 wx => Below W8.heap.size W8 wx)
      case first =>
        as_aux_lemma =>
          cases o4h : adO (k1, N1, D1) (k2, N2, D2) with
          | none =>
            have z4 : r4 = 3 := by rw [← ue4, o4h]; rfl
            subst z4
            have ez2 : z = false := by rw [← EZ.out]; rfl
            subst ez2
            go_wp2
            go_meet
            exact Below.refl _ _
          | some q4 =>
            have z4 : r4 = 0 := by rw [← ue4, o4h]; rfl
            subst z4
            cases o8h : adO (k2, N2, D2) (k3, N3, D3) with
            | none =>
              have z8 : r8 = 3 := by rw [← ue8, o8h]; rfl
              subst z8
              have ez2 : z = false := by rw [← EZ.out]; rfl
              subst ez2
              go_wp2
              go_meet
              exact Below.refl _ _
            | some q8 =>
              have z8 : r8 = 0 := by rw [← ue8, o8h]; rfl
              subst z8
              have ez2 : z = true := by rw [← EZ.out]; rfl
              subst ez2
              have x4 : q4 = (k4, N4, D4) := by rw [← t4, o4h]; rfl
              subst x4
              have x8 : q8 = (k8, N8, D8) := by rw [← t8, o8h]; rfl
              subst x8
              have rq4 : RqB k4 N4 D4 := ((adO_tells (a := (k1, N1, D1)) (b := (k2, N2, D2)) rq1 rq2).some o4h).2
              have rq8 : RqB k8 N8 D8 := ((adO_tells (a := (k2, N2, D2)) (b := (k3, N3, D3)) rq2 rq3).some o8h).2
              have sT := Below.refl W8.heap.size W8
              go_upto_region 12 with fail
              obtain ⟨⟨k10, N10, D10⟩, t10⟩ : ∃ r, oT (adO (k4, N4, D4) (k3, N3, D3)) = r := ⟨_, rfl⟩
              obtain ⟨r10, ue10⟩ : ∃ r, oE (adO (k4, N4, D4) (k3, N3, D3)) = r := ⟨_, rfl⟩
              have c10 := addU k4 k3 N4 D4 N3 D3 po4 qo4 po3 qo3 pc4 qc4 pc3 qc3 W8 P4 Q4 P3 Q3 TC rq4 rq3 k10 N10 D10 r10 t10 ue10
              obtain ⟨e100, e101, e102, _, _, _, _, _⟩ := id X4
              obtain ⟨f100, f101, f102, _, _, _, _, _⟩ := id X3
              go_upto_region 13 with (go_at_call 12; refine c10.mono ?_; rintro e v10 ⟨po10, pc10, qo10, qc10, rfl, P10, Q10, d10⟩)
              have st10 := d10.alloc d10.size (.cells #[.bool k10, .slice po10 (nl N10) pc10, .slice qo10 (nl D10) qc10] 25)
              have X10 := B3q.new v10 (.bool k10) (.slice po10 (nl N10) pc10) (.slice qo10 (nl D10) qc10) 25
              replace P10 := P10.made (.cells #[.bool k10, .slice po10 (nl N10) pc10, .slice qo10 (nl D10) qc10] 25)
              replace Q10 := Q10.made (.cells #[.bool k10, .slice po10 (nl N10) pc10, .slice qo10 (nl D10) qc10] 25)
              replace X1 := X1.below st10
              replace P1 := P1.below st10
              replace Q1 := Q1.below st10
              replace X2 := X2.below st10
              replace P2 := P2.below st10
              replace Q2 := Q2.below st10
              replace X3 := X3.below st10
              replace P3 := P3.below st10
              replace Q3 := Q3.below st10
              replace X4 := X4.below st10
              replace P4 := P4.below st10
              replace Q4 := Q4.below st10
              replace X5 := X5.below st10
              replace P5 := P5.below st10
              replace Q5 := Q5.below st10
              replace X6 := X6.below st10
              replace P6 := P6.below st10
              replace Q6 := Q6.below st10
              replace X7 := X7.below st10
              replace P7 := P7.below st10
              replace Q7 := Q7.below st10
              replace X8 := X8.below st10
              replace P8 := P8.below st10
              replace Q8 := Q8.below st10
              replace TC := tabW_below TC st10
              replace hbc := hbc.trans (st10.mono hbc.size)
              generalize v10.alloc (.cells #[.bool k10, .slice po10 (nl N10) pc10, .slice qo10 (nl D10) qc10] 25) = W10 at *
              generalize v10.heap.size = g10 at *
              clear c10 d10 e100 e101 e102 f100 f101 f102
              replace sT := sT.trans (st10.mono sT.size)
              obtain ⟨⟨k11, N11, D11⟩, t11⟩ : ∃ r, oT (adO (k1, N1, D1) (k8, N8, D8)) = r := ⟨_, rfl⟩
              obtain ⟨r11, ue11⟩ : ∃ r, oE (adO (k1, N1, D1) (k8, N8, D8)) = r := ⟨_, rfl⟩
              have c11 := addU k1 k8 N1 D1 N8 D8 po1 qo1 po8 qo8 pc1 qc1 pc8 qc8 W10 P1 Q1 P8 Q8 TC rq1 rq8 k11 N11 D11 r11 t11 ue11
              obtain ⟨e110, e111, e112, _, _, _, _, _⟩ := id X1
              obtain ⟨f110, f111, f112, _, _, _, _, _⟩ := id X8
              go_upto_region 14 with (go_at_call 12; refine c11.mono ?_; rintro e v11 ⟨po11, pc11, qo11, qc11, rfl, P11, Q11, d11⟩)
              have st11 := d11.alloc d11.size (.cells #[.bool k11, .slice po11 (nl N11) pc11, .slice qo11 (nl D11) qc11] 25)
              have X11 := B3q.new v11 (.bool k11) (.slice po11 (nl N11) pc11) (.slice qo11 (nl D11) qc11) 25
              replace P11 := P11.made (.cells #[.bool k11, .slice po11 (nl N11) pc11, .slice qo11 (nl D11) qc11] 25)
              replace Q11 := Q11.made (.cells #[.bool k11, .slice po11 (nl N11) pc11, .slice qo11 (nl D11) qc11] 25)
              replace X1 := X1.below st11
              replace P1 := P1.below st11
              replace Q1 := Q1.below st11
              replace X2 := X2.below st11
              replace P2 := P2.below st11
              replace Q2 := Q2.below st11
              replace X3 := X3.below st11
              replace P3 := P3.below st11
              replace Q3 := Q3.below st11
              replace X4 := X4.below st11
              replace P4 := P4.below st11
              replace Q4 := Q4.below st11
              replace X5 := X5.below st11
              replace P5 := P5.below st11
              replace Q5 := Q5.below st11
              replace X6 := X6.below st11
              replace P6 := P6.below st11
              replace Q6 := Q6.below st11
              replace X7 := X7.below st11
              replace P7 := P7.below st11
              replace Q7 := Q7.below st11
              replace X8 := X8.below st11
              replace P8 := P8.below st11
              replace Q8 := Q8.below st11
              replace X10 := X10.below st11
              replace P10 := P10.below st11
              replace Q10 := Q10.below st11
              replace TC := tabW_below TC st11
              replace hbc := hbc.trans (st11.mono hbc.size)
              generalize v11.alloc (.cells #[.bool k11, .slice po11 (nl N11) pc11, .slice qo11 (nl D11) qc11] 25) = W11 at *
              generalize v11.heap.size = g11 at *
              clear c11 d11 e110 e111 e112 f110 f111 f112
              replace sT := sT.trans (st11.mono sT.size)
              obtain ⟨⟨k12, N12, D12⟩, t12⟩ : ∃ r, oT (sbO (k4, N4, D4) (k2, N2, D2)) = r := ⟨_, rfl⟩
              obtain ⟨r12, ue12⟩ : ∃ r, oE (sbO (k4, N4, D4) (k2, N2, D2)) = r := ⟨_, rfl⟩
              have c12 := subU k4 k2 N4 D4 N2 D2 po4 qo4 po2 qo2 pc4 qc4 pc2 qc2 W11 P4 Q4 P2 Q2 TC rq4 rq2 k12 N12 D12 r12 t12 ue12
              obtain ⟨e120, e121, e122, _, _, _, _, _⟩ := id X4
              obtain ⟨f120, f121, f122, _, _, _, _, _⟩ := id X2
              go_upto_region 15 with (go_at_call 26; refine c12.mono ?_; rintro e v12 ⟨po12, pc12, qo12, qc12, rfl, P12, Q12, d12⟩)
              have st12 := d12.alloc d12.size (.cells #[.bool k12, .slice po12 (nl N12) pc12, .slice qo12 (nl D12) qc12] 25)
              have X12 := B3q.new v12 (.bool k12) (.slice po12 (nl N12) pc12) (.slice qo12 (nl D12) qc12) 25
              replace P12 := P12.made (.cells #[.bool k12, .slice po12 (nl N12) pc12, .slice qo12 (nl D12) qc12] 25)
              replace Q12 := Q12.made (.cells #[.bool k12, .slice po12 (nl N12) pc12, .slice qo12 (nl D12) qc12] 25)
              replace X1 := X1.below st12
              replace P1 := P1.below st12
              replace Q1 := Q1.below st12
              replace X2 := X2.below st12
              replace P2 := P2.below st12
              replace Q2 := Q2.below st12
              replace X3 := X3.below st12
              replace P3 := P3.below st12
              replace Q3 := Q3.below st12
              replace X4 := X4.below st12
              replace P4 := P4.below st12
              replace Q4 := Q4.below st12
              replace X5 := X5.below st12
              replace P5 := P5.below st12
              replace Q5 := Q5.below st12
              replace X6 := X6.below st12
              replace P6 := P6.below st12
              replace Q6 := Q6.below st12
              replace X7 := X7.below st12
              replace P7 := P7.below st12
              replace Q7 := Q7.below st12
              replace X8 := X8.below st12
              replace P8 := P8.below st12
              replace Q8 := Q8.below st12
              replace X10 := X10.below st12
              replace P10 := P10.below st12
              replace Q10 := Q10.below st12
              replace X11 := X11.below st12
              replace P11 := P11.below st12
              replace Q11 := Q11.below st12
              replace TC := tabW_below TC st12
              replace hbc := hbc.trans (st12.mono hbc.size)
              generalize v12.alloc (.cells #[.bool k12, .slice po12 (nl N12) pc12, .slice qo12 (nl D12) qc12] 25) = W12 at *
              generalize v12.heap.size = g12 at *
              clear c12 d12 e120 e121 e122 f120 f121 f122
              replace sT := sT.trans (st12.mono sT.size)
              have lkB0 := likeU t10 ue10 t11 ue11 (ad_assoc (a := (k1, N1, D1)) (b := (k2, N2, D2)) (c := (k3, N3, D3)) rq1 rq2 rq3 o4h o8h) (fun r h => ((adO_tells (a := (k4, N4, D4)) (b := (k3, N3, D3)) rq4 rq3).some h).2) po10 qo10 po11 qo11 pc10 qc10 pc11 qc11 W12 P10 Q10 P11 Q11 TC
              have lkB1 := fun w' (h : Below W12.heap.size W12 w') => likeU t12 ue12 (show oT (some (k1, N1, D1)) = (k1, N1, D1) from rfl) (show oE (some (k1, N1, D1)) = 0 from rfl) (sb_back (a := (k1, N1, D1)) (b := (k2, N2, D2)) rq1 rq2 o4h) (fun r h => ((sbO_tells (a := (k4, N4, D4)) (b := (k2, N2, D2)) rq4 rq2).some h).2) po12 qo12 po1 qo1 pc12 qc12 pc1 qc1 w' (P12.below h) (Q12.below h) (P1.below h) (Q1.below h) (tabW_below TC h)
              obtain ⟨hB0, hB1, hB2, _, _, _, _, _⟩ := id X10
              obtain ⟨lB0, lB1, lB2, _, _, _, _, _⟩ := id X11
              go_upto_region 17 with (first | (go_at_call 25; refine (lkB1 _ yB0).mono ?_; rintro e vB1 ⟨rfl, yB1⟩) | (go_at_call 25; refine lkB0.mono ?_; rintro e vB0 ⟨rfl, yB0⟩; have EBa := X12.below yB0; have EBb := X1.below yB0; obtain ⟨mB0, mB1, mB2, _, _, _, _, _⟩ := id EBa; obtain ⟨oB0, oB1, oB2, _, _, _, _, _⟩ := id EBb))
              have stB := yB0.trans (yB1.mono yB0.size)
              replace X1 := X1.below stB
              replace P1 := P1.below stB
              replace Q1 := Q1.below stB
              replace X2 := X2.below stB
              replace P2 := P2.below stB
              replace Q2 := Q2.below stB
              replace X3 := X3.below stB
              replace P3 := P3.below stB
              replace Q3 := Q3.below stB
              replace X4 := X4.below stB
              replace P4 := P4.below stB
              replace Q4 := Q4.below stB
              replace X5 := X5.below stB
              replace P5 := P5.below stB
              replace Q5 := Q5.below stB
              replace X6 := X6.below stB
              replace P6 := P6.below stB
              replace Q6 := Q6.below stB
              replace X7 := X7.below stB
              replace P7 := P7.below stB
              replace Q7 := Q7.below stB
              replace X8 := X8.below stB
              replace P8 := P8.below stB
              replace Q8 := Q8.below stB
              replace X10 := X10.below stB
              replace P10 := P10.below stB
              replace Q10 := Q10.below stB
              replace X11 := X11.below stB
              replace P11 := P11.below stB
              replace Q11 := Q11.below stB
              replace X12 := X12.below stB
              replace P12 := P12.below stB
              replace Q12 := Q12.below stB
              replace TC := tabW_below TC stB
              replace hbc := hbc.trans (stB.mono hbc.size)
              clear lkB0 lkB1
              replace sT := sT.trans (stB.mono sT.size)
              as_aux_lemma =>
                obtain ⟨⟨k13, N13, D13⟩, t13⟩ : ∃ r, oT (mlO (k1, N1, D1) (k8, N8, D8)) = r := ⟨_, rfl⟩
                obtain ⟨r13, ue13⟩ : ∃ r, oE (mlO (k1, N1, D1) (k8, N8, D8)) = r := ⟨_, rfl⟩
                have c13 := mulU k1 k8 N1 D1 N8 D8 po1 qo1 po8 qo8 pc1 qc1 pc8 qc8 vB1 P1 Q1 P8 Q8 TC rq1 rq8 k13 N13 D13 r13 t13 ue13
                obtain ⟨e130, e131, e132, _, _, _, _, _⟩ := id X1
                obtain ⟨f130, f131, f132, _, _, _, _, _⟩ := id X8
                go_upto_region 18 with (go_at_call 24; refine c13.mono ?_; rintro e v13 ⟨po13, pc13, qo13, qc13, rfl, P13, Q13, d13⟩)
                have st13 := d13.alloc d13.size (.cells #[.bool k13, .slice po13 (nl N13) pc13, .slice qo13 (nl D13) qc13] 25)
                have X13 := B3q.new v13 (.bool k13) (.slice po13 (nl N13) pc13) (.slice qo13 (nl D13) qc13) 25
                replace P13 := P13.made (.cells #[.bool k13, .slice po13 (nl N13) pc13, .slice qo13 (nl D13) qc13] 25)
                replace Q13 := Q13.made (.cells #[.bool k13, .slice po13 (nl N13) pc13, .slice qo13 (nl D13) qc13] 25)
                replace X1 := X1.below st13
                replace P1 := P1.below st13
                replace Q1 := Q1.below st13
                replace X2 := X2.below st13
                replace P2 := P2.below st13
                replace Q2 := Q2.below st13
                replace X3 := X3.below st13
                replace P3 := P3.below st13
                replace Q3 := Q3.below st13
                replace X4 := X4.below st13
                replace P4 := P4.below st13
                replace Q4 := Q4.below st13
                replace X5 := X5.below st13
                replace P5 := P5.below st13
                replace Q5 := Q5.below st13
                replace X6 := X6.below st13
                replace P6 := P6.below st13
                replace Q6 := Q6.below st13
                replace X7 := X7.below st13
                replace P7 := P7.below st13
                replace Q7 := Q7.below st13
                replace X8 := X8.below st13
                replace P8 := P8.below st13
                replace Q8 := Q8.below st13
                replace X10 := X10.below st13
                replace P10 := P10.below st13
                replace Q10 := Q10.below st13
                replace X11 := X11.below st13
                replace P11 := P11.below st13
                replace Q11 := Q11.below st13
                replace X12 := X12.below st13
                replace P12 := P12.below st13
                replace Q12 := Q12.below st13
                replace TC := tabW_below TC st13
                replace hbc := hbc.trans (st13.mono hbc.size)
                generalize v13.alloc (.cells #[.bool k13, .slice po13 (nl N13) pc13, .slice qo13 (nl D13) qc13] 25) = W13 at *
                generalize v13.heap.size = g13 at *
                clear c13 d13 e130 e131 e132 f130 f131 f132
                replace sT := sT.trans (st13.mono sT.size)
                obtain ⟨⟨k14, N14, D14⟩, t14⟩ : ∃ r, oT (mlO (k1, N1, D1) (k3, N3, D3)) = r := ⟨_, rfl⟩
                obtain ⟨r14, ue14⟩ : ∃ r, oE (mlO (k1, N1, D1) (k3, N3, D3)) = r := ⟨_, rfl⟩
                have c14 := mulU k1 k3 N1 D1 N3 D3 po1 qo1 po3 qo3 pc1 qc1 pc3 qc3 W13 P1 Q1 P3 Q3 TC rq1 rq3 k14 N14 D14 r14 t14 ue14
                obtain ⟨e140, e141, e142, _, _, _, _, _⟩ := id X1
                obtain ⟨f140, f141, f142, _, _, _, _, _⟩ := id X3
                go_upto_region 19 with (go_at_call 24; refine c14.mono ?_; rintro e v14 ⟨po14, pc14, qo14, qc14, rfl, P14, Q14, d14⟩)
                have st14 := d14.alloc d14.size (.cells #[.bool k14, .slice po14 (nl N14) pc14, .slice qo14 (nl D14) qc14] 25)
                have X14 := B3q.new v14 (.bool k14) (.slice po14 (nl N14) pc14) (.slice qo14 (nl D14) qc14) 25
                replace P14 := P14.made (.cells #[.bool k14, .slice po14 (nl N14) pc14, .slice qo14 (nl D14) qc14] 25)
                replace Q14 := Q14.made (.cells #[.bool k14, .slice po14 (nl N14) pc14, .slice qo14 (nl D14) qc14] 25)
                replace X1 := X1.below st14
                replace P1 := P1.below st14
                replace Q1 := Q1.below st14
                replace X2 := X2.below st14
                replace P2 := P2.below st14
                replace Q2 := Q2.below st14
                replace X3 := X3.below st14
                replace P3 := P3.below st14
                replace Q3 := Q3.below st14
                replace X4 := X4.below st14
                replace P4 := P4.below st14
                replace Q4 := Q4.below st14
                replace X5 := X5.below st14
                replace P5 := P5.below st14
                replace Q5 := Q5.below st14
                replace X6 := X6.below st14
                replace P6 := P6.below st14
                replace Q6 := Q6.below st14
                replace X7 := X7.below st14
                replace P7 := P7.below st14
                replace Q7 := Q7.below st14
                replace X8 := X8.below st14
                replace P8 := P8.below st14
                replace Q8 := Q8.below st14
                replace X10 := X10.below st14
                replace P10 := P10.below st14
                replace Q10 := Q10.below st14
                replace X11 := X11.below st14
                replace P11 := P11.below st14
                replace Q11 := Q11.below st14
                replace X12 := X12.below st14
                replace P12 := P12.below st14
                replace Q12 := Q12.below st14
                replace X13 := X13.below st14
                replace P13 := P13.below st14
                replace Q13 := Q13.below st14
                replace TC := tabW_below TC st14
                replace hbc := hbc.trans (st14.mono hbc.size)
                generalize v14.alloc (.cells #[.bool k14, .slice po14 (nl N14) pc14, .slice qo14 (nl D14) qc14] 25) = W14 at *
                generalize v14.heap.size = g14 at *
                clear c14 d14 e140 e141 e142 f140 f141 f142
                replace sT := sT.trans (st14.mono sT.size)
                cases o6h : mlO (k1, N1, D1) (k2, N2, D2) with
                | none =>
                  have z6 : r6 = 3 := by rw [← ue6, o6h]; rfl
                  subst z6
                  go_wp2
                  go_meet
                  exact sT
                | some q6 =>
                  have z6 : r6 = 0 := by rw [← ue6, o6h]; rfl
                  subst z6
                  cases o14h : mlO (k1, N1, D1) (k3, N3, D3) with
                  | none =>
                    have z14 : r14 = 3 := by rw [← ue14, o14h]; rfl
                    subst z14
                    go_wp2
                    go_meet
                    exact sT
                  | some q14 =>
                    have z14 : r14 = 0 := by rw [← ue14, o14h]; rfl
                    subst z14
                    have x6 : q6 = (k6, N6, D6) := by rw [← t6, o6h]; rfl
                    subst x6
                    have x14 : q14 = (k14, N14, D14) := by rw [← t14, o14h]; rfl
                    subst x14
                    have rq6 : RqB k6 N6 D6 := ((mlO_tells (a := (k1, N1, D1)) (b := (k2, N2, D2)) rq1 rq2).some o6h).2
                    have rq14 : RqB k14 N14 D14 := ((mlO_tells (a := (k1, N1, D1)) (b := (k3, N3, D3)) rq1 rq3).some o14h).2
                    go_upto_region 20 with fail
                    obtain ⟨⟨k15, N15, D15⟩, t15⟩ : ∃ r, oT (adO (k6, N6, D6) (k14, N14, D14)) = r := ⟨_, rfl⟩
                    obtain ⟨r15, ue15⟩ : ∃ r, oE (adO (k6, N6, D6) (k14, N14, D14)) = r := ⟨_, rfl⟩
                    have c15 := addU k6 k14 N6 D6 N14 D14 po6 qo6 po14 qo14 pc6 qc6 pc14 qc14 W14 P6 Q6 P14 Q14 TC rq6 rq14 k15 N15 D15 r15 t15 ue15
                    obtain ⟨e150, e151, e152, _, _, _, _, _⟩ := id X6
                    obtain ⟨f150, f151, f152, _, _, _, _, _⟩ := id X14
                    go_upto_region 21 with (go_at_call 12; refine c15.mono ?_; rintro e v15 ⟨po15, pc15, qo15, qc15, rfl, P15, Q15, d15⟩)
                    have st15 := d15.alloc d15.size (.cells #[.bool k15, .slice po15 (nl N15) pc15, .slice qo15 (nl D15) qc15] 25)
                    have X15 := B3q.new v15 (.bool k15) (.slice po15 (nl N15) pc15) (.slice qo15 (nl D15) qc15) 25
                    replace P15 := P15.made (.cells #[.bool k15, .slice po15 (nl N15) pc15, .slice qo15 (nl D15) qc15] 25)
                    replace Q15 := Q15.made (.cells #[.bool k15, .slice po15 (nl N15) pc15, .slice qo15 (nl D15) qc15] 25)
                    replace X1 := X1.below st15
                    replace P1 := P1.below st15
                    replace Q1 := Q1.below st15
                    replace X2 := X2.below st15
                    replace P2 := P2.below st15
                    replace Q2 := Q2.below st15
                    replace X3 := X3.below st15
                    replace P3 := P3.below st15
                    replace Q3 := Q3.below st15
                    replace X4 := X4.below st15
                    replace P4 := P4.below st15
                    replace Q4 := Q4.below st15
                    replace X5 := X5.below st15
                    replace P5 := P5.below st15
                    replace Q5 := Q5.below st15
                    replace X6 := X6.below st15
                    replace P6 := P6.below st15
                    replace Q6 := Q6.below st15
                    replace X7 := X7.below st15
                    replace P7 := P7.below st15
                    replace Q7 := Q7.below st15
                    replace X8 := X8.below st15
                    replace P8 := P8.below st15
                    replace Q8 := Q8.below st15
                    replace X10 := X10.below st15
                    replace P10 := P10.below st15
                    replace Q10 := Q10.below st15
                    replace X11 := X11.below st15
                    replace P11 := P11.below st15
                    replace Q11 := Q11.below st15
                    replace X12 := X12.below st15
                    replace P12 := P12.below st15
                    replace Q12 := Q12.below st15
                    replace X13 := X13.below st15
                    replace P13 := P13.below st15
                    replace Q13 := Q13.below st15
                    replace X14 := X14.below st15
                    replace P14 := P14.below st15
                    replace Q14 := Q14.below st15
                    replace TC := tabW_below TC st15
                    replace hbc := hbc.trans (st15.mono hbc.size)
                    generalize v15.alloc (.cells #[.bool k15, .slice po15 (nl N15) pc15, .slice qo15 (nl D15) qc15] 25) = W15 at *
                    generalize v15.heap.size = g15 at *
                    clear c15 d15 e150 e151 e152 f150 f151 f152
                    replace sT := sT.trans (st15.mono sT.size)
                    have lkC0 := likeU t13 ue13 t15 ue15 (ml_sum (a := (k1, N1, D1)) (b := (k2, N2, D2)) (c := (k3, N3, D3)) rq1 rq2 rq3 o8h o6h o14h) (fun r h => ((mlO_tells (a := (k1, N1, D1)) (b := (k8, N8, D8)) rq1 rq8).some h).2) po13 qo13 po15 qo15 pc13 qc13 pc15 qc15 W15 P13 Q13 P15 Q15 TC
                    obtain ⟨hC0, hC1, hC2, _, _, _, _, _⟩ := id X13
                    obtain ⟨lC0, lC1, lC2, _, _, _, _, _⟩ := id X15
                    go_wp2_with (go_at_call 25; refine lkC0.mono ?_; rintro e vC0 ⟨rfl, yC0⟩)
                    replace X1 := X1.below yC0
                    replace P1 := P1.below yC0
                    replace Q1 := Q1.below yC0
                    replace X2 := X2.below yC0
                    replace P2 := P2.below yC0
                    replace Q2 := Q2.below yC0
                    replace X3 := X3.below yC0
                    replace P3 := P3.below yC0
                    replace Q3 := Q3.below yC0
                    replace X4 := X4.below yC0
                    replace P4 := P4.below yC0
                    replace Q4 := Q4.below yC0
                    replace X5 := X5.below yC0
                    replace P5 := P5.below yC0
                    replace Q5 := Q5.below yC0
                    replace X6 := X6.below yC0
                    replace P6 := P6.below yC0
                    replace Q6 := Q6.below yC0
                    replace X7 := X7.below yC0
                    replace P7 := P7.below yC0
                    replace Q7 := Q7.below yC0
                    replace X8 := X8.below yC0
                    replace P8 := P8.below yC0
                    replace Q8 := Q8.below yC0
                    replace X10 := X10.below yC0
                    replace P10 := P10.below yC0
                    replace Q10 := Q10.below yC0
                    replace X11 := X11.below yC0
                    replace P11 := P11.below yC0
                    replace Q11 := Q11.below yC0
                    replace X12 := X12.below yC0
                    replace P12 := P12.below yC0
                    replace Q12 := Q12.below yC0
                    replace X13 := X13.below yC0
                    replace P13 := P13.below yC0
                    replace Q13 := Q13.below yC0
                    replace X14 := X14.below yC0
                    replace P14 := P14.below yC0
                    replace Q14 := Q14.below yC0
                    replace X15 := X15.below yC0
                    replace P15 := P15.below yC0
                    replace Q15 := Q15.below yC0
                    replace TC := tabW_below TC yC0
                    replace hbc := hbc.trans (yC0.mono hbc.size)
                    replace sT := sT.trans (yC0.mono sT.size)
                    go_meet
                    exact sT
      have sC : Below W8.heap.size W8 _ := hcut
      clear hcut
      replace X1 := X1.below sC
      replace P1 := P1.below sC
      replace Q1 := Q1.below sC
      replace X2 := X2.below sC
      replace P2 := P2.below sC
      replace Q2 := Q2.below sC
      replace X3 := X3.below sC
      replace P3 := P3.below sC
      replace Q3 := Q3.below sC
      replace X4 := X4.below sC
      replace P4 := P4.below sC
      replace Q4 := Q4.below sC
      replace X5 := X5.below sC
      replace P5 := P5.below sC
      replace Q5 := Q5.below sC
      replace X6 := X6.below sC
      replace P6 := P6.below sC
      replace Q6 := Q6.below sC
      replace X7 := X7.below sC
      replace P7 := P7.below sC
      replace Q7 := Q7.below sC
      replace X8 := X8.below sC
      replace P8 := P8.below sC
      replace Q8 := Q8.below sC
      replace TC := tabW_below TC sC
      replace hbc := hbc.trans (sC.mono hbc.size)
      as_aux_lemma =>
        cases o6h : mlO (k1, N1, D1) (k2, N2, D2) with
        | none =>
          have z6 : r6 = 3 := by rw [← ue6, o6h]; rfl
          subst z6
          have caw := rawake_any wc TC
          go_wp2_with (go_at_call 22; refine caw.mono ?_; rintro e vq ⟨rfl, dq⟩)
          go_ret
          exact ⟨rfl, hbc.trans (dq.mono hbc.size)⟩
        | some q6 =>
          have z6 : r6 = 0 := by rw [← ue6, o6h]; rfl
          subst z6
          have x6 : q6 = (k6, N6, D6) := by rw [← t6, o6h]; rfl
          subst x6
          have rq6 : RqB k6 N6 D6 := ((mlO_tells (a := (k1, N1, D1)) (b := (k2, N2, D2)) rq1 rq2).some o6h).2
          go_upto_region 25 with fail
          by_cases hN : N2 = 0
          · skip
            have cD := rdivz_any k6 k2 N6 D6 N2 D2 po6 qo6 po2 qo2 pc6 qc6 pc2 qc2 wc P6 Q6 P2 Q2 TC rq6 rq2 hN
            have HN0 : Hid _ := hN
            clear hN
            unfold GaveR at cD
            obtain ⟨e0, e1, e2, _, _, _, _, _⟩ := id X6
            obtain ⟨f0, f1, f2, _, _, _, _, _⟩ := id X2
            go_upto_region 26 with (go_at_call 13; refine cD.mono ?_; rintro e vd ⟨rfl, dd⟩)
            have sd := dd.alloc dd.size (.cells #[.bool false, .slice none 0 0, .slice none 0 0] 25)
            have XD := B3q.new vd (.bool false) (.slice none 0 0) (.slice none 0 0) 25
            replace X2 := X2.below sd
            replace P2 := P2.below sd
            replace Q2 := Q2.below sd
            replace TC := tabW_below TC sd
            replace hbc := hbc.trans (sd.mono hbc.size)
            generalize vd.alloc (.cells #[.bool false, .slice none 0 0, .slice none 0 0] 25) = WD at *
            generalize vd.heap.size = gD at *
            have cS := rsign_any k2 N2 D2 po2 qo2 pc2 qc2 WD P2.1 Q2.1 TC rq2
            have sg0 : sgR k2 N2 = 0 := by unfold sgR; rw [if_pos HN0.out]
            rw [sg0] at cS
            have caw := fun w' (h : Below WD.heap.size WD w') => rawake_any w' (tabW_below TC h)
            clear e0 e1 e2 f0 f1 f2 cD sg0
            obtain ⟨f0, f1, f2, _, _, _, _, _⟩ := id X2
            go_wp2_with (first | (go_at_call 16; refine cS.mono ?_; rintro e vs ⟨rfl, ds⟩; have XE := XD.below ds; obtain ⟨z0, z1, z2, _, _, _, _, _⟩ := id XE) | (go_at_call 22; refine (caw _ ds).mono ?_; rintro e vw ⟨rfl, dw⟩))
            go_ret
            exact ⟨rfl, hbc.trans ((ds.trans (dw.mono ds.size)).mono hbc.size)⟩
          · skip
            obtain ⟨⟨k16, N16, D16⟩, t16⟩ : ∃ r, oT (dvO (k6, N6, D6) (k2, N2, D2)) = r := ⟨_, rfl⟩
            obtain ⟨r16, ue16⟩ : ∃ r, oE (dvO (k6, N6, D6) (k2, N2, D2)) = r := ⟨_, rfl⟩
            have c16 := divU k6 k2 N6 D6 N2 D2 po6 qo6 po2 qo2 pc6 qc6 pc2 qc2 wc P6 Q6 P2 Q2 TC rq6 rq2 k16 N16 D16 r16 hN t16 ue16
            obtain ⟨e160, e161, e162, _, _, _, _, _⟩ := id X6
            obtain ⟨f160, f161, f162, _, _, _, _, _⟩ := id X2
            go_upto_region 26 with (go_at_call 13; refine c16.mono ?_; rintro e v16 ⟨po16, pc16, qo16, qc16, rfl, P16, Q16, d16⟩)
            have st16 := d16.alloc d16.size (.cells #[.bool k16, .slice po16 (nl N16) pc16, .slice qo16 (nl D16) qc16] 25)
            have X16 := B3q.new v16 (.bool k16) (.slice po16 (nl N16) pc16) (.slice qo16 (nl D16) qc16) 25
            replace P16 := P16.made (.cells #[.bool k16, .slice po16 (nl N16) pc16, .slice qo16 (nl D16) qc16] 25)
            replace Q16 := Q16.made (.cells #[.bool k16, .slice po16 (nl N16) pc16, .slice qo16 (nl D16) qc16] 25)
            replace X1 := X1.below st16
            replace P1 := P1.below st16
            replace Q1 := Q1.below st16
            replace X2 := X2.below st16
            replace P2 := P2.below st16
            replace Q2 := Q2.below st16
            replace X3 := X3.below st16
            replace P3 := P3.below st16
            replace Q3 := Q3.below st16
            replace X4 := X4.below st16
            replace P4 := P4.below st16
            replace Q4 := Q4.below st16
            replace X5 := X5.below st16
            replace P5 := P5.below st16
            replace Q5 := Q5.below st16
            replace X6 := X6.below st16
            replace P6 := P6.below st16
            replace Q6 := Q6.below st16
            replace X7 := X7.below st16
            replace P7 := P7.below st16
            replace Q7 := Q7.below st16
            replace X8 := X8.below st16
            replace P8 := P8.below st16
            replace Q8 := Q8.below st16
            replace TC := tabW_below TC st16
            replace hbc := hbc.trans (st16.mono hbc.size)
            generalize v16.alloc (.cells #[.bool k16, .slice po16 (nl N16) pc16, .slice qo16 (nl D16) qc16] 25) = W16 at *
            generalize v16.heap.size = g16 at *
            clear c16 d16 e160 e161 e162 f160 f161 f162
            have cS := rsign_any k2 N2 D2 po2 qo2 pc2 qc2 W16 P2.1 Q2.1 TC rq2
            have sg0 : (sgR k2 N2 == 0) = false := by unfold sgR; rw [if_neg hN]; cases k2 <;> rfl
            have lk := fun w' (h : Below W16.heap.size W16 w') => likeU t16 ue16 (show oT (some (k1, N1, D1)) = (k1, N1, D1) from rfl) (show oE (some (k1, N1, D1)) = 0 from rfl) (dv_back (a := (k1, N1, D1)) (b := (k2, N2, D2)) rq1 rq2 hN o6h) (fun r h => by rw [dv_back (a := (k1, N1, D1)) (b := (k2, N2, D2)) rq1 rq2 hN o6h] at h; cases h; exact rq1) po16 qo16 po1 qo1 pc16 qc16 pc1 qc1 w' (P16.below h) (Q16.below h) (P1.below h) (Q1.below h) (tabW_below TC h)
            have caw := fun w' (h : Below W16.heap.size W16 w') => rawake_any w' (tabW_below TC h)
            generalize sgR k2 N2 = sg at *
            obtain ⟨f0, f1, f2, _, _, _, _, _⟩ := id X2
            go_wp2_with (first | (go_at_call 16; refine cS.mono ?_; rintro e vs ⟨rfl, ds⟩; have XE := X16.below ds; obtain ⟨z0, z1, z2, _, _, _, _, _⟩ := id XE; have XF := X1.below ds; obtain ⟨w0, w1, w2, _, _, _, _, _⟩ := id XF) | (go_at_call 25; refine (lk _ ds).mono ?_; rintro e vl ⟨rfl, dl⟩; have ds2 := ds.trans (dl.mono ds.size)) | (go_at_call 22; refine (caw _ ds2).mono ?_; rintro e vw ⟨rfl, dw⟩))
            go_ret
            exact ⟨rfl, hbc.trans ((ds2.trans (dw.mono ds2.size)).mono hbc.size)⟩
end Go.Proofs.YtpnmjmidlbilcaaDoor
