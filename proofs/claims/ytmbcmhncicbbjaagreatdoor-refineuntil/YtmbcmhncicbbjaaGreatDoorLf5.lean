/- RefineLefts, whatever matrix and lists it is given: the walk. -/
import Derived.Test.YtmbcmhncicbbjaaGreatDoorLf4
import Derived.Test.YtmbcmhncicbbjaaGreatDoorRF
import Derived.Test.YtmbcmhncicbbjaaGreatDoorMx13
namespace Go.Proofs.YtmbcmhncicbbjaaGreatDoor
open Go.RowKit

theorem sameL_my (xs : List Nat) : sameL xs xs = true := sameL_yes rfl fun i _ => (by unfold sameB; generalize xs.getD i 0 = y; split <;> simp [*])
set_option maxRecDepth 100000 in
set_option maxHeartbeats 4000000 in
theorem lefts_law (r c : Int) (ms xs bs : List Nat) (ao xo bo : Option Addr) (cap xc bc : Nat) (w : World) (hT : TabW w) (hM : GRow w ao ms) (hX : GRow w xo xs) (hB : GRow w bo bs) (fM : FW ms) (fX : FW xs) (fB : FW bs) (sM : ao = none → cap = 0 ∧ ms.length = 0) (sX : xo = none → xc = 0 ∧ xs.length = 0) (sB : bo = none → bc = 0 ∧ bs.length = 0) :
    Calls Tryz.prog 3 #[mxV r c ao ms.length cap, .slice xo xs.length xc, .slice bo bs.length bc] w fun e w' => e = .returned (.bool true) ∧ Below w.heap.size w w' := by
  have hg := fun W => great14 r c ao ms.length cap W
  have M0 := B3.new w (.int .i64 r) (.int .i64 c) (.slice ao ms.length cap) 24
  have B0 : Below w.heap.size w (w.alloc (.cells #[.int .i64 r, .int .i64 c, .slice ao ms.length cap] 24)) := below_one w _
  by_cases g1 : 100 < ms.length
  · rw [decide_eq_true g1] at hg
    clear g1
    go_enter Tryz.func3, Tryz.ntmps3
    go_wp2_with (first
      | (go_at_call 6; refine (awake14 _ (tabW_below hT B0)).mono ?_; rintro e w1 ⟨rfl, b1⟩; obtain ⟨m0, m1, m2, _⟩ := M0.below b1; have z1 := B0.trans (b1.mono B0.size))
      | (go_at_call 7; refine (hg _).mono ?_; rintro e w2 ⟨rfl, b2⟩; have z2 := z1.trans (b2.mono z1.size)))
    go_ret
    exact ⟨rfl, z2⟩
  · rw [decide_eq_false g1] at hg
    by_cases g2 : 100 < xs.length
    · have i2 : (100 : Int) < (xs.length : Int) := by omega
      clear g1 g2
      go_enter Tryz.func3, Tryz.ntmps3
      go_wp2_with (first
        | (go_at_call 6; refine (awake14 _ (tabW_below hT B0)).mono ?_; rintro e w1 ⟨rfl, b1⟩; obtain ⟨m0, m1, m2, _⟩ := M0.below b1; have z1 := B0.trans (b1.mono B0.size))
        | (go_at_call 7; refine (hg _).mono ?_; rintro e w2 ⟨rfl, b2⟩; have z2 := z1.trans (b2.mono z1.size)))
      go_ret
      exact ⟨rfl, z2⟩
    · have i2 : ¬ (100 : Int) < (xs.length : Int) := by omega
      by_cases g3 : 100 < bs.length
      · have i3 : (100 : Int) < (bs.length : Int) := by omega
        clear g1 g2 g3
        go_enter Tryz.func3, Tryz.ntmps3
        go_wp2_with (first
          | (go_at_call 6; refine (awake14 _ (tabW_below hT B0)).mono ?_; rintro e w1 ⟨rfl, b1⟩; obtain ⟨m0, m1, m2, _⟩ := M0.below b1; have z1 := B0.trans (b1.mono B0.size))
          | (go_at_call 7; refine (hg _).mono ?_; rintro e w2 ⟨rfl, b2⟩; have z2 := z1.trans (b2.mono z1.size)))
        go_ret
        exact ⟨rfl, z2⟩
      · have i3 : ¬ (100 : Int) < (bs.length : Int) := by omega
        have cM := fun W h => lentM_any r c ms ao cap W h sM (by omega)
        have cX := fun W h => lentR_any xs xo xc W h sX (by omega)
        have cB := fun W h => lentR_any bs bo bc W h sB (by omega)
        have kM := fun g W h1 h2 => keptM_any r c ms ao cap g W h1 fM h2 (by omega)
        have kX := fun g W h1 h2 => keptR_any xs xo xc g W h1 fX h2 (by omega)
        have kB := fun g W h1 h2 => keptR_any bs bo bc g W h1 fB h2 (by omega)
        have pL := fun o1 o2 o3 W t h1 h2 h3 => left_any r c ms xs bs (some ⟨o1, 0, none⟩) (some ⟨o2, 0, none⟩) (some ⟨o3, 0, none⟩) (ms.length + 12) (xs.length + 12) (bs.length + 12) W t h1 h2 h3 fM fX fB (by omega) (by omega) (by omega) (Or.inr (Or.inl ⟨o1, 0, rfl⟩)) (by omega)
        have dL := fun W h1 h2 h3 => dleft_any r c ms xs bs ao xo bo cap xc bc W h1 h2 h3 fM fX fB (by omega) (by omega) (by omega)
        have lL : (lfA r c ms xs bs).1.length ≤ 1125899906842624 := Nat.le_trans (lfA_len r c ms xs bs) (by omega)
        obtain ⟨q, hq⟩ : ∃ q, lfA r c ms xs bs = q := ⟨_, rfl⟩
        rw [hq] at pL dL lL
        obtain ⟨zs, er⟩ := q
        simp only at lL
        have sR := fun o1 o2 c1 c2 W h1 h2 f => sreals_any zs zs o1 o2 c1 c2 W h1 h2 f f lL lL
        rw [sameL_my] at sR
        have eer : (er == er) = true := by simp
        clear g1 g2 g3 hq lL fM fX fB sM sX sB
        go_enter Tryz.func3, Tryz.ntmps3
        go_upto_region 5 with (first
          | (go_at_call 6; refine (awake14 _ (tabW_below hT B0)).mono ?_; rintro e w1 ⟨rfl, b1⟩; have M1 := M0.below b1; obtain ⟨m0, m1, m2, _⟩ := id M1; have z1 := B0.trans (b1.mono B0.size))
          | (go_at_call 7; refine (hg _).mono ?_; rintro e w2 ⟨rfl, b2⟩; have z2 := z1.trans (b2.mono z1.size)))
        have M2 := M1.below b2
        clear b1 b2 M1 M0 B0 z1 m0 m1 m2 hg i2 i3
        obtain ⟨m0, m1, m2, _⟩ := id M2
        go_upto_region 6 with (first
          | (go_at_call 8; refine (cM _ (hM.below z2)).mono ?_; rintro e w3 ⟨o1, rfl, l3, _, b3⟩; have z3 := z2.trans (b3.mono z2.size))
          | (go_at_call_of 9 (Value.slice xo xs.length xc); refine (cX _ (hX.below z3)).mono ?_; rintro e w4 ⟨rfl, l4, b4⟩; have z4 := z3.trans (b4.mono z3.size))
          | (go_at_call_of 9 (Value.slice bo bs.length bc); refine (cB _ (hB.below z4)).mono ?_; rintro e w5 ⟨rfl, l5, b5⟩; have z5 := z4.trans (b5.mono z4.size)))
        have N5 := (((M2.below b3).below b4).below b5).alloc (.cells #[.int .i64 r, .int .i64 c, .slice (some ⟨o1, 0, none⟩) ms.length (ms.length + 12)] 24)
        have K5 := B3.new w5 (.int .i64 r) (.int .i64 c) (.slice (some ⟨o1, 0, none⟩) ms.length (ms.length + 12)) 24
        have bo5 : Below w5.heap.size w5 (w5.alloc (.cells #[.int .i64 r, .int .i64 c, .slice (some ⟨o1, 0, none⟩) ms.length (ms.length + 12)] 24)) := (Below.refl _ _).alloc (Nat.le_refl _) _
        have a1 : LentF (w5.alloc (.cells #[.int .i64 r, .int .i64 c, .slice (some ⟨o1, 0, none⟩) ms.length (ms.length + 12)] 24)) o1 ms := ((l3.below b4).below b5).below bo5
        have a2 : LentF (w5.alloc (.cells #[.int .i64 r, .int .i64 c, .slice (some ⟨o1, 0, none⟩) ms.length (ms.length + 12)] 24)) w3.heap.size xs := (l4.below b5).below bo5
        have a3 : LentF (w5.alloc (.cells #[.int .i64 r, .int .i64 c, .slice (some ⟨o1, 0, none⟩) ms.length (ms.length + 12)] 24)) w4.heap.size bs := l5.below bo5
        have z6 : Below w.heap.size w (w5.alloc (.cells #[.int .i64 r, .int .i64 c, .slice (some ⟨o1, 0, none⟩) ms.length (ms.length + 12)] 24)) := z5.trans (bo5.mono z5.size)
        clear M2 b3 b4 b5 l3 l4 l5 z2 z3 z4 z5 bo5 cM cX cB m0 m1 m2
        generalize w5.alloc (.cells #[.int .i64 r, .int .i64 c, .slice (some ⟨o1, 0, none⟩) ms.length (ms.length + 12)] 24) = V at *
        generalize w3.heap.size = o2 at *
        generalize w4.heap.size = o3 at *
        generalize w5.heap.size = o4 at *
        obtain ⟨m0, m1, m2, _⟩ := id N5
        obtain ⟨k0, k1, k2, _⟩ := id K5
        have pL' := pL o1 o2 o3 V (tabW_below hT z6) a1.row a2.row a3.row
        clear pL
        go_upto_region 7 with (go_at_call 10; refine pL'.mono ?_; rintro e w7 ⟨p1, c1, rfl, r1, f1, _, _, b7⟩)
        have z7 := z6.trans (b7.mono z6.size)
        have N7 := N5.below b7
        have K7 := K5.below b7
        have A1 := a1.below b7
        have A2 := a2.below b7
        have A3 := a3.below b7
        clear N5 K5 a1 a2 a3 b7 z6 m0 m1 m2 k0 k1 k2 pL'
        obtain ⟨m0, m1, m2, _⟩ := id N7
        have dL' := dL w7 (hM.below z7) (hX.below z7) (hB.below z7)
        clear dL
        go_upto_region 8 with (go_at_call 11; refine dL'.mono ?_; rintro e w8 ⟨p2, c2, rfl, r2, f2, _, _, b8⟩)
        have z8 := z7.trans (b8.mono z7.size)
        have N8 := N7.below b8
        have K8 := K7.below b8
        have E1 := A1.below b8
        have E2 := A2.below b8
        have E3 := A3.below b8
        have R1 := r1.below b8
        clear N7 K7 A1 A2 A3 b8 z7 dL' r1 m0 m1 m2
        obtain ⟨m0, m1, m2, _⟩ := id N8
        obtain ⟨k0, k1, k2, _⟩ := id K8
        go_wp2_with (first
          | (go_at_call 12; refine (sR _ _ _ _ _ R1 r2 f1).mono ?_; rintro e w9 ⟨rfl, b9⟩; obtain ⟨m0, m1, m2, _⟩ := N8.below b9; obtain ⟨k0, k1, k2, _⟩ := K8.below b9; have z9 := z8.trans (b9.mono z8.size))
          | (go_at_call 13; refine (kM _ _ (hM.below z9) (E1.below b9)).mono ?_; rintro e wa ⟨rfl, ba⟩; have za := z9.trans (ba.mono z9.size); have e2 := (E2.below b9).below ba; have e3 := (E3.below b9).below ba)
          | (go_at_call_of 14 (Value.slice xo xs.length xc); refine (kX _ _ (hX.below za) e2).mono ?_; rintro e wb ⟨rfl, bb⟩; have zb := za.trans (bb.mono za.size); have e4 := e3.below bb)
          | (go_at_call_of 14 (Value.slice bo bs.length bc); refine (kB _ _ (hB.below zb) e4).mono ?_; rintro e wc ⟨rfl, bc⟩; have zc := zb.trans (bc.mono zb.size)))
        go_ret
        exact ⟨rfl, zc⟩
end Go.Proofs.YtmbcmhncicbbjaaGreatDoor
