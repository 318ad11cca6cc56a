/- BarsTurned: the walk. -/
import Derived.Test.YtbfefoidpgbjaaaGreatDoorSkd
import Derived.Test.YtbfefoidpgbjaaaGreatDoorTA
import Derived.Test.YtbfefoidpgbjaaaGreatDoorTF
import Derived.Test.YtbfefoidpgbjaaaGreatDoorBI
import Derived.Test.YtbfefoidpgbjaaaGreatDoorBF
import Derived.Handy
namespace Go.Proofs.YtbfefoidpgbjaaaGreatDoor
open Go.RowKit
set_option maxRecDepth 100000 in
set_option maxHeartbeats 16000000 in
theorem bturned_law (n : Int) (A F M : List Int) (R : List Nat) (aa fa ma na : Option Addr) (ac fc mc nc : Nat) (which dx dy : Int) (w : World)
  (hA : IsRow w aa A) (hF : IsRow w fa F) (hM : IsRow w ma M) (hR : FsRow w na R) (wA : I64s A) (wF : I64s F) (wM : I64s M) (wR : F64s R)
  (lA : A.length ≤ 1125899906842624) (lF : F.length ≤ 1125899906842624) (lM : M.length ≤ 1125899906842624) (lR : R.length ≤ 1125899906842624) (hT : TabW w) :
  Calls Tryz.prog 3 #[.agg #[.int .i64 n, .slice aa A.length ac, .slice fa F.length fc, .slice ma M.length mc, .slice na R.length nc], .int .i64 which, .int .i64 dx, .int .i64 dy] w fun e w' => e = .returned (.bool true) ∧ Below w.heap.size w w' := by
 have cPl := fun W (hb : Below w.heap.size w W) => plan_made n A F M R aa fa ma na ac fc mc nc W (hA.below hb) (hF.below hb) (hM.below hb) (hR.below hb) wA wF wM wR lA lF lM lR
 have cAw := fun W (hb : Below w.heap.size w W) => bawake_any W (tabW_below hT hb)
 have TW := fun W (hb : Below w.heap.size w W) => tabW_below hT hb
 have cDx := fun W => spick_any dx 1048576 (by omega) (by omega) W
 have cDy := fun W => spick_any dy 1048576 (by omega) (by omega) W
 have hDx := pkA_lt dx (show 1 ≤ 1048576 by omega)
 have hDy := pkA_lt dy (show 1 ≤ 1048576 by omega)
 generalize pkA dx 1048576 = px at *
 generalize pkA dy 1048576 = py at *
 generalize A.length = LA at *
 generalize F.length = LF at *
 generalize M.length = LM at *
 generalize R.length = LR at *
 clear hA hF hM hR wA wF wM wR lA lF lM lR hT
 have X0 := S5.new w (.int .i64 n) (.slice aa LA ac) (.slice fa LF fc) (.slice ma LM mc) (.slice na LR nc) 25
 have hb0 : Below w.heap.size w (w.alloc (.cells #[.int .i64 n, .slice aa LA ac, .slice fa LF fc, .slice ma LM mc, .slice na LR nc] 25)) := (Below.refl _ _).alloc (Nat.le_refl _) _
 go_enter Tryz.func3, Tryz.ntmps3
 go_upto_region 1 with fail
 generalize w.alloc (.cells #[.int .i64 n, .slice aa LA ac, .slice fa LF fc, .slice ma LM mc, .slice na LR nc] 25) = W0 at *
 obtain ⟨x0, x1, x2, x3, x4, xl⟩ := id X0
 go_upto_region 2 with (go_at_call 4; refine (cPl _ hb0).mono ?_; rintro e w1 ⟨js, ms, jo, mo, jc, mc', rfl, jr, mr, hJ, hjn, hM, hmn, hz, b1⟩)
 have hb1 := hb0.trans (b1.mono hb0.size)
 have hcp := sk_cp hJ hjn.2 hM hmn
 have hG := hJ.gen hjn.2
 have hjw := hG.jw (by omega)
 have hmw := hM.mw
 have hspr : sprA js ms = (sgAll (spM js ms) ms.length, 0) := by unfold sprA; rw [hcp, if_pos rfl]
 have cS := fun W (hb : Below w1.heap.size w1 W) => bspringsA_any js ms jo mo jc mc' W (jr.below hb) hjw (by omega) (mr.below hb) hmw (by omega) (TW W (hb1.trans (hb.mono hb1.size)))
 rw [hspr] at cS
 have cC := fun W (hb : Below w1.heap.size w1 W) => skcopy_any js ms jo mo jc mc' W (jr.below hb) (by omega) (by omega) (mr.below hb) (by omega) hz
 have hLw := sprA_w (js := js) (ms := ms) hmw
 have hLn := sprA_len js ms
 rw [hspr] at hLw hLn
 clear cPl hb0 b1 X0 x0 x1 x2 x3 x4 xl hspr
 obtain ⟨J, hJl⟩ : ∃ J, js.length = J := ⟨_, rfl⟩
 obtain ⟨K, hKl⟩ : ∃ K, ms.length = K := ⟨_, rfl⟩
 have HJl : Hid (js.length = J) := hJl
 have HKl : Hid (ms.length = K) := hKl
 obtain ⟨L, hL⟩ : ∃ L, sgAll (spM js ms) ms.length = L := ⟨_, rfl⟩
 have HL : Hid (sgAll (spM js ms) ms.length = L) := hL
 rw [hL] at cS hLw hLn
 rw [hJl] at cS cC hjn hM ⊢
 rw [hKl] at cS cC hmn hz ⊢
 clear hL hJl hKl
 have PB := PBox.new w1 (.slice jo J jc) (.slice mo K mc') 29
 have st := (Below.refl w1.heap.size w1).alloc (Nat.le_refl _) (.cells #[.slice jo J jc, .slice mo K mc'] 29)
 have hpl : w1.heap.size < (w1.alloc (.cells #[.slice jo J jc, .slice mo K mc'] 29)).heap.size := by simp
 generalize w1.alloc (.cells #[.slice jo J jc, .slice mo K mc'] 29) = W1 at *
 obtain ⟨o0, o1, _, _, ol⟩ := id PB
 go_upto_region 3 with (go_at_call 5; refine (cS _ st).mono ?_; rintro e w2 ⟨lo, lc, rfl, rs, b2⟩)
 replace rs : SgRow w2 lo L := rs
 replace PB := PB.below b2
 have st2 := st.trans (b2.mono st.size)
 have hpl2 : w1.heap.size < w2.heap.size := Nat.lt_of_lt_of_le hpl b2.size
 clear o0 o1 ol b2 hpl st
 obtain ⟨o0, o1, _, _, ol⟩ := id PB
 go_upto_region 4 with (go_at_call 6; refine (cC _ st2).mono ?_; rintro e w3 ⟨jv, mv, rfl, hOJ, hOM, hap, b3⟩; rw [HJl.out] at hOJ; rw [HKl.out] at hOM; obtain ⟨g, jcap, rfl, hg, J0⟩ := jc_of hOJ HJl.out (by omega); obtain ⟨mo2, h, mcap, rfl, hm2, M0⟩ := mc_of hOM HKl.out)
 have hgh : 0 < K → h ≠ g := fun q e => hap g rfl (by rw [(hm2 q).2.1, e])
 have hh2 : 0 < K → w2.heap.size ≤ h := fun q => (hm2 q).2.2
 have hmo : 0 < K → mo2 = some ⟨h, 0, none⟩ := fun q => (hm2 q).1
 clear o0 o1 ol hOJ hOM hap hm2 cC
 have QB := PBox.new w3 (.slice (some ⟨g, 0, none⟩) J jcap) (.slice mo2 K mcap) 29
 have b4 := b3.alloc b3.size (.cells #[.slice (some ⟨g, 0, none⟩) J jcap, .slice mo2 K mcap] 29)
 have hgq : g ≠ w3.heap.size := Nat.ne_of_lt J0.lt
 have hhq : 0 < K → h ≠ w3.heap.size := fun q => Nat.ne_of_lt (M0.lt q)
 replace J0 := J0.belowB J0.lt ((Below.refl w3.heap.size w3).alloc (Nat.le_refl _) (.cells #[.slice (some ⟨g, 0, none⟩) J jcap, .slice mo2 K mcap] 29))
 replace M0 := M0.below ((Below.refl w3.heap.size w3).alloc (Nat.le_refl _) (.cells #[.slice (some ⟨g, 0, none⟩) J jcap, .slice mo2 K mcap] 29))
 have hqz : w2.heap.size ≤ w3.heap.size := b3.size
 generalize w3.alloc (.cells #[.slice (some ⟨g, 0, none⟩) J jcap, .slice mo2 K mcap] 29) = W3 at *
 generalize w3.heap.size = qb at *
 clear b3
 go_upto_region 5 with fail
 go_loopg [13] J (fun gh v wk => ∃ (i : Nat) (f : Nat → Jn), i ≤ J ∧ gh = J - i ∧ v = .int .i64 i ∧ JC wk g J f ∧ Hid (∀ k, k < J → f k = if k < i then mvJ ((px : Int) - 524288) ((py : Int) - 524288) (js.getD k jz) else js.getD k jz) ∧ MC wk h K (fun k => ms.getD k mz) ∧ PBox wk qb (.slice (some ⟨g, 0, none⟩) J jcap) (.slice mo2 K mcap) ∧ Below w2.heap.size w2 wk)
 case atStart => exact ⟨0, _, by omega, rfl, rfl, J0, fun k _ => by rw [if_neg (by omega)], M0, QB, b4⟩
 case round =>
  clear J0 M0 QB b4
  obtain ⟨i, f, hi, hgk, rfl, JI, hf, MI, QI, bI⟩ := hrel
  have HG : Hid (gk = J - i) := hgk
  clear hgk
  obtain ⟨o0, o1, _, _, ol⟩ := id QI
  by_cases hlt : i < J
  ·have i1 : (i : Int) < (J : Int) := by omega
   obtain ⟨_, cX, cY, _⟩ := JI.c i hlt
   have zX := JI.z (i * 4 + 1)
   have zY := JI.z (i * 4 + 2)
   have hfi := hf.out i hlt
   rw [if_neg (by omega)] at hfi
   obtain ⟨x, y, fx, ej, hxb, hyb, _, _⟩ := hG i (by rw [HJl.out]; exact hlt)
   rw [hfi, ej] at cX cY
   simp only at cX cY
   have q1 : IntKind.i32.wrap (px : Int) = (px : Int) := by rw [IntKind.wrap_i32]; omega
   have q2 : IntKind.i32.wrap ((px : Int) - 524288) = (px : Int) - 524288 := by rw [IntKind.wrap_i32]; omega
   have q3 : IntKind.i32.wrap (x + ((px : Int) - 524288)) = x + ((px : Int) - 524288) := by rw [IntKind.wrap_i32]; omega
   have r1 : IntKind.i32.wrap (py : Int) = (py : Int) := by rw [IntKind.wrap_i32]; omega
   have r2 : IntKind.i32.wrap ((py : Int) - 524288) = (py : Int) - 524288 := by rw [IntKind.wrap_i32]; omega
   have r3 : IntKind.i32.wrap (y + ((py : Int) - 524288)) = y + ((py : Int) - 524288) := by rw [IntKind.wrap_i32]; omega
   go_upto_region 6 with fail
   go_region_with (go_at_call 7; refine (cDx _).mono ?_; rintro e w4 ⟨rfl, ew⟩; obtain rfl := ew.symm)
   all_goals
    have J2 := (JI.setX hlt (x + ((px : Int) - 524288))).belowB (B := (wr.setCell ⟨g, i * 4 + 1, none⟩ (.int .i32 (x + ((px : Int) - 524288)))).heap.size) (JI.setX hlt _).lt ((Below.refl _ _).drew)
    have Q2 := (QI.far hgq.symm (i := i * 4 + 1) (.int .i32 (x + ((px : Int) - 524288)))).below ((Below.refl _ _).drew)
    have M2 := (MI.far hgh (o := i * 4 + 1) (.int .i32 (x + ((px : Int) - 524288)))).below ((Below.refl _ _).drew)
    have b2' := (bI.setCell (p := ⟨g, i * 4 + 1, none⟩) hg (.int .i32 (x + ((px : Int) - 524288)))).drew
    have hf2 : Hid ((if i = i then ((f i).1, x + ((px : Int) - 524288), (f i).2.2) else f i) = (sN 106 i, x + ((px : Int) - 524288), y, fx)) := (show _ = _ by rw [if_pos rfl, hfi, ej])
    have cY2 : (wr.setCell ⟨g, i * 4 + 1, none⟩ (.int .i32 (x + ((px : Int) - 524288)))).drew.cell? ⟨g, i * 4 + 2, none⟩ = some (.int .i32 y) := by
     have := (J2.c i hlt).2.2.1
     rw [hf2.out] at this
     exact this
    have zY2 := J2.z (i * 4 + 2)
    clear o0 o1 ol cX cY zX zY q1 q2 q3 cDx
    generalize (wr.setCell ⟨g, i * 4 + 1, none⟩ (.int .i32 (x + ((px : Int) - 524288)))).drew = V at *
    obtain ⟨o0, o1, _, _, ol⟩ := id Q2
    go_upto_region 7 with fail
    go_region_with (go_at_call 7; refine (cDy _).mono ?_; rintro e w4 ⟨rfl, ew⟩; obtain rfl := ew.symm)
    all_goals
     have J3 := (J2.setY hlt (y + ((py : Int) - 524288))).belowB (B := (V.setCell ⟨g, i * 4 + 2, none⟩ (.int .i32 (y + ((py : Int) - 524288)))).heap.size) (J2.setY hlt _).lt ((Below.refl _ _).drew)
     have Q3 := (Q2.far hgq.symm (i := i * 4 + 2) (.int .i32 (y + ((py : Int) - 524288)))).below ((Below.refl _ _).drew)
     have M3 := (M2.far hgh (o := i * 4 + 2) (.int .i32 (y + ((py : Int) - 524288)))).below ((Below.refl _ _).drew)
     have b3' := (b2'.setCell (p := ⟨g, i * 4 + 2, none⟩) hg (.int .i32 (y + ((py : Int) - 524288)))).drew
     go_wp2
     go_roundg (J - (i + 1))
     case measure => rw [HG.out]; omega
     case rel =>
      refine ⟨i + 1, _, by omega, rfl, by go_num, J3, (show ∀ k, k < J → _ = _ from fun k hk => ?_), M3, Q3, b3'⟩
      by_cases e : k = i
      ·subst e
       rw [if_pos rfl, hf2.out, if_pos (by omega), ej]
       rfl
      ·rw [if_neg e, if_neg e, hf.out k hk]
       by_cases q : k < i
       ·rw [if_pos q, if_pos (by omega)]
       ·rw [if_neg q, if_neg (by omega)]
  ·have e : i = J := by omega
   subst e
   have i1 : ¬ (i : Int) < (i : Int) := by omega
   clear o0 o1 ol cDx cDy i1
   have hGm := hG.mv (dx := (px : Int) - 524288) (dy := (py : Int) - 524288) (by omega) (by omega)
   have jr2 : JRow wr (some ⟨g, 0, none⟩) (mvL ((px : Int) - 524288) ((py : Int) - 524288) js) := JI.row ((mvL_len _ _ _).trans HJl.out) (fun k hk => by rw [hf.out k hk, if_pos hk, mvL_at (by rw [HJl.out]; exact hk)])
   have mr2 : MRow wr mo2 ms := MI.row hmo HKl.out (fun _ _ => rfl)
   have hml : (mvL ((px : Int) - 524288) ((py : Int) - 524288) js).length = i := (mvL_len _ _ _).trans HJl.out
   have hsp2 : sprA (mvL ((px : Int) - 524288) ((py : Int) - 524288) js) ms = (L, 0) := by
    unfold sprA cpA
    rw [hGm.ck (by omega) (by omega), if_pos rfl, hml, sk_cm hM (by rw [HKl.out]; exact hmn), if_pos rfl, sgAll_moved hG (by omega) (by rw [HJl.out]; exact hM) (by omega) (by omega), HL.out]
   have hwr := hb1.trans ((st2.trans (bI.mono st2.size)).mono hb1.size)
   have cS2 := bspringsA_any (mvL ((px : Int) - 524288) ((py : Int) - 524288) js) ms (some ⟨g, 0, none⟩) mo2 jcap mcap wr jr2 (hGm.jw (by omega)) (by omega) mr2 hmw (by rw [HKl.out]; omega) (TW wr hwr)
   rw [hsp2, hml, HKl.out] at cS2
   obtain ⟨o0, o1, _, _, ol⟩ := id QI
   go_upto_region 10 with (go_at_call 5; refine cS2.mono ?_; rintro e w5 ⟨lo2, lc2, rfl, rs2, b5⟩)
   replace rs2 : SgRow w5 lo2 L := rs2
   have rsw := (rs.below bI).below b5
   have hw5 := hwr.trans (b5.mono hwr.size)
   have cSm := samesprings_any L hLw lo lo2 lc lc2 w5 (TW _ hw5) rsw rs2 (by omega)
   have PBw := (PB.belowB hpl2 bI).below b5
   have QIw := QI.below b5
   have MIw := MI.below b5
   have b25 := bI.trans (b5.mono bI.size)
   have hwF := fun W (q : Below w2.heap.size w2 W) => hb1.trans ((st2.trans (q.mono st2.size)).mono hb1.size)
   have jr5 := jr2.below b5
   clear o0 o1 ol bI hwr QI MI JI jr2 mr2 hf HG b5
   go_upto_region 12 with (go_at_call 8; refine cSm.mono ?_; rintro e w6 ⟨rfl, b6⟩)
   have rs6 := rsw.below b6
   have hw6 := hw5.trans (b6.mono hw5.size)
   have PB6 := PBw.below b6
   have QI6 := QIw.below b6
   have MI6 := MIw.below b6
   have jr6 := jr5.below b6
   have b26 := b25.trans (b6.mono b25.size)
   clear rsw rs2 hw5 PBw QIw MIw jr5 cSm b6 b25
   obtain ⟨p0, p1, _, _, pl⟩ := id PB6
   obtain ⟨o0, o1, _, _, ol⟩ := id QI6
   by_cases hK : K = 0
   ·have hK2 : Hid (K = 0) := hK
    have k0 : ((K : Int) == 0) = true := by simp [hK]
    clear hK
    go_wp2_with (go_at_call 9; refine (cAw _ hw6).mono ?_; rintro e w7 ⟨rfl, b7⟩)
    go_ret
    exact ⟨rfl, hw6.trans (b7.mono hw6.size)⟩
   ·obtain rfl := hmo (by omega)
    have k0 : ((K : Int) == 0) = false := by simpa using (by omega : ¬ (K : Int) = 0)
    have cW := fun W => spick_any which K (by omega) (by omega) W
    have hkt := pkA_lt which (show 1 ≤ K by omega)
    generalize pkA which K = kt at *
    have j1 : (kt : Int) < (K : Int) := by omega
    obtain ⟨⟨nm, kd, ma, mb, mha, mhb, me, mar, mi⟩, em⟩ : ∃ m, ms.getD kt mz = m := ⟨_, rfl⟩
    have mk : MAt w6 h (kt * 9) (ms.getD kt mz) := MI6.c kt hkt
    rw [em] at mk
    obtain ⟨c0, c1, c2, c3, c4, c5, c6, c7, c8⟩ := mk
    have z2 := MI6.z (by omega) (kt * 9 + 2)
    have z3 := MI6.z (by omega) (kt * 9 + 3)
    have z4 := MI6.z (by omega) (kt * 9 + 4)
    have z5 := MI6.z (by omega) (kt * 9 + 5)
    try simp only at c0 c1 c2 c3 c4 c5 c6 c7 c8
    go_upto_region 16 with (go_at_call 7; refine (cW _).mono ?_; rintro e w4 ⟨rfl, ew⟩; obtain rfl := ew.symm)
    go_region
    have M7 := MI6.swapAB hkt
    simp only [em] at M7
    replace M7 := M7.below ((Below.refl _ _).drew)
    have hh3 := hh2 (by omega)
    have hgh3 := (hgh (by omega)).symm
    have hhq3 := (hhq (by omega)).symm
    have J7 := ((jr6.far hgh3 (o := kt * 9 + 2) (.int .i64 mb)).far hgh3 (o := kt * 9 + 3) (.int .i64 ma)).below ((Below.refl _ _).drew)
    have Q7 := ((QI6.far hhq3 (i := kt * 9 + 2) (.int .i64 mb)).far hhq3 (i := kt * 9 + 3) (.int .i64 ma)).below ((Below.refl _ _).drew)
    have b27 := ((b26.setCell (p := ⟨h, kt * 9 + 2, none⟩) hh3 (.int .i64 mb)).setCell (p := ⟨h, kt * 9 + 3, none⟩) hh3 (.int .i64 ma)).drew
    clear c0 c1 c2 c3 c4 c5 c6 c7 c8 z2 z3 z4 z5 MI6 jr6 QI6 PB6 rs6 b26 o0 o1 ol p0 p1 pl hw6 cW k0
    generalize ((w6.setCell ⟨h, kt * 9 + 2, none⟩ (.int .i64 mb)).setCell ⟨h, kt * 9 + 3, none⟩ (.int .i64 ma)).drew = V7 at *
    have mk := M7.c kt hkt
    simp only [if_true] at mk
    obtain ⟨c0, c1, c2, c3, c4, c5, c6, c7, c8⟩ := mk
    have z4 := M7.z (by omega) (kt * 9 + 4)
    have z5 := M7.z (by omega) (kt * 9 + 5)
    try simp only at c0 c1 c2 c3 c4 c5 c6 c7 c8
    go_upto_region 17 with fail
    go_region
    have M8 := M7.swapH hkt
    simp only [if_true] at M8
    replace M8 := M8.below ((Below.refl _ _).drew)
    have J8 := ((J7.far hgh3 (o := kt * 9 + 4) (.bool mhb)).far hgh3 (o := kt * 9 + 5) (.bool mha)).below ((Below.refl _ _).drew)
    have Q8 := ((Q7.far hhq3 (i := kt * 9 + 4) (.bool mhb)).far hhq3 (i := kt * 9 + 5) (.bool mha)).below ((Below.refl _ _).drew)
    have b28 := ((b27.setCell (p := ⟨h, kt * 9 + 4, none⟩) hh3 (.bool mhb)).setCell (p := ⟨h, kt * 9 + 5, none⟩) hh3 (.bool mha)).drew
    clear c0 c1 c2 c3 c4 c5 c6 c7 c8 z4 z5 M7 J7 Q7 b27
    generalize ((V7.setCell ⟨h, kt * 9 + 4, none⟩ (.bool mhb)).setCell ⟨h, kt * 9 + 5, none⟩ (.bool mha)).drew = V8 at *
    have hktm : kt < ms.length := by rw [HKl.out]; exact hkt
    have mr8 : MRow V8 (some ⟨h, 0, none⟩) (tnL kt ms) := M8.row (fun _ => rfl) ((tnL_len _ _).trans HKl.out) (fun k hk => by
     rw [tnL_at hktm]
     by_cases e : k = kt
     ·rw [if_pos e, if_pos e, em]; rfl
     ·rw [if_neg e, if_neg e, if_neg e])
    have hMi : SkM js.length ms := by rw [HJl.out]; exact hM
    have hMt : SkM i (tnL kt ms) := hM.turn hktm
    obtain ⟨L2, hL2⟩ : ∃ L, sgAll (spM (mvL ((px : Int) - 524288) ((py : Int) - 524288) js) (tnL kt ms)) (tnL kt ms).length = L := ⟨_, rfl⟩
    have hsp3 : sprA (mvL ((px : Int) - 524288) ((py : Int) - 524288) js) (tnL kt ms) = (L2, 0) := by
     unfold sprA cpA
     rw [hGm.ck (by omega) (by rw [hml]; omega), if_pos rfl, hml, sk_cm hMt (by rw [tnL_len, HKl.out]; exact hmn), if_pos rfl, hL2]
    have HLL : Hid (L = L2.map (bkR kt)) := (show _ = _ from by
     rw [← hL2, tnL_len, ← sgAll_back hGm (by omega) (by rw [hml]; exact hM) hktm, sgAll_moved hG (by omega) hMi (by omega) (by omega), HL.out])
    have hLw2 := sprA_w (js := mvL ((px : Int) - 524288) ((py : Int) - 524288) js) (ms := tnL kt ms) hMt.mw
    rw [hsp3] at hLw2
    have cS3 := bspringsA_any (mvL ((px : Int) - 524288) ((py : Int) - 524288) js) (tnL kt ms) (some ⟨g, 0, none⟩) (some ⟨h, 0, none⟩) jcap mcap V8 J8 (hGm.jw (by omega)) (by rw [hml]; omega) mr8 hMt.mw (by rw [tnL_len, HKl.out]; omega) (TW V8 (hwF _ b28))
    rw [hsp3, hml, tnL_len, HKl.out] at cS3
    obtain ⟨o0, o1, _, _, ol⟩ := id Q8
    go_upto_region 19 with (go_at_call 5; refine cS3.mono ?_; rintro e w9 ⟨lo3, lc3, rfl, rs3, b9⟩)
    replace rs3 : SgRow w9 lo3 L2 := rs3
    have b29 := b28.trans (b9.mono b28.size)
    have hle : L2.length = L.length := by have := congrArg List.length HLL.out; simpa using this.symm
    have hLg : ∀ t, t < L.length → L.getD t sgz = bkR kt (L2.getD t sgz) := fun t ht => by
     rw [HLL.out, sgetD_map (by omega)]
    have h3 : ∀ t, t < L.length → (L2.getD t sgz).k = 3 → (L2.getD t sgz).r = ⟨0, 0, 1, 0, 0, -1⟩ := fun t ht hk => sg3_all _ _ _ _ (by rw [hL2]; exact sgetD_mem (by omega)) hk
    obtain ⟨NL, hNL⟩ : ∃ n, L.length = n := ⟨_, rfl⟩
    have HNL : Hid (L.length = NL) := hNL
    try simp only at *
    rw [hle, hNL]
    rw [hNL] at hLg h3 hLn
    clear o0 o1 ol cS cS2 cS3 mr8 J8 Q8 M8 b28 b9 hL2 hsp2 hsp3 hNL
    go_upto_region 22 with fail
    go_loopg [20] NL (fun gh v wk => ∃ t : Nat, t ≤ NL ∧ gh = NL - t ∧ v = .int .i64 t ∧ Below w9.heap.size w9 wk)
    case atStart => exact ⟨0, by omega, rfl, rfl, Below.refl _ _⟩
    case round =>
     obtain ⟨t, ht, hgk, rfl, bt⟩ := hrel
     have HG2 : Hid (gk = NL - t) := hgk
     clear hgk
     have b2t := b29.trans (bt.mono b29.size)
     have hzw : w9.heap.size ≤ wr.heap.size := bt.size
     by_cases hlt : t < NL
     ·have t1 : (t : Int) < (NL : Int) := by omega
      have hst := run_storef Tryz.prog
      rcases rs3.below bt with hx | ⟨sb, so, rfl, hc3⟩
      ·exact absurd (hx.symm.trans (hle.trans HNL.out)) (by omega)
      ·rcases rs.below b2t with hx | ⟨lb, lof, rfl, hc1⟩
       ·exact absurd (hx.symm.trans HNL.out) (by omega)
       ·have e3 := hc3 t (by rw [hle, HNL.out]; exact hlt)
        have e1 := hc1 t (by rw [HNL.out]; exact hlt)
        have hw := hLw.at (k := t) (by rw [HNL.out]; exact hlt)
        have hk3 := h3 t hlt
        rw [hLg t hlt] at e1 hw
        have cSm := fun W => samespring_any (bkR kt (L2.getD t sgz)) hw W
        clear hc3 hc1 hw
        generalize L2.getD t sgz = s at *
        obtain ⟨sm, sk, ⟨r0, r1, r2, r3, r4, r5⟩, ⟨⟨sl, sh⟩, sn⟩⟩ := s
        have n1 : lb < wr.heap.size := e1.lt
        have n2 : lb ≠ wr.heap.size := by omega
        have n3 : lb ≠ wr.heap.size + 1 := by omega
        obtain ⟨a0, a1, a2, a3, a4, a5, a6, a7, a8, a9, a10⟩ := e3
        simp only at a0 a1 a2 a3 a4 a5 a6 a7 a8 a9 a10
        unfold bkR at e1 cSm
        by_cases hm : sm = (kt : Int)
        ·subst hm
         simp only [if_true] at e1 cSm
         unfold tnR at e1 cSm
         by_cases hk : sk = 3
         ·subst hk
          have hr := hk3 rfl
          simp only [R6.mk.injEq] at hr
          obtain ⟨rfl, rfl, rfl, rfl, rfl, rfl⟩ := hr
          simp only [if_true, sgV] at e1 cSm
          obtain ⟨d0, d1, d2, d3, d4, d5, d6, d7, d8, d9, d10⟩ := e1
          try simp only at d0 d1 d2 d3 d4 d5 d6 d7 d8 d9 d10
          go_upto_region 30 with fail
          go_region_with (go_at_call 10; refine (cSm _).mono ?_; rintro e w4 ⟨rfl, b4⟩)
          all_goals
           go_wp2
           go_roundg (NL - (t + 1))
           case measure => rw [HG2.out]; omega
           case rel => exact ⟨t + 1, by omega, rfl, by go_num, Below.trans (by go_grown) (b4.mono (by go_size))⟩
         ·have k3 : ((sk : Int) == 3) = false := by simpa using (by omega : ¬ (sk : Int) = 3)
          simp only [if_neg hk, sgV] at e1 cSm
          obtain ⟨d0, d1, d2, d3, d4, d5, d6, d7, d8, d9, d10⟩ := e1
          try simp only at d0 d1 d2 d3 d4 d5 d6 d7 d8 d9 d10
          go_upto_region 30 with fail
          go_region_with (go_at_call 10; refine (cSm _).mono ?_; rintro e w4 ⟨rfl, b4⟩)
          all_goals
           go_wp2
           go_roundg (NL - (t + 1))
           case measure => rw [HG2.out]; omega
           case rel => exact ⟨t + 1, by omega, rfl, by go_num, Below.trans (by go_grown) (b4.mono (by go_size))⟩
        ·have m3 : (sm == (kt : Int)) = false := by simpa using hm
         simp only [if_neg hm, sgV] at e1 cSm
         obtain ⟨d0, d1, d2, d3, d4, d5, d6, d7, d8, d9, d10⟩ := e1
         try simp only at d0 d1 d2 d3 d4 d5 d6 d7 d8 d9 d10
         go_upto_region 30 with fail
         go_region_with (go_at_call 10; refine (cSm _).mono ?_; rintro e w4 ⟨rfl, b4⟩)
         all_goals
          go_wp2
          go_roundg (NL - (t + 1))
          case measure => rw [HG2.out]; omega
          case rel => exact ⟨t + 1, by omega, rfl, by go_num, Below.trans (by go_grown) (b4.mono (by go_size))⟩
     ·have t1 : ¬ (t : Int) < (NL : Int) := by omega
      go_wp2_with (go_at_call 9; refine (cAw _ (hwF _ b2t)).mono ?_; rintro e w7 ⟨rfl, b7⟩)
      go_ret
      exact ⟨rfl, (hwF _ b2t).trans (b7.mono (hwF _ b2t).size)⟩
end Go.Proofs.YtbfefoidpgbjaaaGreatDoor
