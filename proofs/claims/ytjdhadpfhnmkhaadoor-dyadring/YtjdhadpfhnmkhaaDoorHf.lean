/- That DyadRing answers true: the walk (the library's table lying as its initialiser lays it). -/
import Derived.Test.YtjdhadpfhnmkhaaDoorHb
import Derived.Test.YtjdhadpfhnmkhaaDoorZq
import Derived.Test.YtjdhadpfhnmkhaaDoorEm
namespace Go.Proofs.YtjdhadpfhnmkhaaDoor
open Go.RowKit

theorem same_self (d : Dy) (ao bo : Option Addr) (cap bcap : Nat) (e : Int) (w : World) (hr : LRow w ao d.mag) (hs : LRow w bo d.mag) (hn : d.mag.length ≤ 256) :
    Calls Tryd.prog 11 #[.agg #[.bool d.neg, .slice ao d.mag.length cap, .int .i64 d.exp], .int .i64 e, .agg #[.bool d.neg, .slice bo d.mag.length bcap, .int .i64 d.exp], .int .i64 e] w fun r w' => r = .returned (.bool true) ∧ Below w.heap.size w w' := by
  have h := same_any d d ao bo cap bcap e e w hr hs (by omega)
  rw [show (decide (e = e) && eqB d d) = true by simp [eqB_self]] at h
  exact h
theorem sameDyad_self (d : Dy) (ao bo : Option Addr) (cap bcap : Nat) (w : World) (hr : LRow w ao d.mag) (hs : LRow w bo d.mag) (hn : d.mag.length ≤ 256) :
    Calls Tryd.prog 13 #[.agg #[.bool d.neg, .slice ao d.mag.length cap, .int .i64 d.exp], .agg #[.bool d.neg, .slice bo d.mag.length bcap, .int .i64 d.exp]] w fun r w' => r = .returned (.bool true) ∧ Below w.heap.size w w' := by
  have h := sameDyad_any d d ao bo cap bcap w hr hs (by omega)
  rw [eqB_self] at h
  exact h

set_option maxHeartbeats 4000000 in
set_option maxRecDepth 100000 in
theorem ring_ok (a b c x y z s p u v q : Dy) (es ep eu ev eq : Int) (ao bo co : Option Addr) (ac bc cc : Nat) (w : World) (ra : LRow w ao a.mag) (rb : LRow w bo b.mag) (rc : LRow w co c.mag) (hT : TabW w)
    (hmade : ∀ w', LRow w' ao a.mag → LRow w' bo b.mag → LRow w' co c.mag → TabW w' → Calls Tryd.prog 8 #[.agg #[.bool a.neg, .slice ao a.mag.length ac, .int .i64 a.exp], .agg #[.bool b.neg, .slice bo b.mag.length bc, .int .i64 b.exp], .agg #[.bool c.neg, .slice co c.mag.length cc, .int .i64 c.exp]] w' (Gave3 w' x y z true))
    (lx : Lm x.mag) (ly : Lm y.mag) (lz : Lm z.mag) (ls : Lm s.mag) (lp : Lm p.mag) (lu : Lm u.mag) (lv : Lm v.mag) (lq : Lm q.mag) (nx : x.mag.length ≤ 256) (ns : s.mag.length ≤ 256) (np : p.mag.length ≤ 256)
    (hs : addD x y = (s, es)) (ht : addD y x = (s, es)) (hp : mulD x y = (p, ep)) (hp' : mulD y x = (p, ep)) (hu : addD y z = (u, eu)) (hv : mulD y z = (v, ev)) (hq : mulD x z = (q, eq))
    (is : es = 0 ∨ es = 3) (ip : ep = 0 ∨ ep = 3)
    (f1 : Hid (es = 0 → subD s y = (x, 0))) (f2 : Hid (es = 0 → eu = 0 → addD s z = addD x u)) (f3 : Hid (ep = 0 → ev = 0 → mulD p z = mulD x v)) (f4 : Hid (eu = 0 → ep = 0 → eq = 0 → mulD x u = addD p q))
    (n2 : ∀ d e : Dy, (addD d e).1.mag.length ≤ 256) (n3 : ∀ d e : Dy, (mulD d e).1.mag.length ≤ 256) :
    Calls Tryd.prog 3 #[.agg #[.bool a.neg, .slice ao a.mag.length ac, .int .i64 a.exp], .agg #[.bool b.neg, .slice bo b.mag.length bc, .int .i64 b.exp], .agg #[.bool c.neg, .slice co c.mag.length cc, .int .i64 c.exp]] w fun e w' => e = .returned (.bool true) ∧ Below w.heap.size w w' := by
  have hes2 : (es == 2) = false := by rcases is with rfl | rfl <;> rfl
  have hep2 : (ep == 2) = false := by rcases ip with rfl | rfl <;> rfl
  clear is ip
  go_enter Tryd.func3, Tryd.ntmps3
  go_upto_region 3 with (go_at_call 7; refine (awake_any _ (tabW_alloc (tabW_alloc (tabW_alloc hT _) _) _)).mono ?_; rintro e w1 ⟨rfl, hb1⟩)
  obtain ⟨⟨c0, c1, c2, d0, d1, d2⟩, ⟨z0, z1, z2⟩, _, ho1⟩ := box3 hb1
  clear hb1
  go_cut [41, 42, 43, 44, 45, 46, 47, 48, 49, 7, 8, 9, 10] (fun _ _ _ _ _ _ _ _ _ s7 s8 s9 s10 wx => ∃ Px Py Pz ox oy oz cx cy cz, s7 = .pointer (some ⟨Px, 0, none⟩) ∧ s8 = .pointer (some ⟨Py, 0, none⟩) ∧ s9 = .pointer (some ⟨Pz, 0, none⟩) ∧ s10 = .bool true ∧ Hd wx Px x ox cx ∧ Hd wx Py y oy cy ∧ Hd wx Pz z oz cz ∧ Below w.heap.size w wx)
  case first =>
    as_aux_lemma =>
      go_wp2_with (go_at_call 8; refine (hmade _ (ra.below ho1) (rb.below ho1) (rc.below ho1) (tabW_below hT ho1)).mono ?_; rintro e w2 ⟨xo, yo, zo, xc, yc, zc, rfl, hrx, hry, hrz, hb2⟩)
      go_meet
      have hB2 := ho1.trans (hb2.mono ho1.size)
      have h1 := Hd.new (w := w2) (cap := xc) hrx
      have h2 := Hd.new (w := w2.alloc (dyO x xo xc)) (cap := yc) (hry.alloc _)
      have h3 := Hd.new (w := (w2.alloc (dyO x xo xc)).alloc (dyO y yo yc)) (cap := zc) ((hrz.alloc _).alloc _)
      have e1 : (w2.alloc (dyO x xo xc)).heap.size = w2.heap.size + 1 := by go_simp
      have e2 : ((w2.alloc (dyO x xo xc)).alloc (dyO y yo yc)).heap.size = w2.heap.size + 1 + 1 := by go_simp
      rw [e1] at h2
      rw [e2] at h3
      have g1 : ∀ W o, Below (World.heap W).size W (World.alloc W o) := fun W o => (Below.refl _ _).alloc (Nat.le_refl _) _
      exact ⟨_, _, _, xo, yo, zo, xc, yc, zc, rfl, rfl, rfl, rfl, (h1.below (g1 _ _)).below (g1 _ _), h2.below (g1 _ _), h3, ((hB2.alloc hB2.size _).alloc (by have := hB2.size; go_simp; omega) _).alloc (by have := hB2.size; go_simp; omega) _⟩
  obtain ⟨Px, Py, Pz, ox, oy, oz, cx, cy, cz, rfl, rfl, rfl, rfl, Hx, Hy, Hz, hB⟩ := hcut
  obtain ⟨wq, hwq⟩ : ∃ wq, wq = wc := ⟨_, rfl⟩
  subst hwq
  clear c0 c1 c2 d0 d1 d2 z0 z1 z2 ho1 ra rb rc hmade
  go_upto_region 6 with fail
  go_cut [52, 53, 54, 55, 56, 57, 11, 12] (fun _ _ _ _ _ _ s1 s2 wx => ∃ P o' c', s1 = .pointer (some ⟨P, 0, none⟩) ∧ s2 = .int .i64 es ∧ Hd wx P s o' c' ∧ Hd wx Px x ox cx ∧ Hd wx Py y oy cy ∧ Hd wx Pz z oz cz ∧ Below w.heap.size w wx)
  case first =>
    as_aux_lemma =>
      have hc := Add_any x y ox oy cx cy wq Hx.row Hy.row lx ly (tabW_below hT hB)
      rw [hs] at hc
      obtain ⟨a0, a1, a2, ar⟩ := Hx
      obtain ⟨b0, b1, b2, br⟩ := Hy
      go_wp2_with (go_at_call 9; refine hc.mono ?_; rintro e w1 ⟨xo', xc', rfl, hrn, _, hb1⟩)
      go_meet
      have hB1 := hb1.alloc hb1.size (dyO s xo' xc')
      exact ⟨_, xo', xc', rfl, rfl, Hd.new hrn, (Hd.mk a0 a1 a2 ar).below hB1, (Hd.mk b0 b1 b2 br).below hB1, Hz.below hB1, hB.trans (hB1.mono hB.size)⟩
  obtain ⟨Ps, os, cs, rfl, rfl, Hs, Hx, Hy, Hz, hB⟩ := hcut
  obtain ⟨wq, hwq⟩ : ∃ wq, wq = wc := ⟨_, rfl⟩
  subst hwq
  go_upto_region 7 with fail
  go_cut [58, 59, 60, 61, 62, 63, 13, 14] (fun _ _ _ _ _ _ s1 s2 wx => ∃ P o' c', s1 = .pointer (some ⟨P, 0, none⟩) ∧ s2 = .int .i64 es ∧ Hd wx P s o' c' ∧ Hd wx Px x ox cx ∧ Hd wx Py y oy cy ∧ Hd wx Pz z oz cz ∧ Hd wx Ps s os cs ∧ Below w.heap.size w wx)
  case first =>
    as_aux_lemma =>
      have hc := Add_any y x oy ox cy cx wq Hy.row Hx.row ly lx (tabW_below hT hB)
      rw [ht] at hc
      obtain ⟨a0, a1, a2, ar⟩ := Hy
      obtain ⟨b0, b1, b2, br⟩ := Hx
      go_wp2_with (go_at_call 9; refine hc.mono ?_; rintro e w1 ⟨xo', xc', rfl, hrn, _, hb1⟩)
      go_meet
      have hB1 := hb1.alloc hb1.size (dyO s xo' xc')
      exact ⟨_, xo', xc', rfl, rfl, Hd.new hrn, (Hd.mk b0 b1 b2 br).below hB1, (Hd.mk a0 a1 a2 ar).below hB1, Hz.below hB1, Hs.below hB1, hB.trans (hB1.mono hB.size)⟩
  obtain ⟨Pt, ot, ct, rfl, rfl, Ht, Hx, Hy, Hz, Hs, hB⟩ := hcut
  obtain ⟨wq, hwq⟩ : ∃ wq, wq = wc := ⟨_, rfl⟩
  subst hwq
  go_upto_region 8 with fail
  go_cut [64, 65, 66, 67, 68, 69, 15, 16] (fun _ _ _ _ _ _ s1 s2 wx => ∃ P o' c', s1 = .pointer (some ⟨P, 0, none⟩) ∧ s2 = .int .i64 ep ∧ Hd wx P p o' c' ∧ Hd wx Px x ox cx ∧ Hd wx Py y oy cy ∧ Hd wx Pz z oz cz ∧ Hd wx Ps s os cs ∧ Hd wx Pt s ot ct ∧ Below w.heap.size w wx)
  case first =>
    as_aux_lemma =>
      have hc := mul_any x y ox oy cx cy wq Hx.row Hy.row lx ly (tabW_below hT hB)
      rw [hp] at hc
      obtain ⟨a0, a1, a2, ar⟩ := Hx
      obtain ⟨b0, b1, b2, br⟩ := Hy
      go_wp2_with (go_at_call 10; refine hc.mono ?_; rintro e w1 ⟨xo', xc', rfl, hrn, _, hb1⟩)
      go_meet
      have hB1 := hb1.alloc hb1.size (dyO p xo' xc')
      exact ⟨_, xo', xc', rfl, rfl, Hd.new hrn, (Hd.mk a0 a1 a2 ar).below hB1, (Hd.mk b0 b1 b2 br).below hB1, Hz.below hB1, Hs.below hB1, Ht.below hB1, hB.trans (hB1.mono hB.size)⟩
  obtain ⟨Pp, op, cp, rfl, rfl, Hp, Hx, Hy, Hz, Hs, Ht, hB⟩ := hcut
  obtain ⟨wq, hwq⟩ : ∃ wq, wq = wc := ⟨_, rfl⟩
  subst hwq
  go_upto_region 9 with fail
  go_cut [70, 71, 72, 73, 74, 75, 17, 18] (fun _ _ _ _ _ _ s1 s2 wx => ∃ P o' c', s1 = .pointer (some ⟨P, 0, none⟩) ∧ s2 = .int .i64 ep ∧ Hd wx P p o' c' ∧ Hd wx Px x ox cx ∧ Hd wx Py y oy cy ∧ Hd wx Pz z oz cz ∧ Hd wx Ps s os cs ∧ Hd wx Pt s ot ct ∧ Hd wx Pp p op cp ∧ Below w.heap.size w wx)
  case first =>
    as_aux_lemma =>
      have hc := mul_any y x oy ox cy cx wq Hy.row Hx.row ly lx (tabW_below hT hB)
      rw [hp'] at hc
      obtain ⟨a0, a1, a2, ar⟩ := Hy
      obtain ⟨b0, b1, b2, br⟩ := Hx
      go_wp2_with (go_at_call 10; refine hc.mono ?_; rintro e w1 ⟨xo', xc', rfl, hrn, _, hb1⟩)
      go_meet
      have hB1 := hb1.alloc hb1.size (dyO p xo' xc')
      exact ⟨_, xo', xc', rfl, rfl, Hd.new hrn, (Hd.mk b0 b1 b2 br).below hB1, (Hd.mk a0 a1 a2 ar).below hB1, Hz.below hB1, Hs.below hB1, Ht.below hB1, Hp.below hB1, hB.trans (hB1.mono hB.size)⟩
  obtain ⟨Pk, ok, ck, rfl, rfl, Hk, Hx, Hy, Hz, Hs, Ht, Hp, hB⟩ := hcut
  obtain ⟨wq, hwq⟩ : ∃ wq, wq = wc := ⟨_, rfl⟩
  subst hwq
  go_upto_region 10 with fail
  go_cut [76, 77, 78, 79, 80, 81, 82, 83, 84, 85, 86, 87, 88, 89, 90, 91, 92, 93, 94, 95, 96, 97] (fun _ _ _ _ _ _ _ _ _ _ _ _ _ _ _ _ _ _ _ _ _ s97 wx => s97 = .bool false ∧ Hd wx Px x ox cx ∧ Hd wx Py y oy cy ∧ Hd wx Pz z oz cz ∧ Hd wx Ps s os cs ∧ Hd wx Pp p op cp ∧ Below w.heap.size w wx)
  case first =>
    as_aux_lemma =>
      obtain ⟨s0, s1, s2, sr⟩ := Hs
      obtain ⟨t0, t1, t2, tr⟩ := Ht
      obtain ⟨p0, p1, p2, pr⟩ := Hp
      obtain ⟨r0, r1, r2, rr⟩ := Hk
      go_wp2_with (first
        | (go_at_call_of 11 (Value.agg #[Value.bool s.neg, Value.slice os s.mag.length cs, Value.int IntKind.i64 s.exp]); refine (same_self s os ot cs ct es _ sr tr ns).mono ?_; rintro e w1 ⟨rfl, hb1⟩; obtain ⟨i0, i1, i2⟩ := three_on hb1 ⟨p0, p1, p2⟩; obtain ⟨j0, j1, j2⟩ := three_on hb1 ⟨r0, r1, r2⟩)
        | (go_at_call_of 11 (Value.agg #[Value.bool p.neg, Value.slice op p.mag.length cp, Value.int IntKind.i64 p.exp]); refine (same_self p op ok cp ck ep _ (pr.below hb1) (rr.below hb1) np).mono ?_; rintro e w2 ⟨rfl, hb2⟩))
      go_meet
      have hB1 := hb1.trans (hb2.mono hb1.size)
      exact ⟨rfl, Hx.below hB1, Hy.below hB1, Hz.below hB1, (Hd.mk s0 s1 s2 sr).below hB1, (Hd.mk p0 p1 p2 pr).below hB1, hB.trans (hB1.mono hB.size)⟩
  obtain ⟨rfl, Hx, Hy, Hz, Hs, Hp, hB⟩ := hcut
  obtain ⟨wq, hwq⟩ : ∃ wq, wq = wc := ⟨_, rfl⟩
  subst hwq
  go_upto_if 99 with fail
  go_cut [100, 101, 102, 103, 104, 105, 106, 107, 108, 109, 110, 111, 112, 113, 19, 20] (fun _ _ _ _ _ _ _ _ _ _ _ _ _ _ _ _ wx => Hd wx Px x ox cx ∧ Hd wx Py y oy cy ∧ Hd wx Pz z oz cz ∧ Hd wx Ps s os cs ∧ Hd wx Pp p op cp ∧ Below w.heap.size w wx)
  case first =>
    as_aux_lemma =>
      cases h0 : (es == 0)
      · go_wp2
        go_meet
        exact ⟨Hx, Hy, Hz, Hs, Hp, hB⟩
      · have e0 : es = 0 := by simpa using h0
        have hc := Sub_any s y os oy cs cy wq Hs.row Hy.row ls ly (tabW_below hT hB)
        rw [f1.out e0] at hc
        clear e0
        obtain ⟨a0, a1, a2, ar⟩ := Hs
        obtain ⟨b0, b1, b2, br⟩ := Hy
        obtain ⟨x0, x1, x2, xr⟩ := Hx
        go_wp2_with (first
          | (go_at_call 12; refine hc.mono ?_; rintro e w1 ⟨xo', xc', rfl, hrn, _, hb1⟩; obtain ⟨y0, y1, y2⟩ := three_on (hb1.alloc hb1.size (dyO x xo' xc')) ⟨x0, x1, x2⟩)
          | (go_at_call 13; refine (sameDyad_self x xo' ox xc' cx _ (hrn.alloc _) ((xr.below hb1).alloc _) nx).mono ?_; rintro e w2 ⟨rfl, hb2⟩))
        go_meet
        have hB1 := hb1.alloc hb1.size (dyO x xo' xc')
        have hB2 := hB1.trans (hb2.mono hB1.size)
        exact ⟨(Hd.mk x0 x1 x2 xr).below hB2, (Hd.mk b0 b1 b2 br).below hB2, Hz.below hB2, (Hd.mk a0 a1 a2 ar).below hB2, Hp.below hB2, hB.trans (hB2.mono hB.size)⟩
  obtain ⟨Hx, Hy, Hz, Hs, Hp, hB⟩ := hcut
  obtain ⟨wq, hwq⟩ : ∃ wq, wq = wc := ⟨_, rfl⟩
  subst hwq
  go_upto_region 16 with fail
  go_cut [114, 115, 116, 117, 118, 119, 21, 22] (fun _ _ _ _ _ _ s1 s2 wx => ∃ P o' c', s1 = .pointer (some ⟨P, 0, none⟩) ∧ s2 = .int .i64 eu ∧ Hd wx P u o' c' ∧ Hd wx Px x ox cx ∧ Hd wx Py y oy cy ∧ Hd wx Pz z oz cz ∧ Hd wx Ps s os cs ∧ Hd wx Pp p op cp ∧ Below w.heap.size w wx)
  case first =>
    as_aux_lemma =>
      have hc := Add_any y z oy oz cy cz wq Hy.row Hz.row ly lz (tabW_below hT hB)
      rw [hu] at hc
      obtain ⟨a0, a1, a2, ar⟩ := Hy
      obtain ⟨b0, b1, b2, br⟩ := Hz
      go_wp2_with (go_at_call 9; refine hc.mono ?_; rintro e w1 ⟨xo', xc', rfl, hrn, _, hb1⟩)
      go_meet
      have hB1 := hb1.alloc hb1.size (dyO u xo' xc')
      exact ⟨_, xo', xc', rfl, rfl, Hd.new hrn, Hx.below hB1, (Hd.mk a0 a1 a2 ar).below hB1, (Hd.mk b0 b1 b2 br).below hB1, Hs.below hB1, Hp.below hB1, hB.trans (hB1.mono hB.size)⟩
  obtain ⟨Pu, ou, cu, rfl, rfl, Hu, Hx, Hy, Hz, Hs, Hp, hB⟩ := hcut
  obtain ⟨wq, hwq⟩ : ∃ wq, wq = wc := ⟨_, rfl⟩
  subst hwq
  go_upto_region 17 with fail
  go_cut [120, 121, 122, 123, 124, 125] (fun _ _ _ _ _ sl wx => sl = .bool ((es == 0) && (eu == 0)) ∧ wx = wq)
  case first =>
    as_aux_lemma =>
      cases g0 : (es == 0) <;> cases g1 : (eu == 0) <;> (go_wp2; go_meet; exact ⟨by simp [g0, g1], rfl⟩)
  obtain ⟨rfl, rfl⟩ := hcut
  obtain ⟨wq, hwq⟩ : ∃ wq, wq = wc := ⟨_, rfl⟩
  subst hwq
  go_upto_if 125 with fail
  go_cut [126, 127, 128, 129, 130, 131, 132, 133, 134, 135, 136, 137, 138, 139, 140, 141, 142, 143, 23, 24, 25, 26] (fun _ _ _ _ _ _ _ _ _ _ _ _ _ _ _ _ _ _ _ _ _ _ wx => Hd wx Px x ox cx ∧ Hd wx Py y oy cy ∧ Hd wx Pz z oz cz ∧ Hd wx Ps s os cs ∧ Hd wx Pp p op cp ∧ Hd wx Pu u ou cu ∧ Below w.heap.size w wx)
  case first =>
    as_aux_lemma =>
      cases h0 : ((es == 0) && (eu == 0))
      · go_wp2
        go_meet
        exact ⟨Hx, Hy, Hz, Hs, Hp, Hu, hB⟩
      · obtain ⟨e0, e1⟩ : _ ∧ _ := by simpa using h0
        obtain ⟨⟨l, el⟩, hl⟩ : ∃ r, addD s z = r := ⟨_, rfl⟩
        have hl2 : addD x u = (l, el) := by rw [← f2.out e0 e1]; exact hl
        have nl : l.mag.length ≤ 256 := by have h := n2 s z; rw [hl] at h; exact h
        clear e0 e1
        go_upto_region 18 with fail
        go_cut [126, 127, 128, 129, 130, 131, 23, 24] (fun _ _ _ _ _ _ s1 s2 wx => ∃ P o' c', s1 = .pointer (some ⟨P, 0, none⟩) ∧ s2 = .int .i64 el ∧ Hd wx P l o' c' ∧ Hd wx Px x ox cx ∧ Hd wx Py y oy cy ∧ Hd wx Pz z oz cz ∧ Hd wx Ps s os cs ∧ Hd wx Pp p op cp ∧ Hd wx Pu u ou cu ∧ Below w.heap.size w wx)
        case first =>
          as_aux_lemma =>
            have hc := Add_any s z os oz cs cz wq Hs.row Hz.row ls lz (tabW_below hT hB)
            rw [hl] at hc
            obtain ⟨a0, a1, a2, ar⟩ := Hs
            obtain ⟨b0, b1, b2, br⟩ := Hz
            go_wp2_with (go_at_call 9; refine hc.mono ?_; rintro e w1 ⟨xo', xc', rfl, hrn, _, hb1⟩)
            go_meet
            have hB1 := hb1.alloc hb1.size (dyO l xo' xc')
            exact ⟨_, xo', xc', rfl, rfl, Hd.new hrn, Hx.below hB1, Hy.below hB1, (Hd.mk b0 b1 b2 br).below hB1, (Hd.mk a0 a1 a2 ar).below hB1, Hp.below hB1, Hu.below hB1, hB.trans (hB1.mono hB.size)⟩
        obtain ⟨Pl, ol, cl, rfl, rfl, Hl, Hx, Hy, Hz, Hs, Hp, Hu, hB⟩ := hcut
        obtain ⟨wq, hwq⟩ : ∃ wq, wq = wc := ⟨_, rfl⟩
        subst hwq
        go_upto_region 19 with fail
        go_cut [132, 133, 134, 135, 136, 137, 25, 26] (fun _ _ _ _ _ _ s1 s2 wx => ∃ P o' c', s1 = .pointer (some ⟨P, 0, none⟩) ∧ s2 = .int .i64 el ∧ Hd wx P l o' c' ∧ Hd wx Px x ox cx ∧ Hd wx Py y oy cy ∧ Hd wx Pz z oz cz ∧ Hd wx Ps s os cs ∧ Hd wx Pp p op cp ∧ Hd wx Pu u ou cu ∧ Hd wx Pl l ol cl ∧ Below w.heap.size w wx)
        case first =>
          as_aux_lemma =>
            have hc := Add_any x u ox ou cx cu wq Hx.row Hu.row lx lu (tabW_below hT hB)
            rw [hl2] at hc
            obtain ⟨a0, a1, a2, ar⟩ := Hx
            obtain ⟨b0, b1, b2, br⟩ := Hu
            go_wp2_with (go_at_call 9; refine hc.mono ?_; rintro e w1 ⟨xo', xc', rfl, hrn, _, hb1⟩)
            go_meet
            have hB1 := hb1.alloc hb1.size (dyO l xo' xc')
            exact ⟨_, xo', xc', rfl, rfl, Hd.new hrn, (Hd.mk a0 a1 a2 ar).below hB1, Hy.below hB1, Hz.below hB1, Hs.below hB1, Hp.below hB1, (Hd.mk b0 b1 b2 br).below hB1, Hl.below hB1, hB.trans (hB1.mono hB.size)⟩
        obtain ⟨Pm, om, cm, rfl, rfl, Hm, Hx, Hy, Hz, Hs, Hp, Hu, Hl, hB⟩ := hcut
        obtain ⟨wq, hwq⟩ : ∃ wq, wq = wc := ⟨_, rfl⟩
        subst hwq
        obtain ⟨a0, a1, a2, ar⟩ := Hl
        obtain ⟨b0, b1, b2, br⟩ := Hm
        go_wp2_with (go_at_call 11; refine (same_self l ol om cl cm el _ ar br nl).mono ?_; rintro e w2 ⟨rfl, hb2⟩)
        go_meet
        exact ⟨Hx.below hb2, Hy.below hb2, Hz.below hb2, Hs.below hb2, Hp.below hb2, Hu.below hb2, hB.trans (hb2.mono hB.size)⟩
  obtain ⟨Hx, Hy, Hz, Hs, Hp, Hu, hB⟩ := hcut
  obtain ⟨wq, hwq⟩ : ∃ wq, wq = wc := ⟨_, rfl⟩
  subst hwq
  clear Hs
  go_upto_region 22 with fail
  go_cut [144, 145, 146, 147, 148, 149, 27, 28] (fun _ _ _ _ _ _ s1 s2 wx => ∃ P o' c', s1 = .pointer (some ⟨P, 0, none⟩) ∧ s2 = .int .i64 ev ∧ Hd wx P v o' c' ∧ Hd wx Px x ox cx ∧ Hd wx Py y oy cy ∧ Hd wx Pz z oz cz ∧ Hd wx Pp p op cp ∧ Hd wx Pu u ou cu ∧ Below w.heap.size w wx)
  case first =>
    as_aux_lemma =>
      have hc := mul_any y z oy oz cy cz wq Hy.row Hz.row ly lz (tabW_below hT hB)
      rw [hv] at hc
      obtain ⟨a0, a1, a2, ar⟩ := Hy
      obtain ⟨b0, b1, b2, br⟩ := Hz
      go_wp2_with (go_at_call 10; refine hc.mono ?_; rintro e w1 ⟨xo', xc', rfl, hrn, _, hb1⟩)
      go_meet
      have hB1 := hb1.alloc hb1.size (dyO v xo' xc')
      exact ⟨_, xo', xc', rfl, rfl, Hd.new hrn, Hx.below hB1, (Hd.mk a0 a1 a2 ar).below hB1, (Hd.mk b0 b1 b2 br).below hB1, Hp.below hB1, Hu.below hB1, hB.trans (hB1.mono hB.size)⟩
  obtain ⟨Pv, ov, cv, rfl, rfl, Hv, Hx, Hy, Hz, Hp, Hu, hB⟩ := hcut
  obtain ⟨wq, hwq⟩ : ∃ wq, wq = wc := ⟨_, rfl⟩
  subst hwq
  go_upto_region 23 with fail
  go_cut [150, 151, 152, 153, 154, 155] (fun _ _ _ _ _ sl wx => sl = .bool ((ep == 0) && (ev == 0)) ∧ wx = wq)
  case first =>
    as_aux_lemma =>
      cases g0 : (ep == 0) <;> cases g1 : (ev == 0) <;> (go_wp2; go_meet; exact ⟨by simp [g0, g1], rfl⟩)
  obtain ⟨rfl, rfl⟩ := hcut
  obtain ⟨wq, hwq⟩ : ∃ wq, wq = wc := ⟨_, rfl⟩
  subst hwq
  go_upto_if 155 with fail
  go_cut [156, 157, 158, 159, 160, 161, 162, 163, 164, 165, 166, 167, 168, 169, 170, 171, 172, 173, 29, 30, 31, 32] (fun _ _ _ _ _ _ _ _ _ _ _ _ _ _ _ _ _ _ _ _ _ _ wx => Hd wx Px x ox cx ∧ Hd wx Py y oy cy ∧ Hd wx Pz z oz cz ∧ Hd wx Pp p op cp ∧ Hd wx Pu u ou cu ∧ Hd wx Pv v ov cv ∧ Below w.heap.size w wx)
  case first =>
    as_aux_lemma =>
      cases h0 : ((ep == 0) && (ev == 0))
      · go_wp2
        go_meet
        exact ⟨Hx, Hy, Hz, Hp, Hu, Hv, hB⟩
      · obtain ⟨e0, e1⟩ : _ ∧ _ := by simpa using h0
        obtain ⟨⟨l, el⟩, hl⟩ : ∃ r, mulD p z = r := ⟨_, rfl⟩
        have hl2 : mulD x v = (l, el) := by rw [← f3.out e0 e1]; exact hl
        have nl : l.mag.length ≤ 256 := by have h := n3 p z; rw [hl] at h; exact h
        clear e0 e1
        go_upto_region 24 with fail
        go_cut [156, 157, 158, 159, 160, 161, 29, 30] (fun _ _ _ _ _ _ s1 s2 wx => ∃ P o' c', s1 = .pointer (some ⟨P, 0, none⟩) ∧ s2 = .int .i64 el ∧ Hd wx P l o' c' ∧ Hd wx Px x ox cx ∧ Hd wx Py y oy cy ∧ Hd wx Pz z oz cz ∧ Hd wx Pp p op cp ∧ Hd wx Pu u ou cu ∧ Hd wx Pv v ov cv ∧ Below w.heap.size w wx)
        case first =>
          as_aux_lemma =>
            have hc := mul_any p z op oz cp cz wq Hp.row Hz.row lp lz (tabW_below hT hB)
            rw [hl] at hc
            obtain ⟨a0, a1, a2, ar⟩ := Hp
            obtain ⟨b0, b1, b2, br⟩ := Hz
            go_wp2_with (go_at_call 10; refine hc.mono ?_; rintro e w1 ⟨xo', xc', rfl, hrn, _, hb1⟩)
            go_meet
            have hB1 := hb1.alloc hb1.size (dyO l xo' xc')
            exact ⟨_, xo', xc', rfl, rfl, Hd.new hrn, Hx.below hB1, Hy.below hB1, (Hd.mk b0 b1 b2 br).below hB1, (Hd.mk a0 a1 a2 ar).below hB1, Hu.below hB1, Hv.below hB1, hB.trans (hB1.mono hB.size)⟩
        obtain ⟨Pl, ol, cl, rfl, rfl, Hl, Hx, Hy, Hz, Hp, Hu, Hv, hB⟩ := hcut
        obtain ⟨wq, hwq⟩ : ∃ wq, wq = wc := ⟨_, rfl⟩
        subst hwq
        go_upto_region 25 with fail
        go_cut [162, 163, 164, 165, 166, 167, 31, 32] (fun _ _ _ _ _ _ s1 s2 wx => ∃ P o' c', s1 = .pointer (some ⟨P, 0, none⟩) ∧ s2 = .int .i64 el ∧ Hd wx P l o' c' ∧ Hd wx Px x ox cx ∧ Hd wx Py y oy cy ∧ Hd wx Pz z oz cz ∧ Hd wx Pp p op cp ∧ Hd wx Pu u ou cu ∧ Hd wx Pv v ov cv ∧ Hd wx Pl l ol cl ∧ Below w.heap.size w wx)
        case first =>
          as_aux_lemma =>
            have hc := mul_any x v ox ov cx cv wq Hx.row Hv.row lx lv (tabW_below hT hB)
            rw [hl2] at hc
            obtain ⟨a0, a1, a2, ar⟩ := Hx
            obtain ⟨b0, b1, b2, br⟩ := Hv
            go_wp2_with (go_at_call 10; refine hc.mono ?_; rintro e w1 ⟨xo', xc', rfl, hrn, _, hb1⟩)
            go_meet
            have hB1 := hb1.alloc hb1.size (dyO l xo' xc')
            exact ⟨_, xo', xc', rfl, rfl, Hd.new hrn, (Hd.mk a0 a1 a2 ar).below hB1, Hy.below hB1, Hz.below hB1, Hp.below hB1, Hu.below hB1, (Hd.mk b0 b1 b2 br).below hB1, Hl.below hB1, hB.trans (hB1.mono hB.size)⟩
        obtain ⟨Pm, om, cm, rfl, rfl, Hm, Hx, Hy, Hz, Hp, Hu, Hv, Hl, hB⟩ := hcut
        obtain ⟨wq, hwq⟩ : ∃ wq, wq = wc := ⟨_, rfl⟩
        subst hwq
        obtain ⟨a0, a1, a2, ar⟩ := Hl
        obtain ⟨b0, b1, b2, br⟩ := Hm
        go_wp2_with (go_at_call 11; refine (same_self l ol om cl cm el _ ar br nl).mono ?_; rintro e w2 ⟨rfl, hb2⟩)
        go_meet
        exact ⟨Hx.below hb2, Hy.below hb2, Hz.below hb2, Hp.below hb2, Hu.below hb2, Hv.below hb2, hB.trans (hb2.mono hB.size)⟩
  obtain ⟨Hx, Hy, Hz, Hp, Hu, Hv, hB⟩ := hcut
  obtain ⟨wq, hwq⟩ : ∃ wq, wq = wc := ⟨_, rfl⟩
  subst hwq
  clear Hv
  go_upto_region 28 with fail
  go_cut [174, 175, 176, 177, 178, 179, 33, 34] (fun _ _ _ _ _ _ s1 s2 wx => ∃ P o' c', s1 = .pointer (some ⟨P, 0, none⟩) ∧ s2 = .int .i64 eq ∧ Hd wx P q o' c' ∧ Hd wx Px x ox cx ∧ Hd wx Py y oy cy ∧ Hd wx Pz z oz cz ∧ Hd wx Pp p op cp ∧ Hd wx Pu u ou cu ∧ Below w.heap.size w wx)
  case first =>
    as_aux_lemma =>
      have hc := mul_any x z ox oz cx cz wq Hx.row Hz.row lx lz (tabW_below hT hB)
      rw [hq] at hc
      obtain ⟨a0, a1, a2, ar⟩ := Hx
      obtain ⟨b0, b1, b2, br⟩ := Hz
      go_wp2_with (go_at_call 10; refine hc.mono ?_; rintro e w1 ⟨xo', xc', rfl, hrn, _, hb1⟩)
      go_meet
      have hB1 := hb1.alloc hb1.size (dyO q xo' xc')
      exact ⟨_, xo', xc', rfl, rfl, Hd.new hrn, (Hd.mk a0 a1 a2 ar).below hB1, Hy.below hB1, (Hd.mk b0 b1 b2 br).below hB1, Hp.below hB1, Hu.below hB1, hB.trans (hB1.mono hB.size)⟩
  obtain ⟨Pq, oq, cq, rfl, rfl, Hq, Hx, Hy, Hz, Hp, Hu, hB⟩ := hcut
  obtain ⟨wq, hwq⟩ : ∃ wq, wq = wc := ⟨_, rfl⟩
  subst hwq
  go_upto_region 29 with fail
  go_cut [180, 181, 182, 183, 184, 185, 186, 187, 188, 189] (fun _ _ _ _ _ _ _ _ _ sl wx => sl = .bool (((eu == 0) && (ep == 0)) && (eq == 0)) ∧ wx = wq)
  case first =>
    as_aux_lemma =>
      cases g0 : (eu == 0) <;> cases g1 : (ep == 0) <;> cases g2 : (eq == 0) <;> (go_wp2; go_meet; exact ⟨by simp [g0, g1, g2], rfl⟩)
  obtain ⟨rfl, rfl⟩ := hcut
  obtain ⟨wq, hwq⟩ : ∃ wq, wq = wc := ⟨_, rfl⟩
  subst hwq
  go_upto_if 189 with fail
  go_cut [190, 191, 192, 193, 194, 195, 196, 197, 198, 199, 200, 201, 202, 203, 204, 205, 206, 207, 35, 36, 37, 38] (fun _ _ _ _ _ _ _ _ _ _ _ _ _ _ _ _ _ _ _ _ _ _ wx => Hd wx Px x ox cx ∧ Hd wx Py y oy cy ∧ Hd wx Pz z oz cz ∧ Hd wx Pp p op cp ∧ Hd wx Pu u ou cu ∧ Hd wx Pq q oq cq ∧ Below w.heap.size w wx)
  case first =>
    as_aux_lemma =>
      cases h0 : (((eu == 0) && (ep == 0)) && (eq == 0))
      · go_wp2
        go_meet
        exact ⟨Hx, Hy, Hz, Hp, Hu, Hq, hB⟩
      · obtain ⟨⟨e0, e1⟩, e2⟩ : (_ ∧ _) ∧ _ := by simpa using h0
        obtain ⟨⟨l, el⟩, hl⟩ : ∃ r, mulD x u = r := ⟨_, rfl⟩
        have hl2 : addD p q = (l, el) := by rw [← f4.out e0 e1 e2]; exact hl
        have nl : l.mag.length ≤ 256 := by have h := n3 x u; rw [hl] at h; exact h
        clear e0 e1 e2
        go_upto_region 30 with fail
        go_cut [190, 191, 192, 193, 194, 195, 35, 36] (fun _ _ _ _ _ _ s1 s2 wx => ∃ P o' c', s1 = .pointer (some ⟨P, 0, none⟩) ∧ s2 = .int .i64 el ∧ Hd wx P l o' c' ∧ Hd wx Px x ox cx ∧ Hd wx Py y oy cy ∧ Hd wx Pz z oz cz ∧ Hd wx Pp p op cp ∧ Hd wx Pu u ou cu ∧ Hd wx Pq q oq cq ∧ Below w.heap.size w wx)
        case first =>
          as_aux_lemma =>
            have hc := mul_any x u ox ou cx cu wq Hx.row Hu.row lx lu (tabW_below hT hB)
            rw [hl] at hc
            obtain ⟨a0, a1, a2, ar⟩ := Hx
            obtain ⟨b0, b1, b2, br⟩ := Hu
            go_wp2_with (go_at_call 10; refine hc.mono ?_; rintro e w1 ⟨xo', xc', rfl, hrn, _, hb1⟩)
            go_meet
            have hB1 := hb1.alloc hb1.size (dyO l xo' xc')
            exact ⟨_, xo', xc', rfl, rfl, Hd.new hrn, (Hd.mk a0 a1 a2 ar).below hB1, Hy.below hB1, Hz.below hB1, Hp.below hB1, (Hd.mk b0 b1 b2 br).below hB1, Hq.below hB1, hB.trans (hB1.mono hB.size)⟩
        obtain ⟨Pl, ol, cl, rfl, rfl, Hl, Hx, Hy, Hz, Hp, Hu, Hq, hB⟩ := hcut
        obtain ⟨wq, hwq⟩ : ∃ wq, wq = wc := ⟨_, rfl⟩
        subst hwq
        go_upto_region 31 with fail
        go_cut [196, 197, 198, 199, 200, 201, 37, 38] (fun _ _ _ _ _ _ s1 s2 wx => ∃ P o' c', s1 = .pointer (some ⟨P, 0, none⟩) ∧ s2 = .int .i64 el ∧ Hd wx P l o' c' ∧ Hd wx Px x ox cx ∧ Hd wx Py y oy cy ∧ Hd wx Pz z oz cz ∧ Hd wx Pp p op cp ∧ Hd wx Pu u ou cu ∧ Hd wx Pq q oq cq ∧ Hd wx Pl l ol cl ∧ Below w.heap.size w wx)
        case first =>
          as_aux_lemma =>
            have hc := Add_any p q op oq cp cq wq Hp.row Hq.row lp lq (tabW_below hT hB)
            rw [hl2] at hc
            obtain ⟨a0, a1, a2, ar⟩ := Hp
            obtain ⟨b0, b1, b2, br⟩ := Hq
            go_wp2_with (go_at_call 9; refine hc.mono ?_; rintro e w1 ⟨xo', xc', rfl, hrn, _, hb1⟩)
            go_meet
            have hB1 := hb1.alloc hb1.size (dyO l xo' xc')
            exact ⟨_, xo', xc', rfl, rfl, Hd.new hrn, Hx.below hB1, Hy.below hB1, Hz.below hB1, (Hd.mk a0 a1 a2 ar).below hB1, Hu.below hB1, (Hd.mk b0 b1 b2 br).below hB1, Hl.below hB1, hB.trans (hB1.mono hB.size)⟩
        obtain ⟨Pm, om, cm, rfl, rfl, Hm, Hx, Hy, Hz, Hp, Hu, Hq, Hl, hB⟩ := hcut
        obtain ⟨wq, hwq⟩ : ∃ wq, wq = wc := ⟨_, rfl⟩
        subst hwq
        obtain ⟨a0, a1, a2, ar⟩ := Hl
        obtain ⟨b0, b1, b2, br⟩ := Hm
        go_wp2_with (go_at_call 11; refine (same_self l ol om cl cm el _ ar br nl).mono ?_; rintro e w2 ⟨rfl, hb2⟩)
        go_meet
        exact ⟨Hx.below hb2, Hy.below hb2, Hz.below hb2, Hp.below hb2, Hu.below hb2, Hq.below hb2, hB.trans (hb2.mono hB.size)⟩
  obtain ⟨Hx, Hy, Hz, Hp, Hu, Hq, hB⟩ := hcut
  obtain ⟨wq, hwq⟩ : ∃ wq, wq = wc := ⟨_, rfl⟩
  subst hwq
  go_wp2
  go_ret
  exact ⟨rfl, hB⟩
end Go.Proofs.YtjdhadpfhnmkhaaDoor
