/- That DyadOrders answers true: the walk (the library's table lying as its initialiser lays it). -/
import Derived.Test.YtjdhadpfhnmkhaaDoorKh
import Derived.Test.YtjdhadpfhnmkhaaDoorHc
import Derived.Test.YtjdhadpfhnmkhaaDoorHk
import Derived.Test.YtjdhadpfhnmkhaaDoorEm
import Derived.Test.YtjdhadpfhnmkhaaDoorEl
import Derived.Test.YtjdhadpfhnmkhaaDoorZe
namespace Go.Proofs.YtjdhadpfhnmkhaaDoor
open Go.RowKit

set_option maxHeartbeats 4000000 in
set_option maxRecDepth 100000 in
theorem order_ok (a b c x y z v s t p q : Dy) (ev es et ep eq n m k l g : Int) (ao bo co : Option Addr) (ac bc cc : Nat) (w : World) (ra : LRow w ao a.mag) (rb : LRow w bo b.mag) (rc : LRow w co c.mag) (hT : TabW w)
    (hmade : ∀ w', LRow w' ao a.mag → LRow w' bo b.mag → LRow w' co c.mag → TabW w' → Calls Tryd.prog 8 #[.agg #[.bool a.neg, .slice ao a.mag.length ac, .int .i64 a.exp], .agg #[.bool b.neg, .slice bo b.mag.length bc, .int .i64 b.exp], .agg #[.bool c.neg, .slice co c.mag.length cc, .int .i64 c.exp]] w' (Gave3 w' x y z true))
    (lx : Lm x.mag) (ly : Lm y.mag) (lz : Lm z.mag) (lv : Lm v.mag) (ls : Lm s.mag) (lt : Lm t.mag) (lp : Lm p.mag) (lq : Lm q.mag) (nx : x.mag.length ≤ 256)
    (rx : Hid (rightB x = true)) (ry : Hid (rightB y = true)) (rz : Hid (rightB z = true))
    (hn : sgI (qd x - qd y) = n) (hm : sgI (qd y - qd x) = m) (hk : sgI (qd y - qd z) = k) (hl : sgI (qd x - qd z) = l) (hg : sgD ⟨z.neg, z.mag, z.exp⟩ = g)
    (hv : subD x y = (v, ev)) (hs : addD x z = (s, es)) (ht : addD y z = (t, et)) (hp : mulD x z = (p, ep)) (hq : mulD y z = (q, eq))
    (n3 : Hid (n = -1 ∨ n = 0 ∨ n = 1)) (g3 : Hid (g = -1 ∨ g = 0 ∨ g = 1)) (hmn : Hid (m = -n)) (hsame : Hid ((n == 0) = eqB x y))
    (hlow : Hid ((n ≤ 0 → k ≤ 0 → l ≤ 0) ∧ (n < 0 → k ≤ 0 → l < 0)))
    (fv : Hid (ev = 0 → rightB v = true ∧ sgD ⟨v.neg, v.mag, v.exp⟩ = n)) (fs : Hid (es = 0 → et = 0 → rightB s = true ∧ rightB t = true ∧ sgI (qd s - qd t) = n)) (fp : Hid (ep = 0 → eq = 0 → rightB p = true ∧ rightB q = true ∧ sgI (qd p - qd q) = n * g)) :
    Calls Tryd.prog 4 #[.agg #[.bool a.neg, .slice ao a.mag.length ac, .int .i64 a.exp], .agg #[.bool b.neg, .slice bo b.mag.length bc, .int .i64 b.exp], .agg #[.bool c.neg, .slice co c.mag.length cc, .int .i64 c.exp]] w fun e w' => e = .returned (.bool true) ∧ Below w.heap.size w w' := by
  go_enter Tryd.func4, Tryd.ntmps4
  go_upto_region 3 with (go_at_call 7; refine (awake_any _ (tabW_alloc (tabW_alloc (tabW_alloc hT _) _) _)).mono ?_; rintro e w1 ⟨rfl, hb1⟩)
  obtain ⟨⟨c0, c1, c2, d0, d1, d2⟩, ⟨z0, z1, z2⟩, _, ho1⟩ := box3 hb1
  clear hb1
  go_cut [34, 35, 36, 37, 38, 39, 40, 41, 42, 7, 8, 9, 10] (fun _ _ _ _ _ _ _ _ _ s7 s8 s9 s10 wx => ∃ Px Py Pz ox oy oz cx cy cz, s7 = .pointer (some ⟨Px, 0, none⟩) ∧ s8 = .pointer (some ⟨Py, 0, none⟩) ∧ s9 = .pointer (some ⟨Pz, 0, none⟩) ∧ s10 = .bool true ∧ Hd wx Px x ox cx ∧ Hd wx Py y oy cy ∧ Hd wx Pz z oz cz ∧ Below w.heap.size w wx)
  case first =>
    as_aux_lemma =>
      go_wp2_with (go_at_call 8; refine (hmade _ (ra.below ho1) (rb.below ho1) (rc.below ho1) (tabW_below hT ho1)).mono ?_; rintro e w2 ⟨xo, yo, zo, xc, yc, zc, rfl, hrx, hry, hrz, hb2⟩)
      go_meet
      have hB2 := ho1.trans (hb2.mono ho1.size)
      have h1 := Hd.new (w := w2) (cap := xc) hrx
      have h2 := Hd.new (w := w2.alloc (dyO x xo xc)) (cap := yc) (hry.alloc _)
      have h3 := Hd.new (w := (w2.alloc (dyO x xo xc)).alloc (dyO y yo yc)) (cap := zc) ((hrz.alloc _).alloc _)
      have e1 : (w2.alloc (dyO x xo xc)).heap.size = w2.heap.size + 1 := by go_simp
      have e2 : ((w2.alloc (dyO x xo xc)).alloc (dyO y yo yc)).heap.size = w2.heap.size + 1 + 1 := by go_simp
      rw [e1] at h2
      rw [e2] at h3
      have g1 : ∀ W o, Below (World.heap W).size W (World.alloc W o) := fun W o => (Below.refl _ _).alloc (Nat.le_refl _) _
      exact ⟨_, _, _, xo, yo, zo, xc, yc, zc, rfl, rfl, rfl, rfl, (h1.below (g1 _ _)).below (g1 _ _), h2.below (g1 _ _), h3, ((hB2.alloc hB2.size _).alloc (by have := hB2.size; go_simp; omega) _).alloc (by have := hB2.size; go_simp; omega) _⟩
  obtain ⟨Px, Py, Pz, ox, oy, oz, cx, cy, cz, rfl, rfl, rfl, rfl, Hx, Hy, Hz, hB⟩ := hcut
  obtain ⟨wq, hwq⟩ : ∃ wq, wq = wc := ⟨_, rfl⟩
  subst hwq
  clear c0 c1 c2 d0 d1 d2 z0 z1 z2 ho1 ra rb rc hmade
  go_upto_region 6 with fail
  go_cut [45, 46, 47, 48, 49, 50, 11, 12] (fun _ _ _ _ _ _ s1 s2 wx => s1 = .int .i64 n ∧ s2 = .int .i64 0 ∧ Hd wx Px x ox cx ∧ Hd wx Py y oy cy ∧ Hd wx Pz z oz cz ∧ Below w.heap.size w wx)
  case first =>
    as_aux_lemma =>
      have hc := Cmp_right x y ox oy cx cy wq Hx.row Hy.row lx ly rx.out ry.out
      rw [hn] at hc
      obtain ⟨a0, a1, a2, ar⟩ := Hx
      obtain ⟨b0, b1, b2, br⟩ := Hy
      go_wp2_with (go_at_call 14; refine hc.mono ?_; rintro e w1 ⟨rfl, hb1⟩)
      go_meet
      exact ⟨rfl, rfl, (Hd.mk a0 a1 a2 ar).below hb1, (Hd.mk b0 b1 b2 br).below hb1, Hz.below hb1, hB.trans (hb1.mono hB.size)⟩
  obtain ⟨rfl, rfl, Hx, Hy, Hz, hB⟩ := hcut
  obtain ⟨wq, hwq⟩ : ∃ wq, wq = wc := ⟨_, rfl⟩
  subst hwq
  go_upto_region 7 with fail
  go_cut [51, 52, 53, 54, 55, 56, 13, 14] (fun _ _ _ _ _ _ s1 s2 wx => s1 = .int .i64 m ∧ s2 = .int .i64 0 ∧ Hd wx Px x ox cx ∧ Hd wx Py y oy cy ∧ Hd wx Pz z oz cz ∧ Below w.heap.size w wx)
  case first =>
    as_aux_lemma =>
      have hc := Cmp_right y x oy ox cy cx wq Hy.row Hx.row ly lx ry.out rx.out
      rw [hm] at hc
      obtain ⟨a0, a1, a2, ar⟩ := Hy
      obtain ⟨b0, b1, b2, br⟩ := Hx
      go_wp2_with (go_at_call 14; refine hc.mono ?_; rintro e w1 ⟨rfl, hb1⟩)
      go_meet
      exact ⟨rfl, rfl, (Hd.mk b0 b1 b2 br).below hb1, (Hd.mk a0 a1 a2 ar).below hb1, Hz.below hb1, hB.trans (hb1.mono hB.size)⟩
  obtain ⟨rfl, rfl, Hx, Hy, Hz, hB⟩ := hcut
  obtain ⟨wq, hwq⟩ : ∃ wq, wq = wc := ⟨_, rfl⟩
  subst hwq
  go_upto_region 8 with fail
  go_cut [57, 58, 59, 60, 61, 62, 15, 16] (fun _ _ _ _ _ _ s1 s2 wx => s1 = .int .i64 k ∧ s2 = .int .i64 0 ∧ Hd wx Px x ox cx ∧ Hd wx Py y oy cy ∧ Hd wx Pz z oz cz ∧ Below w.heap.size w wx)
  case first =>
    as_aux_lemma =>
      have hc := Cmp_right y z oy oz cy cz wq Hy.row Hz.row ly lz ry.out rz.out
      rw [hk] at hc
      obtain ⟨a0, a1, a2, ar⟩ := Hy
      obtain ⟨b0, b1, b2, br⟩ := Hz
      go_wp2_with (go_at_call 14; refine hc.mono ?_; rintro e w1 ⟨rfl, hb1⟩)
      go_meet
      exact ⟨rfl, rfl, Hx.below hb1, (Hd.mk a0 a1 a2 ar).below hb1, (Hd.mk b0 b1 b2 br).below hb1, hB.trans (hb1.mono hB.size)⟩
  obtain ⟨rfl, rfl, Hx, Hy, Hz, hB⟩ := hcut
  obtain ⟨wq, hwq⟩ : ∃ wq, wq = wc := ⟨_, rfl⟩
  subst hwq
  go_upto_region 9 with fail
  go_cut [63, 64, 65, 66, 67, 68, 17, 18] (fun _ _ _ _ _ _ s1 s2 wx => s1 = .int .i64 l ∧ s2 = .int .i64 0 ∧ Hd wx Px x ox cx ∧ Hd wx Py y oy cy ∧ Hd wx Pz z oz cz ∧ Below w.heap.size w wx)
  case first =>
    as_aux_lemma =>
      have hc := Cmp_right x z ox oz cx cz wq Hx.row Hz.row lx lz rx.out rz.out
      rw [hl] at hc
      obtain ⟨a0, a1, a2, ar⟩ := Hx
      obtain ⟨b0, b1, b2, br⟩ := Hz
      go_wp2_with (go_at_call 14; refine hc.mono ?_; rintro e w1 ⟨rfl, hb1⟩)
      go_meet
      exact ⟨rfl, rfl, (Hd.mk a0 a1 a2 ar).below hb1, Hy.below hb1, (Hd.mk b0 b1 b2 br).below hb1, hB.trans (hb1.mono hB.size)⟩
  obtain ⟨rfl, rfl, Hx, Hy, Hz, hB⟩ := hcut
  obtain ⟨wq, hwq⟩ : ∃ wq, wq = wc := ⟨_, rfl⟩
  subst hwq
  go_upto_region 10 with fail
  go_cut [69, 70, 71, 72, 73, 74, 75, 76, 77, 78, 79, 80, 81, 82, 83, 84, 85, 86, 87, 88, 89, 90, 91, 92, 93, 94, 95, 96, 97, 98, 99, 100, 101, 102, 103, 104, 11, 13] (fun _ _ _ _ _ _ _ _ _ _ _ _ _ _ _ _ _ _ _ _ _ _ _ _ _ _ _ _ _ _ _ _ _ _ _ s104 s11 s13 wx => s104 = .bool false ∧ s11 = .int .i64 n ∧ s13 = .int .i64 m ∧ Hd wx Px x ox cx ∧ Hd wx Py y oy cy ∧ Hd wx Pz z oz cz ∧ Below w.heap.size w wx)
  case first =>
    as_aux_lemma =>
      have hc := sameDyad_any x y ox oy cx cy wq Hx.row Hy.row (by omega)
      obtain ⟨a0, a1, a2, ar⟩ := Hx
      obtain ⟨b0, b1, b2, br⟩ := Hy
      have hmn1 := hmn.out
      have hsm := hsame.out
      clear hm hn fv fs fp hlow hsame hmn
      rcases n3.out with rfl | rfl | rfl
      · obtain rfl : m = 1 := by omega
        rw [← hsm] at hc
        clear hsm hmn1
        go_wp2_with (go_at_call 13; refine hc.mono ?_; rintro e w1 ⟨rfl, hb1⟩)
        go_meet
        exact ⟨rfl, rfl, rfl, (Hd.mk a0 a1 a2 ar).below hb1, (Hd.mk b0 b1 b2 br).below hb1, Hz.below hb1, hB.trans (hb1.mono hB.size)⟩
      · obtain rfl : m = 0 := by omega
        rw [← hsm] at hc
        clear hsm hmn1
        go_wp2_with (go_at_call 13; refine hc.mono ?_; rintro e w1 ⟨rfl, hb1⟩)
        go_meet
        exact ⟨rfl, rfl, rfl, (Hd.mk a0 a1 a2 ar).below hb1, (Hd.mk b0 b1 b2 br).below hb1, Hz.below hb1, hB.trans (hb1.mono hB.size)⟩
      · obtain rfl : m = -1 := by omega
        rw [← hsm] at hc
        clear hsm hmn1
        go_wp2_with (go_at_call 13; refine hc.mono ?_; rintro e w1 ⟨rfl, hb1⟩)
        go_meet
        exact ⟨rfl, rfl, rfl, (Hd.mk a0 a1 a2 ar).below hb1, (Hd.mk b0 b1 b2 br).below hb1, Hz.below hb1, hB.trans (hb1.mono hB.size)⟩
  obtain ⟨rfl, rfl, rfl, Hx, Hy, Hz, hB⟩ := hcut
  obtain ⟨wq, hwq⟩ : ∃ wq, wq = wc := ⟨_, rfl⟩
  subst hwq
  go_upto_region 12 with fail
  go_cut [105, 106, 107, 108, 109, 110, 111, 112, 113, 114, 115, 116, 117, 118, 119, 120, 121, 122, 123, 124, 125, 126, 11, 15, 17] (fun _ _ _ _ _ _ _ _ _ _ _ _ _ _ _ _ _ _ _ _ _ s126 s11 s15 s17 wx => s126 = .bool false ∧ s11 = .int .i64 n ∧ s15 = .int .i64 k ∧ s17 = .int .i64 l ∧ wx = wq)
  case first =>
    as_aux_lemma =>
      obtain ⟨lo1, lo2⟩ := hlow.out
      clear hm hn hk hl fv fs fp hlow hsame hmn n3 g3 hv hs ht hp hq
      by_cases hA : n ≤ 0
      · by_cases hB0 : k ≤ 0
        · have hC : ¬ 0 < l := by have := lo1 hA hB0; omega
          by_cases hD : n < 0
          · have hE : ¬ 0 ≤ l := by have := lo2 hD hB0; omega
            clear lo1 lo2
            go_wp2
            go_meet
            exact ⟨rfl, rfl, rfl, rfl, rfl⟩
          · clear lo1 lo2
            go_wp2
            go_meet
            exact ⟨rfl, rfl, rfl, rfl, rfl⟩
        · clear lo1 lo2
          by_cases hD : n < 0
          · go_wp2
            go_meet
            exact ⟨rfl, rfl, rfl, rfl, rfl⟩
          · go_wp2
            go_meet
            exact ⟨rfl, rfl, rfl, rfl, rfl⟩
      · have hD : ¬ n < 0 := by omega
        clear lo1 lo2
        go_wp2
        go_meet
        exact ⟨rfl, rfl, rfl, rfl, rfl⟩
  obtain ⟨rfl, rfl, rfl, rfl, rfl⟩ := hcut
  obtain ⟨wq, hwq⟩ : ∃ wq, wq = wc := ⟨_, rfl⟩
  subst hwq
  go_upto_region 14 with fail
  go_cut [127, 128, 129, 130, 131, 132, 19, 20] (fun _ _ _ _ _ _ s1 s2 wx => ∃ P o' c', s1 = .pointer (some ⟨P, 0, none⟩) ∧ s2 = .int .i64 ev ∧ Hd wx P v o' c' ∧ Hd wx Px x ox cx ∧ Hd wx Py y oy cy ∧ Hd wx Pz z oz cz ∧ Below w.heap.size w wx ∧ wq.heap.size ≤ P ∧ wq.heap.size ≤ wx.heap.size ∧ Frs wq.heap.size o')
  case first =>
    as_aux_lemma =>
      have hc := Sub_any x y ox oy cx cy wq Hx.row Hy.row lx ly (tabW_below hT hB)
      rw [hv] at hc
      obtain ⟨a0, a1, a2, ar⟩ := Hx
      obtain ⟨b0, b1, b2, br⟩ := Hy
      go_wp2_with (go_at_call 12; refine hc.mono ?_; rintro e w1 ⟨xo', xc', rfl, hrn, hfr, hb1⟩)
      go_meet
      have hB1 := hb1.alloc hb1.size (dyO v xo' xc')
      exact ⟨_, xo', xc', rfl, rfl, Hd.new hrn, (Hd.mk a0 a1 a2 ar).below hB1, (Hd.mk b0 b1 b2 br).below hB1, Hz.below hB1, hB.trans (hB1.mono hB.size), hb1.size, hB1.size, hfr⟩
  obtain ⟨Pv, ov, cv, rfl, rfl, Hv, Hx, Hy, Hz, hB, hPv, hsz, hFv⟩ := hcut
  clear hPv hsz hFv
  obtain ⟨wq, hwq⟩ : ∃ wq, wq = wc := ⟨_, rfl⟩
  subst hwq
  go_upto_if 134 with fail
  go_cut [135, 136, 137, 138, 139, 140, 141, 142, 143, 144, 145, 146, 21, 22] (fun _ _ _ _ _ _ _ _ _ _ _ _ _ _ wx => Hd wx Px x ox cx ∧ Hd wx Py y oy cy ∧ Hd wx Pz z oz cz ∧ Below w.heap.size w wx)
  case first =>
    as_aux_lemma =>
      cases h0 : (ev == 0)
      · go_wp2
        go_meet
        exact ⟨Hx, Hy, Hz, hB⟩
      · have e0 : ev = 0 := by simpa using h0
        obtain ⟨rv, gv⟩ := fv.out e0
        have hc := Sign_ok v.neg v.mag v.exp ov cv wq Hv.row lv rv
        rw [gv] at hc
        clear e0 gv rv
        obtain ⟨a0, a1, a2, ar⟩ := Hv
        go_wp2_with (go_at_call 15; refine hc.mono ?_; rintro e w1 ⟨rfl, hb1⟩)
        go_meet
        exact ⟨Hx.below hb1, Hy.below hb1, Hz.below hb1, hB.trans (hb1.mono hB.size)⟩
  obtain ⟨Hx, Hy, Hz, hB⟩ := hcut
  obtain ⟨wq, hwq⟩ : ∃ wq, wq = wc := ⟨_, rfl⟩
  subst hwq
  obtain ⟨n0, hn0⟩ : ∃ n0, n0 = wq.heap.size := ⟨_, rfl⟩
  have hBn : w.heap.size ≤ n0 := by rw [hn0]; exact hB.size
  have hnq : n0 ≤ wq.heap.size := Nat.le_of_eq hn0
  have lPx : Px < n0 := by rw [hn0]; exact Hx.lt
  have lPy : Py < n0 := by rw [hn0]; exact Hy.lt
  have lPz : Pz < n0 := by rw [hn0]; exact Hz.lt
  have ldx : Old n0 ox x := by rw [hn0]; exact old_of Hx.row
  have ldy : Old n0 oy y := by rw [hn0]; exact old_of Hy.row
  have ldz : Old n0 oz z := by rw [hn0]; exact old_of Hz.row
  clear hn0
  go_upto_region 19 with fail
  go_cut [147, 148, 149, 150, 151, 152, 23, 20] (fun _ _ _ _ _ _ s1 s2 wx => ∃ P o' c', s1 = .pointer (some ⟨P, 0, none⟩) ∧ s2 = .int .i64 es ∧ Bx wx n0 P s o' c' ∧ Hd wx Px x ox cx ∧ Hd wx Py y oy cy ∧ Hd wx Pz z oz cz ∧ Below w.heap.size w wx ∧ wq.heap.size ≤ P ∧ wq.heap.size ≤ wx.heap.size ∧ Frs wq.heap.size o')
  case first =>
    as_aux_lemma =>
      have hc := Add_any x z ox oz cx cz wq Hx.row Hz.row lx lz (tabW_below hT hB)
      rw [hs] at hc
      obtain ⟨a0, a1, a2, ar⟩ := Hx
      obtain ⟨b0, b1, b2, br⟩ := Hz
      go_wp2_with (go_at_call 9; refine hc.mono ?_; rintro e w1 ⟨xo', xc', rfl, hrn, hfr, hb1⟩)
      go_meet
      have hB1 := hb1.alloc hb1.size (dyO s xo' xc')
      exact ⟨_, xo', xc', rfl, rfl, Bx.new hrn (Nat.le_trans hnq hb1.size), (Hd.mk a0 a1 a2 ar).below hB1, Hy.below hB1, (Hd.mk b0 b1 b2 br).below hB1, hB.trans (hB1.mono hB.size), hb1.size, hB1.size, hfr⟩
  obtain ⟨Ps, os, cs, rfl, rfl, Hs, Hx, Hy, Hz, hB, hPs, hsz, hFs⟩ := hcut
  replace hnq := Nat.le_trans hnq hsz
  clear hPs hsz hFs
  have hPs : Ps < wc.heap.size := Hs.hd.lt
  obtain ⟨wq, hwq⟩ : ∃ wq, wq = wc := ⟨_, rfl⟩
  subst hwq
  go_upto_region 20 with fail
  go_cut [153, 154, 155, 156, 157, 158, 24, 25] (fun _ _ _ _ _ _ s1 s2 wx => ∃ P o' c', s1 = .pointer (some ⟨P, 0, none⟩) ∧ s2 = .int .i64 et ∧ Bx wx n0 P t o' c' ∧ Hd wx Px x ox cx ∧ Hd wx Py y oy cy ∧ Hd wx Pz z oz cz ∧ Bx wx n0 Ps s os cs ∧ Below w.heap.size w wx ∧ wq.heap.size ≤ P ∧ wq.heap.size ≤ wx.heap.size ∧ Frs wq.heap.size o')
  case first =>
    as_aux_lemma =>
      have hc := Add_any y z oy oz cy cz wq Hy.row Hz.row ly lz (tabW_below hT hB)
      rw [ht] at hc
      obtain ⟨a0, a1, a2, ar⟩ := Hy
      obtain ⟨b0, b1, b2, br⟩ := Hz
      go_wp2_with (go_at_call 9; refine hc.mono ?_; rintro e w1 ⟨xo', xc', rfl, hrn, hfr, hb1⟩)
      go_meet
      have hB1 := hb1.alloc hb1.size (dyO t xo' xc')
      exact ⟨_, xo', xc', rfl, rfl, Bx.new hrn (Nat.le_trans hnq hb1.size), Hx.below hB1, (Hd.mk a0 a1 a2 ar).below hB1, (Hd.mk b0 b1 b2 br).below hB1, Hs.below hB1, hB.trans (hB1.mono hB.size), hb1.size, hB1.size, hfr⟩
  obtain ⟨Pt, ot, ct, rfl, rfl, Ht, Hx, Hy, Hz, Hs, hB, hPt, hsz, hFt⟩ := hcut
  have hst : Ps ≠ Pt := by omega
  have ldt : ∀ b off, ot = some ⟨b, off, none⟩ → t.mag.length ≠ 0 → b ≠ Ps := fun b off h _ => by have h1 : wq.heap.size ≤ b := hFt _ h; omega
  replace hnq := Nat.le_trans hnq hsz
  clear hPs hPt hsz hFt
  obtain ⟨wq, hwq⟩ : ∃ wq, wq = wc := ⟨_, rfl⟩
  subst hwq
  go_upto_region 21 with fail
  go_cut [159, 160, 161, 162, 163, 164] (fun _ _ _ _ _ sl wx => sl = .bool ((es == 0) && (et == 0)) ∧ wx = wq)
  case first =>
    as_aux_lemma =>
      cases g0 : (es == 0) <;> cases g1 : (et == 0) <;> (go_wp2; go_meet; exact ⟨by simp [g0, g1], rfl⟩)
  obtain ⟨rfl, rfl⟩ := hcut
  obtain ⟨wq, hwq⟩ : ∃ wq, wq = wc := ⟨_, rfl⟩
  subst hwq
  go_upto_if 164 with fail
  go_cut [165, 166, 167, 168, 169, 170, 171, 172, 173, 174, 175, 176, 177, 26, 27] (fun _ _ _ _ _ _ _ _ _ _ _ _ _ _ _ wx => Hd wx Px x ox cx ∧ Hd wx Py y oy cy ∧ Hd wx Pz z oz cz ∧ Bx wx n0 Ps s os cs ∧ Bx wx n0 Pt t ot ct ∧ Below w.heap.size w wx ∧ n0 ≤ wx.heap.size)
  case first =>
    as_aux_lemma =>
      cases h0 : ((es == 0) && (et == 0))
      · go_wp2
        go_meet
        exact ⟨Hx, Hy, Hz, Hs, Ht, hB, hnq⟩
      · obtain ⟨e0, e1⟩ : _ ∧ _ := by simpa using h0
        obtain ⟨rs, rt, gs⟩ := fs.out e0 e1
        have hc := Cmp_right s t os ot cs ct wq Hs.hd.row Ht.hd.row ls lt rs rt
        rw [gs] at hc
        clear e0 e1 rs rt gs
        have Hs' := Hs
        have Ht' := Ht
        obtain ⟨⟨a0, a1, a2, ar⟩, _, _⟩ := Hs
        obtain ⟨⟨b0, b1, b2, br⟩, _, _⟩ := Ht
        go_wp2_with (go_at_call 14; refine hc.mono ?_; rintro e w1 ⟨rfl, hb1⟩)
        go_meet
        exact ⟨Hx.below hb1, Hy.below hb1, Hz.below hb1, Hs'.below hb1, Ht'.below hb1, hB.trans (hb1.mono hB.size), Nat.le_trans hnq hb1.size⟩
  obtain ⟨Hx, Hy, Hz, Hs, Ht, hB, hnq⟩ := hcut
  obtain ⟨wq, hwq⟩ : ∃ wq, wq = wc := ⟨_, rfl⟩
  subst hwq
  go_upto_region 25 with fail
  go_cut [178, 179, 180, 181, 182, 28, 29] (fun _ _ _ _ _ s28 s29 wx => s28 = .int .i64 g ∧ Hd wx Px x ox cx ∧ Hd wx Py y oy cy ∧ Hd wx Pz z oz cz ∧ Bx wx n0 Ps s os cs ∧ Bx wx n0 Pt t ot ct ∧ Below w.heap.size w wx ∧ n0 ≤ wx.heap.size)
  case first =>
    as_aux_lemma =>
      have hc := Sign_ok z.neg z.mag z.exp oz cz wq Hz.row lz rz.out
      rw [hg] at hc
      obtain ⟨a0, a1, a2, ar⟩ := Hz
      go_wp2_with (go_at_call 15; refine hc.mono ?_; rintro e w1 ⟨rfl, hb1⟩)
      go_meet
      exact ⟨rfl, Hx.below hb1, Hy.below hb1, (Hd.mk a0 a1 a2 ar).below hb1, Hs.below hb1, Ht.below hb1, hB.trans (hb1.mono hB.size), Nat.le_trans hnq hb1.size⟩
  obtain ⟨rfl, Hx, Hy, Hz, Hs, Ht, hB, hnq⟩ := hcut
  obtain ⟨wq, hwq⟩ : ∃ wq, wq = wc := ⟨_, rfl⟩
  subst hwq
  go_upto_region 26 with fail
  go_cut [183, 184, 185, 186, 187, 188, 20] (fun _ _ _ _ _ _ s2 wx => ∃ o' c', s2 = .int .i64 ep ∧ Hd wx Ps p o' c' ∧ (∀ b off, o' = some ⟨b, off, none⟩ → p.mag.length ≠ 0 → b ≠ Pt) ∧ Hd wx Py y oy cy ∧ Hd wx Pz z oz cz ∧ Bx wx n0 Pt t ot ct ∧ Below w.heap.size w wx ∧ n0 ≤ wx.heap.size)
  case first =>
    as_aux_lemma =>
      have hc := mul_any x z ox oz cx cz wq Hx.row Hz.row lx lz (tabW_below hT hB)
      rw [hp] at hc
      have HA := Hx
      have HB := Hz
      obtain ⟨a0, a1, a2, ar⟩ := Hx
      obtain ⟨b0, b1, b2, br⟩ := Hz
      obtain ⟨⟨e0, e1, e2, er⟩, lo, e3, e4, e5⟩ := Hs
      have hPl : Ps < wq.heap.size := World.block_lt_of_cell? wq _ e0
      have hPt : Pt < wq.heap.size := Ht.hd.lt
      go_wp2_with (go_at_call 10; refine hc.mono ?_; rintro e w1 ⟨xo', xc', rfl, hrn, hfr, hb1⟩; obtain ⟨i0, i1, i2⟩ := three_on hb1 ⟨e0, e1, e2⟩; obtain ⟨j0, j1, j2⟩ := marks_on hb1 e0 ⟨e3, e4, e5⟩)
      go_meet
      have hne : ∀ b off, xo' = some ⟨b, off, none⟩ → p.mag.length ≠ 0 → b ≠ Ps := fun b off h _ => by have h1 : wq.heap.size ≤ b := hfr _ h; omega
      have hBw := hB.trans (hb1.mono hB.size)
      exact ⟨xo', xc', rfl, Hd.put hrn hne i0 i1 i2, fun b off h _ => by have h1 : wq.heap.size ≤ b := hfr _ h; omega, (Hy.below hb1).put3 (by omega) (fun b off h1 h2 => by have := ldy b off h1 h2; omega), (HB.below hb1).put3 (by omega) (fun b off h1 h2 => by have := ldz b off h1 h2; omega), (Ht.below hb1).put3 (fun h => hst h.symm) ldt, put3_old hBw (by omega), by have h := Nat.le_trans hnq hb1.size; simpa [put3] using h⟩
  obtain ⟨op, cp, rfl, Hp, odp, Hy, Hz, Ht, hB, hnq⟩ := hcut
  obtain ⟨wq, hwq⟩ : ∃ wq, wq = wc := ⟨_, rfl⟩
  subst hwq
  go_upto_region 27 with fail
  go_cut [189, 190, 191, 192, 193, 194, 25] (fun _ _ _ _ _ _ s2 wx => ∃ o' c', s2 = .int .i64 eq ∧ Hd wx Pt q o' c' ∧ Hd wx Ps p op cp ∧ Below w.heap.size w wx)
  case first =>
    as_aux_lemma =>
      have hc := mul_any y z oy oz cy cz wq Hy.row Hz.row ly lz (tabW_below hT hB)
      rw [hq] at hc
      obtain ⟨a0, a1, a2, ar⟩ := Hy
      obtain ⟨b0, b1, b2, br⟩ := Hz
      obtain ⟨⟨e0, e1, e2, er⟩, lo, e3, e4, e5⟩ := Ht
      have hPl : Pt < wq.heap.size := World.block_lt_of_cell? wq _ e0
      go_wp2_with (go_at_call 10; refine hc.mono ?_; rintro e w1 ⟨xo', xc', rfl, hrn, hfr, hb1⟩; obtain ⟨i0, i1, i2⟩ := three_on hb1 ⟨e0, e1, e2⟩; obtain ⟨j0, j1, j2⟩ := marks_on hb1 e0 ⟨e3, e4, e5⟩)
      go_meet
      have hne : ∀ b off, xo' = some ⟨b, off, none⟩ → q.mag.length ≠ 0 → b ≠ Pt := fun b off h _ => by have h1 : wq.heap.size ≤ b := hfr _ h; omega
      have hBw := hB.trans (hb1.mono hB.size)
      exact ⟨xo', xc', rfl, Hd.put hrn hne i0 i1 i2, (Hp.below hb1).put3 hst odp, put3_old hBw (by omega)⟩
  obtain ⟨oq, cq, rfl, Hq, Hp, hB⟩ := hcut
  obtain ⟨wq, hwq⟩ : ∃ wq, wq = wc := ⟨_, rfl⟩
  subst hwq
  go_upto_region 28 with fail
  go_cut [195, 196, 197, 198, 199, 200] (fun _ _ _ _ _ sl wx => sl = .bool ((ep == 0) && (eq == 0)) ∧ wx = wq)
  case first =>
    as_aux_lemma =>
      cases g0 : (ep == 0) <;> cases g1 : (eq == 0) <;> (go_wp2; go_meet; exact ⟨by simp [g0, g1], rfl⟩)
  obtain ⟨rfl, rfl⟩ := hcut
  obtain ⟨wq, hwq⟩ : ∃ wq, wq = wc := ⟨_, rfl⟩
  subst hwq
  cases h0 : ((ep == 0) && (eq == 0))
  · go_wp2
    go_ret
    exact ⟨rfl, hB⟩
  · obtain ⟨e0, e1⟩ : _ ∧ _ := by simpa using h0
    obtain ⟨rp, rq, gp⟩ := fp.out e0 e1
    have hc := Cmp_right p q op oq cp cq wq Hp.row Hq.row lp lq rp rq
    rw [gp] at hc
    have hw : IntKind.i64.wrap (n * g) = n * g := by
      rcases n3.out with h | h | h <;> rcases g3.out with h' | h' | h' <;> rw [h, h'] <;> rfl
    clear e0 e1 rp rq gp
    obtain ⟨a0, a1, a2, ar⟩ := Hp
    obtain ⟨b0, b1, b2, br⟩ := Hq
    go_wp2_with (go_at_call 14; refine hc.mono ?_; rintro e w1 ⟨rfl, hb1⟩)
    go_ret
    exact ⟨by simp, hB.trans (hb1.mono hB.size)⟩
end Go.Proofs.YtjdhadpfhnmkhaaDoor
