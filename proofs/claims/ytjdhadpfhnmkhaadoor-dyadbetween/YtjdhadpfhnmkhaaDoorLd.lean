/- DyadBetween, of what does not fit, both ends finite: the walk (the library's table lying as its initialiser lays it). -/
import Derived.Test.YtjdhadpfhnmkhaaDoorHb
import Derived.Test.YtjdhadpfhnmkhaaDoorHk
import Derived.Test.YtjdhadpfhnmkhaaDoorEm
import Derived.Test.YtjdhadpfhnmkhaaDoorEl
import Derived.Test.YtjdhadpfhnmkhaaDoorZe
namespace Go.Proofs.YtjdhadpfhnmkhaaDoor
open Go.RowKit

set_option maxHeartbeats 4000000 in
set_option maxRecDepth 100000 in
theorem btw_fin (a d : Dy) (ao : Option Addr) (ac lo hi x z : Nat) (w : World) (ra : LRow w ao a.mag) (la : Lm a.mag) (sa : ao = none → ac = 0 ∧ a.mag.length = 0) (na : a.mag.length ≤ 17592186044416) (hT : TabW w)
    (hd : normD a = (d, 0)) (ld : Lm d.mag) (rd : Hid (rightB d = true)) (h1 : rndW ⟨d.neg, d.mag, d.exp⟩ 1 = lo) (h2 : rndW ⟨d.neg, d.mag, d.exp⟩ 2 = hi) (h3 : rndW ⟨d.neg, d.mag, d.exp⟩ 0 = x) (h4 : rndW ⟨d.neg, d.mag, d.exp⟩ 3 = z)
    (hf : fitB ⟨d.neg, d.mag, d.exp⟩ = false) (hlo : lo < 18446744073709551616) (hhi : hi < 18446744073709551616) (hx : x < 18446744073709551616) (hz : z < 18446744073709551616) (g : Int) (tw : Nat) (htw : tw < 18446744073709551616) (hg : sgD ⟨d.neg, d.mag, d.exp⟩ = g) (hgt : Hid ((g < 0 ∧ tw = hi) ∨ (¬ g < 0 ∧ tw = lo)))
    (hbn : btwN lo hi = 1) (hbb : btwB lo hi = true) (hzt : sameB z tw = true) (bl bh : Bool) (hxl : sameB x lo = bl) (hxh : sameB x hi = bh) (hlh : Hid (bl = false → bh = true))
    (fl : finB lo = true) (fh : finB hi = true) (l r b u : Dy) (eb eu k : Int) (hol : ofD lo = (l, 0)) (hor : ofD hi = (r, 0)) (ll : Lm l.mag) (lr : Lm r.mag) (lb : Lm b.mag) (lu : Lm u.mag) (rl : Hid (rightB l = true)) (rr : Hid (rightB r = true))
    (hc1 : sgI (qd l - qd d) = -1) (hc2 : sgI (qd d - qd r) = -1) (hsb : subD d l = (b, eb)) (hsu : subD r d = (u, eu)) (hbu : Hid (eb = 0 → eu = 0 → rightB b = true ∧ rightB u = true ∧ sgI (qd b - qd u) = k)) (kl : Hid (k < 0 → bl = true)) (kh : Hid (0 < k → bh = true)) :
    Calls Tryd.prog 6 #[.agg #[.bool a.neg, .slice ao a.mag.length ac, .int .i64 a.exp]] w fun e w' => e = .returned (.bool true) ∧ Below w.heap.size w w' := by
  have hno := fun o' c' w' hr' hT' => norm_any a o' c' w' hr' la hT' (by omega)
  rw [hd] at hno
  have hcp := fun w' hr' => copyDyad_any a ao ac w' hr' sa na
  clear hd sa
  go_enter Tryd.func6, Tryd.ntmps6
  go_upto_region 3 with (go_at_call 7; refine (awake_any _ (tabW_alloc hT _)).mono ?_; rintro e w1 ⟨rfl, hb1⟩)
  obtain ⟨⟨c0, c1, c2⟩, ho1⟩ := one_box hb1
  clear hb1
  go_cut [30, 31, 32, 33, 34, 35, 3, 4] (fun _ _ _ _ _ _ s3 s4 wx => ∃ P o c, s3 = .pointer (some ⟨P, 0, none⟩) ∧ s4 = .int .i64 0 ∧ Hd wx P d o c ∧ Below w.heap.size w wx)
  case first =>
    as_aux_lemma =>
      have rq := ra.below ho1
      have hTq := tabW_below hT ho1
      go_wp2_with (first | (go_at_call 23; refine (hcp _ rq).mono ?_; rintro e w2 ⟨co', cc', rfl, hrc', _, hbc⟩) | (go_at_call 22; refine (hno co' cc' _ hrc' (tabW_below hTq hbc)).mono ?_; rintro e w3 ⟨xo, xc, rfl, hrx, hfx, hbx⟩))
      go_meet
      have hB' := hbc.trans (hbx.mono hbc.size)
      have hB'' := hB'.alloc hB'.size (dyO d xo xc)
      exact ⟨_, xo, xc, rfl, rfl, Hd.new hrx, ho1.trans (hB''.mono ho1.size)⟩
  obtain ⟨P, o, c, rfl, rfl, H, hB⟩ := hcut
  obtain ⟨wq, hwq⟩ : ∃ wq, wq = wc := ⟨_, rfl⟩
  subst hwq
  clear c0 c1 c2 ho1 ra hno hcp
  go_upto_region 6 with fail
  go_cut [38, 39, 40, 41, 42, 5, 6] (fun _ _ _ _ _ s1 s2 wx => s1 = .float .f64 lo ∧ s2 = .int .i64 0 ∧ Hd wx P d o c ∧ Below w.heap.size w wx)
  case first =>
    as_aux_lemma =>
      have hc := Round_ok d.neg d.mag d.exp o c 1 wq H.row ld rd.out
      rw [h1] at hc
      obtain ⟨a0, a1, a2, ar⟩ := H
      go_wp2_with (go_at_call 18; refine hc.mono ?_; rintro e w1 ⟨rfl, hb1⟩)
      go_meet
      exact ⟨rfl, rfl, (Hd.mk a0 a1 a2 ar).below hb1, hB.trans (hb1.mono hB.size)⟩
  obtain ⟨rfl, rfl, H, hB⟩ := hcut
  obtain ⟨wq, hwq⟩ : ∃ wq, wq = wc := ⟨_, rfl⟩
  subst hwq
  go_upto_region 7 with fail
  go_cut [43, 44, 45, 46, 47, 7, 8] (fun _ _ _ _ _ s1 s2 wx => s1 = .float .f64 hi ∧ s2 = .int .i64 0 ∧ Hd wx P d o c ∧ Below w.heap.size w wx)
  case first =>
    as_aux_lemma =>
      have hc := Round_ok d.neg d.mag d.exp o c 2 wq H.row ld rd.out
      rw [h2] at hc
      obtain ⟨a0, a1, a2, ar⟩ := H
      go_wp2_with (go_at_call 18; refine hc.mono ?_; rintro e w1 ⟨rfl, hb1⟩)
      go_meet
      exact ⟨rfl, rfl, (Hd.mk a0 a1 a2 ar).below hb1, hB.trans (hb1.mono hB.size)⟩
  obtain ⟨rfl, rfl, H, hB⟩ := hcut
  obtain ⟨wq, hwq⟩ : ∃ wq, wq = wc := ⟨_, rfl⟩
  subst hwq
  go_upto_region 8 with fail
  go_cut [48, 49, 50, 51, 52, 9, 10] (fun _ _ _ _ _ s1 s2 wx => s1 = .float .f64 x ∧ s2 = .int .i64 0 ∧ Hd wx P d o c ∧ Below w.heap.size w wx)
  case first =>
    as_aux_lemma =>
      have hc := Round_ok d.neg d.mag d.exp o c 0 wq H.row ld rd.out
      rw [h3] at hc
      obtain ⟨a0, a1, a2, ar⟩ := H
      go_wp2_with (go_at_call 18; refine hc.mono ?_; rintro e w1 ⟨rfl, hb1⟩)
      go_meet
      exact ⟨rfl, rfl, (Hd.mk a0 a1 a2 ar).below hb1, hB.trans (hb1.mono hB.size)⟩
  obtain ⟨rfl, rfl, H, hB⟩ := hcut
  obtain ⟨wq, hwq⟩ : ∃ wq, wq = wc := ⟨_, rfl⟩
  subst hwq
  go_upto_region 9 with fail
  go_cut [53, 54, 55, 56, 57, 11, 12] (fun _ _ _ _ _ s1 s2 wx => s1 = .float .f64 z ∧ s2 = .int .i64 0 ∧ Hd wx P d o c ∧ Below w.heap.size w wx)
  case first =>
    as_aux_lemma =>
      have hc := Round_ok d.neg d.mag d.exp o c 3 wq H.row ld rd.out
      rw [h4] at hc
      obtain ⟨a0, a1, a2, ar⟩ := H
      go_wp2_with (go_at_call 18; refine hc.mono ?_; rintro e w1 ⟨rfl, hb1⟩)
      go_meet
      exact ⟨rfl, rfl, (Hd.mk a0 a1 a2 ar).below hb1, hB.trans (hb1.mono hB.size)⟩
  obtain ⟨rfl, rfl, H, hB⟩ := hcut
  obtain ⟨wq, hwq⟩ : ∃ wq, wq = wc := ⟨_, rfl⟩
  subst hwq
  as_aux_lemma =>
    go_upto_region 12 with fail
    go_cut [72, 73] (fun _ s73 wx => s73 = .bool false ∧ Hd wx P d o c ∧ Below w.heap.size w wx)
    case first =>
      as_aux_lemma =>
        have hc := Fits_any d.neg d.mag d.exp o c wq H.row ld
        rw [hf] at hc
        obtain ⟨a0, a1, a2, ar⟩ := H
        go_wp2_with (go_at_call 20; refine hc.mono ?_; rintro e w1 ⟨rfl, hb1⟩)
        go_meet
        exact ⟨rfl, (Hd.mk a0 a1 a2 ar).below hb1, hB.trans (hb1.mono hB.size)⟩
    obtain ⟨rfl, H, hB⟩ := hcut
    obtain ⟨wq, hwq⟩ : ∃ wq, wq = wc := ⟨_, rfl⟩
    subst hwq
    go_upto_region 15 with fail
    go_cut [101, 102, 103, 104, 105, 15, 16] (fun _ _ _ _ _ s15 _ wx => s15 = .int .i64 g ∧ Hd wx P d o c ∧ Below w.heap.size w wx)
    case first =>
      as_aux_lemma =>
        have hc := Sign_ok d.neg d.mag d.exp o c wq H.row ld rd.out
        rw [hg] at hc
        obtain ⟨a0, a1, a2, ar⟩ := H
        go_wp2_with (go_at_call 15; refine hc.mono ?_; rintro e w1 ⟨rfl, hb1⟩)
        go_meet
        exact ⟨rfl, (Hd.mk a0 a1 a2 ar).below hb1, hB.trans (hb1.mono hB.size)⟩
    obtain ⟨rfl, H, hB⟩ := hcut
    obtain ⟨wq, hwq⟩ : ∃ wq, wq = wc := ⟨_, rfl⟩
    subst hwq
    go_upto_region 17 with fail
    go_cut [107, 108] (fun _ s108 wx => s108 = .bool (decide (g < 0)) ∧ wx = wq)
    case first =>
      as_aux_lemma =>
        by_cases hg0 : g < 0
        · go_wp2
          go_meet
          exact ⟨by simp [hg0], rfl⟩
        · go_wp2
          go_meet
          exact ⟨by simp [hg0], rfl⟩
    obtain ⟨rfl, rfl⟩ := hcut
    obtain ⟨wq, hwq⟩ : ∃ wq, wq = wc := ⟨_, rfl⟩
    subst hwq
    go_upto_if 108 with fail
    go_cut [109, 17] (fun _ s17 wx => s17 = .float .f64 tw ∧ wx = wq)
    case first =>
      as_aux_lemma =>
        rcases hgt.out with ⟨g0, rfl⟩ | ⟨g0, rfl⟩
        · have g1 : decide (g < 0) = true := by simpa using g0
          go_wp2
          go_meet
          exact ⟨rfl, rfl⟩
        · have g1 : decide (g < 0) = false := by simpa using g0
          go_wp2
          go_meet
          exact ⟨rfl, rfl⟩
    obtain ⟨rfl, rfl⟩ := hcut
    obtain ⟨wq, hwq⟩ : ∃ wq, wq = wc := ⟨_, rfl⟩
    subst hwq
    go_upto_region 19 with fail
    go_cut [110, 111, 112, 113, 114, 115, 18, 19] (fun _ _ _ _ _ _ s18 s19 wx => s18 = .int .u64 1 ∧ s19 = .bool true ∧ wx = wq)
    case first =>
      as_aux_lemma =>
        have hc := between_any lo hi hlo hhi wq
        rw [hbn, hbb] at hc
        go_wp2_with (go_at_call 24; refine hc.mono ?_; rintro e w1 ⟨rfl, rfl⟩)
        go_meet
        exact ⟨rfl, rfl, rfl⟩
    obtain ⟨rfl, rfl, rfl⟩ := hcut
    obtain ⟨wq, hwq⟩ : ∃ wq, wq = wc := ⟨_, rfl⟩
    subst hwq
    go_upto_region 20 with fail
    go_cut [116, 117, 118, 119, 120, 121, 122, 123, 124, 125, 126, 127, 128, 129, 130, 131, 132, 133, 134, 135, 136, 137, 138, 139] (fun _ _ _ _ _ _ _ _ _ _ _ _ _ _ _ _ _ _ _ _ _ _ _ s139 wx => s139 = .bool false ∧ wx = wq)
    case first =>
      as_aux_lemma =>
        have hc1 := samef_any z tw hz htw
        have hc2 := samef_any x lo hx hlo
        have hc3 := samef_any x hi hx hhi
        rw [hzt] at hc1
        rw [hxl] at hc2
        rw [hxh] at hc3
        cases bl
        · obtain rfl : bh = true := hlh.out rfl
          go_wp2_with (first
            | (go_at_call_of 19 (Value.float FloatKind.f64 z); refine (hc1 _).mono ?_; rintro e w1 ⟨rfl, rfl⟩)
            | (go_at_call_of 19 (Value.float FloatKind.f64 lo); refine (hc2 _).mono ?_; rintro e w1 ⟨rfl, rfl⟩)
            | (go_at_call_of 19 (Value.float FloatKind.f64 hi); refine (hc3 _).mono ?_; rintro e w1 ⟨rfl, rfl⟩))
          go_meet
          exact ⟨rfl, rfl⟩
        · go_wp2_with (first
            | (go_at_call_of 19 (Value.float FloatKind.f64 z); refine (hc1 _).mono ?_; rintro e w1 ⟨rfl, rfl⟩)
            | (go_at_call_of 19 (Value.float FloatKind.f64 lo); refine (hc2 _).mono ?_; rintro e w1 ⟨rfl, rfl⟩)
            | (go_at_call_of 19 (Value.float FloatKind.f64 hi); refine (hc3 _).mono ?_; rintro e w1 ⟨rfl, rfl⟩))
          go_meet
          exact ⟨rfl, rfl⟩
    obtain ⟨rfl, rfl⟩ := hcut
    obtain ⟨wq, hwq⟩ : ∃ wq, wq = wc := ⟨_, rfl⟩
    subst hwq
    go_upto_region 22 with fail
    go_cut [140, 141, 142, 143, 144, 145, 146, 147] (fun _ _ _ _ _ _ _ s147 wx => s147 = .bool false ∧ wx = wq)
    case first =>
      as_aux_lemma =>
        have cl := fin_yes lo hlo fl
        have ch := fin_yes hi hhi fh
        clear h1 h2 h3 h4
        go_wp2_with (first
          | (go_at_call_of 17 (Value.float FloatKind.f64 lo); refine (cl _).mono ?_; rintro e w1 ⟨rfl, rfl⟩)
          | (go_at_call_of 17 (Value.float FloatKind.f64 hi); refine (ch _).mono ?_; rintro e w1 ⟨rfl, rfl⟩))
        go_meet
        exact ⟨rfl, rfl⟩
    obtain ⟨rfl, rfl⟩ := hcut
    obtain ⟨wq, hwq⟩ : ∃ wq, wq = wc := ⟨_, rfl⟩
    subst hwq
    as_aux_lemma =>
      go_upto_region 24 with fail
      go_cut [148, 149, 150, 151, 152, 20, 21] (fun _ _ _ _ _ s1 _ wx => ∃ P' o' c', s1 = .pointer (some ⟨P', 0, none⟩) ∧ Hd wx P' l o' c' ∧ Hd wx P d o c ∧ Below w.heap.size w wx)
      case first =>
        as_aux_lemma =>
          have hc := Of_any lo hlo wq (tabW_below hT hB)
          rw [hol] at hc
          go_wp2_with (go_at_call 16; refine hc.mono ?_; rintro e w1 ⟨xo', xc', rfl, hrn, _, hb1⟩)
          go_meet
          have hB1 := hb1.alloc hb1.size (dyO l xo' xc')
          exact ⟨_, xo', xc', rfl, Hd.new hrn, H.below hB1, hB.trans (hB1.mono hB.size)⟩
      obtain ⟨Pl, ol, cl, rfl, Hl, H, hB⟩ := hcut
      obtain ⟨wq, hwq⟩ : ∃ wq, wq = wc := ⟨_, rfl⟩
      subst hwq
      go_upto_region 25 with fail
      go_cut [153, 154, 155, 156, 157, 22, 23] (fun _ _ _ _ _ s1 _ wx => ∃ P' o' c', s1 = .pointer (some ⟨P', 0, none⟩) ∧ Hd wx P' r o' c' ∧ Hd wx P d o c ∧ Hd wx Pl l ol cl ∧ Below w.heap.size w wx)
      case first =>
        as_aux_lemma =>
          have hc := Of_any hi hhi wq (tabW_below hT hB)
          rw [hor] at hc
          go_wp2_with (go_at_call 16; refine hc.mono ?_; rintro e w1 ⟨xo', xc', rfl, hrn, _, hb1⟩)
          go_meet
          have hB1 := hb1.alloc hb1.size (dyO r xo' xc')
          exact ⟨_, xo', xc', rfl, Hd.new hrn, H.below hB1, Hl.below hB1, hB.trans (hB1.mono hB.size)⟩
      obtain ⟨Pk, ok, ck, rfl, Hk, H, Hl, hB⟩ := hcut
      obtain ⟨wq, hwq⟩ : ∃ wq, wq = wc := ⟨_, rfl⟩
      subst hwq
      go_upto_region 26 with fail
      go_cut [158, 159, 160, 161, 162, 163, 24, 4] (fun _ _ _ _ _ _ s1 s2 wx => s1 = .int .i64 (-1) ∧ s2 = .int .i64 0 ∧ Hd wx P d o c ∧ Hd wx Pl l ol cl ∧ Hd wx Pk r ok ck ∧ Below w.heap.size w wx)
      case first =>
        as_aux_lemma =>
          have hc := Cmp_right l d ol o cl c wq Hl.row H.row ll ld rl.out rd.out
          rw [hc1] at hc
          obtain ⟨a0, a1, a2, ar⟩ := Hl
          obtain ⟨b0, b1, b2, br⟩ := H
          go_wp2_with (go_at_call 14; refine hc.mono ?_; rintro e w1 ⟨rfl, hb1⟩)
          go_meet
          exact ⟨rfl, rfl, (Hd.mk b0 b1 b2 br).below hb1, (Hd.mk a0 a1 a2 ar).below hb1, Hk.below hb1, hB.trans (hb1.mono hB.size)⟩
      obtain ⟨rfl, rfl, H, Hl, Hk, hB⟩ := hcut
      obtain ⟨wq, hwq⟩ : ∃ wq, wq = wc := ⟨_, rfl⟩
      subst hwq
      go_upto_region 27 with fail
      go_cut [164, 165, 166, 167, 168, 169, 25, 6] (fun _ _ _ _ _ _ s1 s2 wx => s1 = .int .i64 (-1) ∧ s2 = .int .i64 0 ∧ Hd wx P d o c ∧ Hd wx Pl l ol cl ∧ Hd wx Pk r ok ck ∧ Below w.heap.size w wx)
      case first =>
        as_aux_lemma =>
          have hc := Cmp_right d r o ok c ck wq H.row Hk.row ld lr rd.out rr.out
          rw [hc2] at hc
          obtain ⟨a0, a1, a2, ar⟩ := H
          obtain ⟨b0, b1, b2, br⟩ := Hk
          go_wp2_with (go_at_call 14; refine hc.mono ?_; rintro e w1 ⟨rfl, hb1⟩)
          go_meet
          exact ⟨rfl, rfl, (Hd.mk a0 a1 a2 ar).below hb1, Hl.below hb1, (Hd.mk b0 b1 b2 br).below hb1, hB.trans (hb1.mono hB.size)⟩
      obtain ⟨rfl, rfl, H, Hl, Hk, hB⟩ := hcut
      obtain ⟨wq, hwq⟩ : ∃ wq, wq = wc := ⟨_, rfl⟩
      subst hwq
      as_aux_lemma =>
        go_upto_region 30 with fail
        go_cut [184, 185, 186, 187, 188, 189, 26, 4] (fun _ _ _ _ _ _ s1 s2 wx => ∃ P' o' c', s1 = .pointer (some ⟨P', 0, none⟩) ∧ s2 = .int .i64 eb ∧ Hd wx P' b o' c' ∧ Hd wx P d o c ∧ Hd wx Pl l ol cl ∧ Hd wx Pk r ok ck ∧ Below w.heap.size w wx)
        case first =>
          as_aux_lemma =>
            have hc := Sub_any d l o ol c cl wq H.row Hl.row ld ll (tabW_below hT hB)
            rw [hsb] at hc
            obtain ⟨a0, a1, a2, ar⟩ := H
            obtain ⟨b0, b1, b2, br⟩ := Hl
            go_wp2_with (go_at_call 12; refine hc.mono ?_; rintro e w1 ⟨xo', xc', rfl, hrn, _, hb1⟩)
            go_meet
            have hB1 := hb1.alloc hb1.size (dyO b xo' xc')
            exact ⟨_, xo', xc', rfl, rfl, Hd.new hrn, (Hd.mk a0 a1 a2 ar).below hB1, (Hd.mk b0 b1 b2 br).below hB1, Hk.below hB1, hB.trans (hB1.mono hB.size)⟩
        obtain ⟨Pb, ob, cb, rfl, rfl, Hb, H, Hl, Hk, hB⟩ := hcut
        obtain ⟨wq, hwq⟩ : ∃ wq, wq = wc := ⟨_, rfl⟩
        subst hwq
        go_upto_region 31 with fail
        go_cut [190, 191, 192, 193, 194, 195, 27, 6] (fun _ _ _ _ _ _ s1 s2 wx => ∃ P' o' c', s1 = .pointer (some ⟨P', 0, none⟩) ∧ s2 = .int .i64 eu ∧ Hd wx P' u o' c' ∧ Hd wx Pb b ob cb ∧ Hd wx P d o c ∧ Hd wx Pk r ok ck ∧ Below w.heap.size w wx)
        case first =>
          as_aux_lemma =>
            have hc := Sub_any r d ok o ck c wq Hk.row H.row lr ld (tabW_below hT hB)
            rw [hsu] at hc
            obtain ⟨a0, a1, a2, ar⟩ := Hk
            obtain ⟨b0, b1, b2, br⟩ := H
            go_wp2_with (go_at_call 12; refine hc.mono ?_; rintro e w1 ⟨xo', xc', rfl, hrn, _, hb1⟩)
            go_meet
            have hB1 := hb1.alloc hb1.size (dyO u xo' xc')
            exact ⟨_, xo', xc', rfl, rfl, Hd.new hrn, Hb.below hB1, (Hd.mk b0 b1 b2 br).below hB1, (Hd.mk a0 a1 a2 ar).below hB1, hB.trans (hB1.mono hB.size)⟩
        obtain ⟨Pu, ou, cu, rfl, rfl, Hu, Hb, H, Hk, hB⟩ := hcut
        obtain ⟨wq, hwq⟩ : ∃ wq, wq = wc := ⟨_, rfl⟩
        subst hwq
        go_upto_region 32 with fail
        go_cut [196, 197, 198, 199, 200, 201] (fun _ _ _ _ _ sl wx => sl = .bool (eb != 0 || eu != 0) ∧ wx = wq)
        case first =>
          as_aux_lemma =>
            cases g0 : (eb != 0) <;> cases g1 : (eu != 0) <;> (go_wp2; go_meet; exact ⟨by simp [g0, g1], rfl⟩)
        obtain ⟨rfl, rfl⟩ := hcut
        obtain ⟨wq, hwq⟩ : ∃ wq, wq = wc := ⟨_, rfl⟩
        subst hwq
        cases h0 : (eb != 0 || eu != 0)
        · obtain ⟨e0, e1⟩ : eb = 0 ∧ eu = 0 := by simpa using h0
          obtain ⟨rb, ru, hk⟩ := hbu.out e0 e1
          have hc := Cmp_right b u ob ou cb cu wq Hb.row Hu.row lb lu rb ru
          rw [hk] at hc
          have hc2' := samef_any x lo hx hlo
          have hc3' := samef_any x hi hx hhi
          rw [hxl] at hc2'
          rw [hxh] at hc3'
          clear e0 e1 rb ru hk hbu
          obtain ⟨a0, a1, a2, ar⟩ := Hb
          obtain ⟨b0, b1, b2, br⟩ := Hu
          go_upto_region 34 with fail
          go_cut [202, 203, 204, 205, 206, 207, 24, 4] (fun _ _ _ _ _ _ s24 s4 wx => s24 = .int .i64 k ∧ s4 = .int .i64 0 ∧ Below w.heap.size w wx)
          case first =>
            as_aux_lemma =>
              go_wp2_with (go_at_call 14; refine hc.mono ?_; rintro e w1 ⟨rfl, hb1⟩)
              go_meet
              exact ⟨rfl, rfl, hB.trans (hb1.mono hB.size)⟩
          obtain ⟨rfl, rfl, hB⟩ := hcut
          obtain ⟨wq, hwq⟩ : ∃ wq, wq = wc := ⟨_, rfl⟩
          subst hwq
          clear h1 h2 h3 h4 hol hor hc1 hc2 hsb hsu
          by_cases k1 : k < 0
          · obtain rfl : bl = true := kl.out k1
            go_wp2_with (go_at_call 19; refine (hc2' _).mono ?_; rintro e w1 ⟨rfl, rfl⟩)
            go_ret
            exact ⟨rfl, hB⟩
          · by_cases k2 : 0 < k
            · obtain rfl : bh = true := kh.out k2
              go_wp2_with (go_at_call 19; refine (hc3' _).mono ?_; rintro e w1 ⟨rfl, rfl⟩)
              go_ret
              exact ⟨rfl, hB⟩
            · have k0 : (k == 0) = true := by simp; omega
              go_wp2
              go_ret
              exact ⟨by first | rfl | simp [k0], hB⟩
        · go_wp2
          go_ret
          exact ⟨rfl, hB⟩
end Go.Proofs.YtjdhadpfhnmkhaaDoor
