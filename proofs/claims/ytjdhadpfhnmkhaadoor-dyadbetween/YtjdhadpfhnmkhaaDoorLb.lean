/- DyadBetween, of what fits: the walk (the library's table lying as its initialiser lays it). -/
import Derived.Test.YtjdhadpfhnmkhaaDoorHb
import Derived.Test.YtjdhadpfhnmkhaaDoorHk
import Derived.Test.YtjdhadpfhnmkhaaDoorEm
import Derived.Test.YtjdhadpfhnmkhaaDoorEl
import Derived.Test.YtjdhadpfhnmkhaaDoorZe
namespace Go.Proofs.YtjdhadpfhnmkhaaDoor
open Go.RowKit

set_option maxHeartbeats 4000000 in
set_option maxRecDepth 100000 in
theorem btw_fit (a d : Dy) (ao : Option Addr) (ac lo hi x z : Nat) (w : World) (ra : LRow w ao a.mag) (la : Lm a.mag) (sa : ao = none → ac = 0 ∧ a.mag.length = 0) (na : a.mag.length ≤ 17592186044416) (hT : TabW w)
    (hd : normD a = (d, 0)) (ld : Lm d.mag) (rd : Hid (rightB d = true)) (h1 : rndW ⟨d.neg, d.mag, d.exp⟩ 1 = lo) (h2 : rndW ⟨d.neg, d.mag, d.exp⟩ 2 = hi) (h3 : rndW ⟨d.neg, d.mag, d.exp⟩ 0 = x) (h4 : rndW ⟨d.neg, d.mag, d.exp⟩ 3 = z)
    (hf : fitB ⟨d.neg, d.mag, d.exp⟩ = true) (hlo : lo < 18446744073709551616) (e2 : Hid (hi = lo)) (e3 : Hid (x = lo)) (e4 : Hid (z = lo)) (hof : ofD lo = (d, 0)) (nd : d.mag.length ≤ 256) :
    Calls Tryd.prog 6 #[.agg #[.bool a.neg, .slice ao a.mag.length ac, .int .i64 a.exp]] w fun e w' => e = .returned (.bool true) ∧ Below w.heap.size w w' := by
  have hno := fun o' c' w' hr' hT' => norm_any a o' c' w' hr' la hT' (by omega)
  rw [hd] at hno
  have hcp := fun w' hr' => copyDyad_any a ao ac w' hr' sa na
  clear hd sa
  go_enter Tryd.func6, Tryd.ntmps6
  go_upto_region 3 with (go_at_call 7; refine (awake_any _ (tabW_alloc hT _)).mono ?_; rintro e w1 ⟨rfl, hb1⟩)
  obtain ⟨⟨c0, c1, c2⟩, ho1⟩ := one_box hb1
  clear hb1
  go_cut [30, 31, 32, 33, 34, 35, 3, 4] (fun _ _ _ _ _ _ s3 s4 wx => ∃ P o c, s3 = .pointer (some ⟨P, 0, none⟩) ∧ s4 = .int .i64 0 ∧ Hd wx P d o c ∧ Below w.heap.size w wx)
  case first =>
    as_aux_lemma =>
      have rq := ra.below ho1
      have hTq := tabW_below hT ho1
      go_wp2_with (first | (go_at_call 23; refine (hcp _ rq).mono ?_; rintro e w2 ⟨co', cc', rfl, hrc', _, hbc⟩) | (go_at_call 22; refine (hno co' cc' _ hrc' (tabW_below hTq hbc)).mono ?_; rintro e w3 ⟨xo, xc, rfl, hrx, hfx, hbx⟩))
      go_meet
      have hB' := hbc.trans (hbx.mono hbc.size)
      have hB'' := hB'.alloc hB'.size (dyO d xo xc)
      exact ⟨_, xo, xc, rfl, rfl, Hd.new hrx, ho1.trans (hB''.mono ho1.size)⟩
  obtain ⟨P, o, c, rfl, rfl, H, hB⟩ := hcut
  obtain ⟨wq, hwq⟩ : ∃ wq, wq = wc := ⟨_, rfl⟩
  subst hwq
  clear c0 c1 c2 ho1 ra hno hcp
  go_upto_region 6 with fail
  go_cut [38, 39, 40, 41, 42, 5, 6] (fun _ _ _ _ _ s1 s2 wx => s1 = .float .f64 lo ∧ s2 = .int .i64 0 ∧ Hd wx P d o c ∧ Below w.heap.size w wx)
  case first =>
    as_aux_lemma =>
      have hc := Round_ok d.neg d.mag d.exp o c 1 wq H.row ld rd.out
      rw [h1] at hc
      obtain ⟨a0, a1, a2, ar⟩ := H
      go_wp2_with (go_at_call 18; refine hc.mono ?_; rintro e w1 ⟨rfl, hb1⟩)
      go_meet
      exact ⟨rfl, rfl, (Hd.mk a0 a1 a2 ar).below hb1, hB.trans (hb1.mono hB.size)⟩
  obtain ⟨rfl, rfl, H, hB⟩ := hcut
  obtain ⟨wq, hwq⟩ : ∃ wq, wq = wc := ⟨_, rfl⟩
  subst hwq
  go_upto_region 7 with fail
  go_cut [43, 44, 45, 46, 47, 7, 8] (fun _ _ _ _ _ s1 s2 wx => s1 = .float .f64 hi ∧ s2 = .int .i64 0 ∧ Hd wx P d o c ∧ Below w.heap.size w wx)
  case first =>
    as_aux_lemma =>
      have hc := Round_ok d.neg d.mag d.exp o c 2 wq H.row ld rd.out
      rw [h2] at hc
      obtain ⟨a0, a1, a2, ar⟩ := H
      go_wp2_with (go_at_call 18; refine hc.mono ?_; rintro e w1 ⟨rfl, hb1⟩)
      go_meet
      exact ⟨rfl, rfl, (Hd.mk a0 a1 a2 ar).below hb1, hB.trans (hb1.mono hB.size)⟩
  obtain ⟨rfl, rfl, H, hB⟩ := hcut
  obtain ⟨wq, hwq⟩ : ∃ wq, wq = wc := ⟨_, rfl⟩
  subst hwq
  go_upto_region 8 with fail
  go_cut [48, 49, 50, 51, 52, 9, 10] (fun _ _ _ _ _ s1 s2 wx => s1 = .float .f64 x ∧ s2 = .int .i64 0 ∧ Hd wx P d o c ∧ Below w.heap.size w wx)
  case first =>
    as_aux_lemma =>
      have hc := Round_ok d.neg d.mag d.exp o c 0 wq H.row ld rd.out
      rw [h3] at hc
      obtain ⟨a0, a1, a2, ar⟩ := H
      go_wp2_with (go_at_call 18; refine hc.mono ?_; rintro e w1 ⟨rfl, hb1⟩)
      go_meet
      exact ⟨rfl, rfl, (Hd.mk a0 a1 a2 ar).below hb1, hB.trans (hb1.mono hB.size)⟩
  obtain ⟨rfl, rfl, H, hB⟩ := hcut
  obtain ⟨wq, hwq⟩ : ∃ wq, wq = wc := ⟨_, rfl⟩
  subst hwq
  go_upto_region 9 with fail
  go_cut [53, 54, 55, 56, 57, 11, 12] (fun _ _ _ _ _ s1 s2 wx => s1 = .float .f64 z ∧ s2 = .int .i64 0 ∧ Hd wx P d o c ∧ Below w.heap.size w wx)
  case first =>
    as_aux_lemma =>
      have hc := Round_ok d.neg d.mag d.exp o c 3 wq H.row ld rd.out
      rw [h4] at hc
      obtain ⟨a0, a1, a2, ar⟩ := H
      go_wp2_with (go_at_call 18; refine hc.mono ?_; rintro e w1 ⟨rfl, hb1⟩)
      go_meet
      exact ⟨rfl, rfl, (Hd.mk a0 a1 a2 ar).below hb1, hB.trans (hb1.mono hB.size)⟩
  obtain ⟨rfl, rfl, H, hB⟩ := hcut
  obtain ⟨wq, hwq⟩ : ∃ wq, wq = wc := ⟨_, rfl⟩
  subst hwq
  go_upto_region 12 with fail
  go_cut [72, 73] (fun _ s73 wx => s73 = .bool true ∧ Hd wx P d o c ∧ Below w.heap.size w wx)
  case first =>
    as_aux_lemma =>
      have hc := Fits_any d.neg d.mag d.exp o c wq H.row ld
      rw [hf] at hc
      obtain ⟨a0, a1, a2, ar⟩ := H
      go_wp2_with (go_at_call 20; refine hc.mono ?_; rintro e w1 ⟨rfl, hb1⟩)
      go_meet
      exact ⟨rfl, (Hd.mk a0 a1 a2 ar).below hb1, hB.trans (hb1.mono hB.size)⟩
  obtain ⟨rfl, H, hB⟩ := hcut
  obtain ⟨wq, hwq⟩ : ∃ wq, wq = wc := ⟨_, rfl⟩
  subst hwq
  go_upto_region 13 with fail
  go_cut [74, 75, 76, 77, 78, 13, 14] (fun _ _ _ _ _ s13 s14 wx => ∃ P' o' c', s13 = .pointer (some ⟨P', 0, none⟩) ∧ s14 = .int .i64 0 ∧ Hd wx P' d o' c' ∧ Hd wx P d o c ∧ Below w.heap.size w wx)
  case first =>
    as_aux_lemma =>
      have hc := Of_any lo hlo wq (tabW_below hT hB)
      rw [hof] at hc
      go_wp2_with (go_at_call 16; refine hc.mono ?_; rintro e w1 ⟨xo', xc', rfl, hrn, _, hb1⟩)
      go_meet
      have hB1 := hb1.alloc hb1.size (dyO d xo' xc')
      exact ⟨_, xo', xc', rfl, rfl, Hd.new hrn, H.below hB1, hB.trans (hB1.mono hB.size)⟩
  obtain ⟨P', o', c', rfl, rfl, H', H, hB⟩ := hcut
  obtain ⟨wq, hwq⟩ : ∃ wq, wq = wc := ⟨_, rfl⟩
  subst hwq
  have hsd := sameDyad_any d d o' o c' c wq H'.row H.row (by omega)
  rw [eqB_self] at hsd
  have hsf := samef_any lo lo hlo hlo
  rw [show sameB lo lo = true by unfold sameB; cases nanB lo <;> simp] at hsf
  obtain rfl : hi = lo := e2.out
  obtain rfl : x = hi := e3.out
  obtain rfl : z = x := e4.out
  obtain ⟨a0, a1, a2, ar⟩ := H
  obtain ⟨b0, b1, b2, br⟩ := H'
  clear h1 h2 h3 h4 hof
  go_wp2_with (first
    | (go_at_call 19; refine (hsf _).mono ?_; rintro e w1 ⟨rfl, rfl⟩)
    | (go_at_call 13; refine hsd.mono ?_; rintro e w2 ⟨rfl, hb2⟩))
  go_ret
  exact ⟨rfl, hB.trans (hb2.mono hB.size)⟩
end Go.Proofs.YtjdhadpfhnmkhaaDoor
