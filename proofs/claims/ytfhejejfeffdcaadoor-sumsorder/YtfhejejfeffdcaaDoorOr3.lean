/- SumsOrder, of any list, any way, any place, any float. -/
import Derived.Test.YtfhejejfeffdcaaDoorOr2
namespace Go.Proofs.YtfhejejfeffdcaaDoor
open Go.RowKit

set_option maxRecDepth 100000 in
set_option maxHeartbeats 8000000 in
theorem order_law (xs : List Nat) (ao : Option Addr) (cap : Nat) (m fr : Int) (x : Nat) (w : World) (hT : TabW w) (hr : GRow w ao xs) (hF : FW xs) (hl : xs.length ≤ cap) (hc : cap ≤ 1125899906842624) (hx : x < 18446744073709551616) :
    Calls Tryd.prog 3 #[.slice ao xs.length cap, .int .i8 m, .int .i64 fr, .float .f64 x] w fun e w' => e = .returned (.bool true) ∧ Below w.heap.size w w' := by
  have q0 : (FloatKind.f64.format.order 0 0 == some .eq) = true := by kernel_rfl
  obtain ⟨i0, hi, hz0, hz1, hz2⟩ := info_parts Tryd.infoF
  go_enter Tryd.func3, Tryd.ntmps3
  go_upto_if 35 with (go_at_call 4; refine (uawake _ hT).mono ?_; rintro e w1 ⟨rfl, b1⟩)
  have HB := b1
  have T1 := tabW_below hT HB
  replace hr := hr.below b1
  clear b1 hT
  go_cut [0] from 36 (fun s0 wx => s0 = .slice ao (xs.take 200).length cap ∧ wx = w1)
  case first =>
    by_cases h : 200 < xs.length
    · have i1 : (200 : Int) < (xs.length : Int) := by omega
      have i2 : (200 : Int) ≤ (cap : Int) := by omega
      have i3 : ¬ cap = 0 := by omega
      have e : (xs.take 200).length = 200 := by rw [List.length_take]; omega
      rcases hr with g | ⟨b, off, rfl, _⟩
      · omega
      · go_wp2_with fail
        go_meet
        exact ⟨by rw [e], rfl⟩
    · have i1 : ¬ (200 : Int) < (xs.length : Int) := by omega
      have e : (xs.take 200).length = xs.length := by rw [List.length_take]; omega
      go_wp2_with fail
      go_meet
      exact ⟨by rw [e], rfl⟩
  obtain ⟨rfl, rfl⟩ := hcut
  replace hr := hr.take 200
  replace hF := hF.take 200
  have hn : (xs.take 200).length ≤ 200 := by rw [List.length_take]; omega
  have hl2 : (xs.take 200).length ≤ cap := by rw [List.length_take]; omega
  clear hl
  generalize xs.take 200 = ys at *
  have c1 := fun W h1 h2 => exact_any ys ao cap m W h1 h2 hF (by omega)
  cases hf : ys.all finB
  · have c2 := fun W h1 h2 => lsum_not ys ao cap W h1 h2 hF (by omega) hf
    rw [hf] at c1
    simp only [Bool.false_eq_true, if_false] at c1
    clear hf hF
    go_upto_region 7 with (first
      | (go_at_call 5; refine (c1 _ T1 hr).mono ?_; rintro e w2 ⟨rfl, b2⟩; have T2 := tabW_below T1 b2; have r2 := hr.below b2)
      | (go_at_call 6; refine (c2 _ T2 r2).mono ?_; rintro e w3 ⟨D, oa, ca, rfl, b3⟩))
    have B3 := bth3 (bth3 (bth3 b2 b3) (bal _ (.cells #[.bool D.neg, .slice oa D.mag.length ca, .int .i64 D.exp] 32))) (bal _ (.cells #[.bool D.neg, .slice oa D.mag.length ca, .int .i64 D.exp] 32))
    generalize (w3.alloc (.cells #[.bool D.neg, .slice oa D.mag.length ca, .int .i64 D.exp] 32)).alloc (.cells #[.bool D.neg, .slice oa D.mag.length ca, .int .i64 D.exp] 32) = V at *
    clear c1 c2 b2 b3
    go_wp2
    go_ret
    exact ⟨rfl, bth3 HB B3⟩
  · have c2 := fun W h1 h2 => lsum_fin ys ao cap W h1 h2 hF (by omega) hf
    rw [hf] at c1
    simp only [if_true] at c1
    obtain ⟨R1, L1, _⟩ := sD_qd hf (by omega) (Nat.le_refl ys.length) (K := 64462) rfl
    have c3 := fun a c W h => Round_ok (sD ys ys.length).neg (sD ys ys.length).mag (sD ys ys.length).exp a c m W h L1 R1
    have eS : rndW ⟨(sD ys ys.length).neg, (sD ys ys.length).mag, (sD ys ys.length).exp⟩ m = exW ys m := rfl
    rw [eS] at c3
    have hS := exW_lt hf (by omega) m
    have HS : Hid (∀ P : List Nat, Rw ys P → exW P m = exW ys m) := fun P h => exW_sum h.sum m
    generalize sD ys ys.length = D at *
    generalize sD (ys.map rung) ys.length = Z at *
    generalize exW ys m = S at *
    have ss := fun W => samef_one S hS W
    have cp := fun W => oplace_any fr ys.length hn W
    clear eS R1 L1
    go_upto_region 7 with (first
      | (go_at_call 5; refine (c1 _ T1 hr).mono ?_; rintro e w2 ⟨rfl, b2⟩; have T2 := tabW_below T1 b2; have r2 := hr.below b2)
      | (go_at_call 6; refine (c2 _ T2 r2).mono ?_; rintro e w3 ⟨oa, ca, ob, cb, rfl, ra, rb, b3⟩))
    obtain ⟨V1, hV1⟩ : ∃ V, (w3.alloc (.cells #[.bool D.neg, .slice oa D.mag.length ca, .int .i64 D.exp] 32)).alloc (.cells #[.bool Z.neg, .slice ob Z.mag.length cb, .int .i64 Z.exp] 32) = V := ⟨_, rfl⟩
    have B1 : Below w3.heap.size w3 V1 := by rw [← hV1]; exact bth3 (bal _ _) (bal _ _)
    have HD : Hd V1 w3.heap.size D oa ca := by rw [← hV1]; exact (Hd.new ra).below (bal _ _)
    rw [hV1]
    have B2 := bth3 (bth3 b2 b3) B1
    replace HB := bth3 HB B2
    replace T1 := tabW_below T1 B2
    replace hr := hr.below B2
    clear hV1 ra rb b2 b3 c1 c2 B1 B2 T2 r2
    generalize w3.heap.size = PD at *
    obtain ⟨p0, p1, p2, pr⟩ := id HD
    go_upto_region 13 with (first
      | (go_at_call 7; refine (c3 _ _ _ pr).mono ?_; rintro e w4 ⟨rfl, b4⟩; have B4 := b4)
      | (go_at_call 8; refine (ss _).mono ?_; rintro e w' ⟨rfl, h'⟩; subst w')
      | (go_at_call 9; refine (cp _).mono ?_; rintro e w' ⟨k, rfl, hk, h'⟩; subst w'))
    replace HB := bth3 HB B4
    replace T1 := tabW_below T1 B4
    replace hr := hr.below B4
    clear c3 HD p0 p1 p2 pr b4 B4 cp
    go_wp2
    go_loopg [17, 18, 19, 20, 21] ys.length (fun g s17 s18 s19 s20 s21 wr => ∃ (i : Nat) (v : Nat → Value) (ls : Nat → List Nat), i ≤ ys.length ∧ g = ys.length - i ∧ s17 = v 0 ∧ s18 = v 1 ∧ s19 = v 2 ∧ s20 = v 3 ∧ s21 = .int .i64 i ∧ Hid (OrS w4 wr ys k i v ls))
    case atStart => exact ⟨0, fun _ => .slice none 0 0, fun _ => [], by omega, rfl, rfl, rfl, rfl, rfl, rfl, (show OrS _ _ _ _ _ _ _ from OrS.start)⟩
    case round =>
      obtain ⟨i, v, ls, hi1, hg, rfl, rfl, rfl, rfl, rfl, hO⟩ := hrel
      have HG : Hid (gk = ys.length - i) := hg
      clear hg
      by_cases hlt : i < ys.length
      · have i1 : (i : Int) < (ys.length : Int) := by omega
        have O := hO.out
        obtain ⟨n0, n1, n2, n3⟩ := O.len hi1
        have hrr := hr.below O.own.below
        rcases hrr with h | ⟨b, off, rfl, hcell⟩
        · omega
        obtain ⟨p, hp⟩ : ∃ p, ys.length - 1 - i = p := ⟨_, rfl⟩
        obtain ⟨q, hq⟩ : ∃ q, (i + k) % ys.length = q := ⟨_, rfl⟩
        have hq1 : q < ys.length := by rw [← hq]; exact Nat.mod_lt _ (by omega)
        have e1 : (ys.length : Int) - 1 - (i : Int) = (p : Int) := by omega
        have e2 : ((i : Int) + (k : Int)) % (ys.length : Int) = (q : Int) := by rw [← hq]; simp
        have e3 : ((i : Int) + (k : Int)).tmod (ys.length : Int) = (q : Int) := by rw [Int.tmod_eq_emod_of_nonneg (by omega)]; exact e2
        obtain ⟨u1, x1, v1, l1, q1, O1, a1, a1', f1, f1'⟩ := app_one O.own 0 (ys.getD p 0) (by omega)
        obtain ⟨u2, x2, v2, l2, q2, O2, a2, a2', f2, f2'⟩ := app_one O1 1 (ys.getD q 0) (by rw [f1' 1 (by decide)]; omega)
        rw [a1' 1 (by decide)] at q2
        have gp := hcell p (by omega)
        have gq : x1.cell? ⟨b, off + q, none⟩ = some (.float .f64 (ys.getD q 0)) := by
          rcases hr.below O1.below with h | ⟨b', off', e', hc'⟩
          · omega
          · cases e'; exact hc' q hq1
        have gi : x2.cell? ⟨b, off + i, none⟩ = some (.float .f64 (ys.getD i 0)) := by
          rcases hr.below O2.below with h | ⟨b', off', e', hc'⟩
          · omega
          · cases e'; exact hc' i hlt
        have k1 : (p : Int) < (ys.length : Int) := by omega
        have k2 : (q : Int) < (ys.length : Int) := by omega
        have k3 : ¬ (ys.length : Int) = 0 := by omega
        have t0 : l2 0 = (List.range (i + 1)).map fun p => ys.getD (ys.length - 1 - p) 0 := by rw [f2' 0 (by decide), f1, O.turned, range_next, hp]
        have t1 : l2 1 = (List.range (i + 1)).map fun p => ys.getD ((p + k) % ys.length) 0 := by rw [f2, f1' 1 (by decide), O.round, range_next, hq]
        by_cases hev : i % 2 = 0
        · obtain ⟨u3, x3, v3, l3, q3, O3, a3, a3', f3, f3'⟩ := app_one O2 2 (ys.getD i 0) (by rw [f2' 2 (by decide), f1' 2 (by decide)]; omega)
          rw [a2' 2 (by decide), a1' 2 (by decide)] at q3
          have R3 : Hid (OrS w4 x3 ys k (i + 1) v3 l3) := (show OrS _ _ _ _ _ _ _ from ⟨O3, by rw [f3' 0 (by decide)]; exact t0, by rw [f3' 1 (by decide)]; exact t1, by
            rw [f3, f3' 3 (by decide), f2' 2 (by decide), f1' 2 (by decide), f2' 3 (by decide), f1' 3 (by decide)]
            exact even_step O.halves hlt⟩)
          have g0 : v3 0 = u1 := by rw [a3' 0 (by decide), a2' 0 (by decide), a1]
          have g1 : v3 1 = u2 := by rw [a3' 1 (by decide), a2]
          have g3 : v3 3 = v 3 := by rw [a3' 3 (by decide), a2' 3 (by decide), a1' 3 (by decide)]
          have m1 : (i : Int) % 2 = 0 := by omega
          have m2 : (i : Int).tmod 2 = 0 := by rw [Int.tmod_eq_emod_of_nonneg (by omega)]; omega
          generalize ys.getD p 0 = y0 at *
          generalize ys.getD q 0 = y1 at *
          generalize ys.getD i 0 = y2 at *
          clear O O1 O2 O3 t0 t1 f1 f1' f2 f2' f3 f3' a1 a1' a2 a2' a3' hcell hO n0 n1 n2 n3
          go_wp2_with (first
            | (at_builtin; refine wpList_append_eq q1 rfl _ _ rfl rfl rfl rfl ?_)
            | (at_builtin; refine wpList_append_eq q2 rfl _ _ rfl rfl rfl rfl ?_)
            | (at_builtin; refine wpList_append_eq q3 rfl _ _ rfl rfl rfl rfl ?_))
          go_roundg (ys.length - (i + 1))
          case measure => rw [HG.out]; omega
          case rel => exact ⟨i + 1, v3, l3, by omega, rfl, g0.symm, g1.symm, a3.symm, g3.symm, by go_num, R3⟩
        · obtain ⟨u3, x3, v3, l3, q3, O3, a3, a3', f3, f3'⟩ := app_one O2 3 (ys.getD i 0) (by rw [f2' 3 (by decide), f1' 3 (by decide)]; omega)
          rw [a2' 3 (by decide), a1' 3 (by decide)] at q3
          have R3 : Hid (OrS w4 x3 ys k (i + 1) v3 l3) := (show OrS _ _ _ _ _ _ _ from ⟨O3, by rw [f3' 0 (by decide)]; exact t0, by rw [f3' 1 (by decide)]; exact t1, by
            rw [f3, f3' 2 (by decide), f2' 2 (by decide), f1' 2 (by decide), f2' 3 (by decide), f1' 3 (by decide)]
            exact odd_step O.halves hlt⟩)
          have g0 : v3 0 = u1 := by rw [a3' 0 (by decide), a2' 0 (by decide), a1]
          have g1 : v3 1 = u2 := by rw [a3' 1 (by decide), a2]
          have g3 : v3 2 = v 2 := by rw [a3' 2 (by decide), a2' 2 (by decide), a1' 2 (by decide)]
          have m1 : (i : Int) % 2 = 1 := by omega
          have m2 : (i : Int).tmod 2 = 1 := by rw [Int.tmod_eq_emod_of_nonneg (by omega)]; omega
          generalize ys.getD p 0 = y0 at *
          generalize ys.getD q 0 = y1 at *
          generalize ys.getD i 0 = y2 at *
          clear O O1 O2 O3 t0 t1 f1 f1' f2 f2' f3 f3' a1 a1' a2 a2' a3' hcell hO n0 n1 n2 n3
          go_wp2_with (first
            | (at_builtin; refine wpList_append_eq q1 rfl _ _ rfl rfl rfl rfl ?_)
            | (at_builtin; refine wpList_append_eq q2 rfl _ _ rfl rfl rfl rfl ?_)
            | (at_builtin; refine wpList_append_eq q3 rfl _ _ rfl rfl rfl rfl ?_))
          go_roundg (ys.length - (i + 1))
          case measure => rw [HG.out]; omega
          case rel => exact ⟨i + 1, v3, l3, by omega, rfl, g0.symm, g1.symm, g3.symm, a3.symm, by go_num, R3⟩
      · have ei : i = ys.length := by omega
        subst ei
        have O := hO.out
        obtain ⟨n0, n1, n2, n3⟩ := O.len (Nat.le_refl _)
        obtain ⟨u1, x1, v1, l1, q1, O1, a1, a1', f1, f1'⟩ := app_two O.own (by omega) (by omega)
        have P0 : Rw ys (l1 0) := by rw [f1' 0 (by decide), O.turned]; exact Rw.perm (turn_perm ys) hf hF
        have P1 : Rw ys (l1 1) := by
          rw [f1' 1 (by decide), O.round]
          rcases hk with hk | ⟨h0, _⟩
          · exact Rw.perm (round_perm ys hk) hf hF
          · have : ys = [] := List.length_eq_zero_iff.1 h0
            subst this
            exact Rw.perm (List.Perm.refl _) hf hF
        have P2 : Rw ys (l1 2) := by
          rw [f1]
          have := O.halves
          rw [List.take_length] at this
          exact Rw.perm this hf hF
        obtain ⟨b0, c0, E0, r0, _⟩ := O1.row 0
        obtain ⟨b1', c1', E1, r1, _⟩ := O1.row 1
        obtain ⟨b2', c2', E2, r2, _⟩ := O1.row 2
        rw [a1' 0 (by decide)] at E0
        rw [a1' 1 (by decide)] at E1
        rw [a1] at E2
        subst E2
        have VV : ∀ u ∈ ([.slice b0 (l1 0).length c0, .slice b1' (l1 1).length c1', .slice b2' (l1 2).length c2'] : List Value), ∃ bo P bc, u = .slice bo P.length bc ∧ GRow x1 bo P ∧ Rw ys P := fun u hu => by
          simp at hu
          rcases hu with rfl | rfl | rfl
          · exact ⟨_, l1 0, _, rfl, r0, P0⟩
          · exact ⟨_, l1 1, _, rfl, r1, P1⟩
          · exact ⟨_, l1 2, _, rfl, r2, P2⟩
        have hR : (x1.alloc (.cells #[.slice b0 (l1 0).length c0, .slice b1' (l1 1).length c1', .slice b2' (l1 2).length c2'] 22)).ownsRow x1.heap.size 22 1 (.slice (some ⟨x1.heap.size, 0, none⟩) 3 3) 3 [.slice b0 (l1 0).length c0, .slice b1' (l1 1).length c1', .slice b2' (l1 2).length c2'] := World.ownsRow_lit (base := x1.heap.size) (e := 22) (size := 1) x1 #[.slice b0 (l1 0).length c0, .slice b1' (l1 1).length c1', .slice b2' (l1 2).length c2'] 3 (Nat.le_refl _) (by unfold maxLen; omega) rfl
        have bA := bal x1 (.cells #[.slice b0 (l1 0).length c0, .slice b1' (l1 1).length c1', .slice b2' (l1 2).length c2'] 22)
        have b1 := O1.below
        have hu := run_negf
        have cfx := fun W => fin_both x hx W
        obtain ⟨rx, hrx⟩ : ∃ r, finB x = r := ⟨_, rfl⟩
        rw [hrx] at cfx
        have HH : Hid (∀ w5 x4 : World, Below x1.heap.size x1 x4 → Below w4.heap.size w4 x4) := fun _ x4 h => b1.trans (h.mono b1.size)
        have hr1 := hr.below b1
        clear O O1 a1 a1' f1 f1' P0 P1 P2 n0 n1 n2 n3 hO r0 r1 r2
        rw [E0, E1]
        generalize (l1 0).length = m0 at *
        generalize (l1 1).length = m1 at *
        generalize (l1 2).length = m2 at *
        clear E0 E1
        go_upto_region 24 with (at_builtin; refine wpList_append_eq q1 rfl _ _ rfl rfl rfl rfl ?_)
        go_upto_if 134 with (go_at_call 10; refine (cfx _).mono ?_; rintro e w5 ⟨rfl, b5⟩)
        have B5 := bth3 bA b5
        have hR5 := own_later (w := x1) hR b5
        have r5 := hr1.below B5
        clear hR bA b5 hr1 q1 cfx
        go_cut [22, 23] from 135 (fun s22 _ wx => ∃ (g nr c : Nat) (f : Nat → Value), s22 = .slice (some ⟨g, 0, none⟩) nr c ∧ nr ≤ 4 ∧ RwS ys wx g nr f ∧ Below x1.heap.size x1 wx)
        case first =>
          cases rx
          · go_wp2_with fail
            go_meet
            exact ⟨_, 3, 3, _, rfl, by omega, rws_of hR5 (fun u hu => by
              obtain ⟨bo, P, bc, h1, h2, h3⟩ := VV u hu
              exact ⟨bo, P, bc, h1, h2.below B5, h3⟩), B5⟩
          · obtain ⟨u2, x2, b3', n3, c3', x3, g', c', x4, e2, e3, e4, RW, b4⟩ := four_rows (cap := cap) hR5 B5 VV r5 hn hf hF hx hrx
            clear hR5 B5 VV r5 hf hF
            go_wp2_with (first
              | (at_builtin; refine wpList_append_eq e2 rfl _ _ rfl rfl rfl rfl ?_)
              | (at_builtin; refine wpList_append_eq e3 rfl _ _ rfl rfl rfl rfl ?_)
              | (at_builtin; refine wpList_append_eq e4 rfl _ _ rfl rfl rfl rfl ?_))
            go_meet
            exact ⟨g', 4, c', _, rfl, by omega, RW, b4⟩
        clear hR5 B5 VV r5
        obtain ⟨g, nr, c, f, rfl, hnr, RW, B6⟩ := hcut
        obtain ⟨wq, hwq⟩ : ∃ wq, wq = wc := ⟨_, rfl⟩
        subst hwq
        replace HB := bth3 HB (HH.out wq wq B6)
        replace T1 := tabW_below T1 (HH.out wq wq B6)
        clear HH B6 b1 hr hu
        go_wp2
        go_loopg [24] nr (fun gg s24 wr => ∃ j : Nat, j ≤ nr ∧ gg = nr - j ∧ s24 = .int .i64 j ∧ RwS ys wr g nr f ∧ Hid (Below wq.heap.size wq wr))
        case atStart => exact ⟨0, by omega, rfl, rfl, RW, Below.refl _ _⟩
        case round =>
          clear RW
          obtain ⟨j, hj, hg, rfl, RW, hB⟩ := hrel
          have HG2 : Hid (gk = nr - j) := hg
          clear hg
          have bz := hB.out
          have Tr := tabW_below T1 bz
          by_cases hlj : j < nr
          · have i2 : (j : Int) < (nr : Int) := by omega
            obtain ⟨g1, bo, P, bc, ef, gP, rP⟩ := RW j hlj
            rw [ef] at g1
            have hPl := rP.len
            have c1 := fun W h1 h2 => exact_any P bo bc m W h1 h2 rP.fw (by omega)
            rw [rP.fin, HS.out P rP] at c1
            simp only [if_true] at c1
            have c2 := fun W a h1 h2 h3 => dotx_any P (List.replicate P.length 4607182418800017408) bo (some ⟨a, 0, none⟩) bc P.length m W h1 h2 h3 rP.fw (ones_fw _) (by omega) (by simp; omega)
            rw [dxA_ones P m rP.fin, HS.out P rP, List.length_replicate] at c2
            simp only at c2
            have hmk := run_make_row' (P := Tryd.prog) 22 25 (.float .f64 0) 8 Tryd.underlying22 Tryd.infoF rfl .i64 .i64 P.length (by omega) (by omega)
            have wz : IntKind.i64.wrap (P.length : Int) = (P.length : Int) := by rw [IntKind.wrap_i64]; omega
            clear rP ef
            obtain ⟨n, hPn⟩ : ∃ n, P.length = n := ⟨_, rfl⟩
            rw [hPn] at g1 c1 c2 hmk wz hPl
            go_upto_region 31 with (go_at_call 5; refine (c1 _ Tr gP).mono ?_; rintro e w7 ⟨rfl, b7⟩)
            have g7 : w7.cell? ⟨g, j, none⟩ = some (.slice bo n bc) := by rw [b7.cell (World.block_lt_of_cell? _ _ g1)]; exact g1
            have gP7 := gP.below b7
            have T7 := tabW_below Tr b7
            clear c1 g1 gP
            have RW7 := RW.below b7
            have HB7 : Hid (Below wq.heap.size wq w7) := (show Below _ _ _ from bth3 bz b7)
            clear RW b7 bz hB Tr
            have hst := vstoref Tryd.prog
            go_wp2
            go_loopg [28] n (fun gg s28 wr => ∃ t : Nat, t ≤ n ∧ gg = n - t ∧ s28 = .int .i64 t ∧ OnS w7 wr n t)
            case atStart => exact ⟨0, by omega, rfl, rfl, OnS.start w7 n⟩
            case round =>
              obtain ⟨t, ht, hg, rfl, hS7⟩ := hrel
              have HG3 : Hid (gk = n - t) := hg
              clear hg
              by_cases hlt : t < n
              · have i3 : (t : Int) < (n : Int) := by omega
                have ct := World.rowIs.cell hS7.1 hlt
                rw [if_neg (Nat.lt_irrefl _)] at ct
                have cz := World.rowIs.frozen hS7.1 t
                have hN7 := hS7.set
                clear hS7
                go_wp2
                go_roundg (n - (t + 1))
                case measure => rw [HG3.out]; omega
                case rel => exact ⟨t + 1, by omega, rfl, by go_num, hN7⟩
              · have et : t = n := by omega
                subst et
                have o7 := ones_row hS7.1
                have b8 := hS7.2
                have g8 : wr.cell? ⟨g, j, none⟩ = some (.slice bo t bc) := by rw [b8.cell (World.block_lt_of_cell? _ _ g7)]; exact g7
                have gP8 := gP7.below b8
                have T8 := tabW_below T7 b8
                have RW8 := RW7.below b8
                have HB8 := bth3 HB7.out b8
                clear hS7 hmk hst
                go_wp2_with (first
                  | (go_at_call 11; refine (c2 _ _ T8 gP8 o7).mono ?_; rintro e w9 ⟨rfl, b9⟩)
                  | (go_at_call 8; refine (ss _).mono ?_; rintro e w' ⟨rfl, h'⟩; subst w'))
                go_roundg (nr - (j + 1))
                case measure => rw [HG2.out]; omega
                case rel => exact ⟨j + 1, by omega, rfl, by go_num, RW8.below b9, (show Below _ _ _ from bth3 HB8 b9)⟩
          · have ej : j = nr := by omega
            subst ej
            go_wp2
            go_ret
            exact ⟨rfl, bth3 HB bz⟩
end Go.Proofs.YtfhejejfeffdcaaDoor
