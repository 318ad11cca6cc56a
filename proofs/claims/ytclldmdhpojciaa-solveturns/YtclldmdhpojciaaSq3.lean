/- SolveTurns where no pivot is 0: its walk, over what its callees answer. -/
import Derived.Test.YtclldmdhpojciaaSq2
namespace Go.Proofs.Ytclldmdhpojciaa
open Go.RowKit

/-- A square matrix handed back. -/
def GvI (w : World) (N NN : Nat) (I : Nat → Nat → Option Nat) (e : Ending) (w' : World) : Prop := ∃ xo xc xs, e = .returned (.tuple #[mxV N N xo NN xc, .int .i64 0]) ∧ xs.length = NN ∧ (∀ i j, i < N → j < N → NR (I i j) (xs.getD (i * N + j) 0)) ∧ GRow w' xo xs ∧ Below w.heap.size w w'
/-- A list of N numbers handed back. -/
def GaveN (w : World) (N : Nat) (ys : List Nat) (e : Ending) (w' : World) : Prop := ∃ bo bc, e = .returned (.slice bo N bc) ∧ GRow w' bo ys ∧ Below w.heap.size w w'
/-- The factor's box, the inverse's, its numbers. -/
structure TuS (w : World) (n : Int) (lo : Option Addr) (ln lc : Nat) (dO : Option Addr) (dn dc P N NN : Nat) (mo : Option Addr) (mc : Nat) (ms : List Nat) (W : World) : Prop where
  fb : B3 W w.heap.size (.int .i64 n) (.slice lo ln lc) (.slice dO dn dc)
  mb : B3 W P (.int .i64 N) (.int .i64 N) (.slice mo NN mc)
  row : GRow W mo ms
  bel : Below w.heap.size w W
theorem TuS.below {w : World} {n : Int} {lo dO : Option Addr} {ln lc dn dc P N NN : Nat} {mo : Option Addr} {mc : Nat} {ms : List Nat} {W W' : World} (s : TuS w n lo ln lc dO dn dc P N NN mo mc ms W) (hb : Below W.heap.size W W') : TuS w n lo ln lc dO dn dc P N NN mo mc ms W' :=
  ⟨s.fb.below hb, s.mb.below hb, s.row.below hb, s.bel.trans (hb.mono s.bel.size)⟩
set_option maxRecDepth 100000 in
set_option maxHeartbeats 4000000 in
theorem turns13_walk (N NN ln lc dn dc bn bc : Nat) (lo dO bo : Option Addr) (bs' : List Nat) (X Y X' : Nat → Option Nat) (I : Nat → Nat → Option Nat) (w : World) (hN : N ≤ 48) (HNN : Hid (N * N = NN)) (hNb : NN ≤ 2304) (eM : (N : Int) * (N : Int) = (NN : Int))
    (c1 : ∀ W, Below w.heap.size w W → Calls Try.prog 8 #[fcV N lo ln lc dO dn dc, .slice bo bn bc] W fun e w' => GaveLe W (tab N Y, 0) e w')
    (c2 : ∀ W, Below w.heap.size w W → Calls Try.prog 10 #[fcV N lo ln lc dO dn dc, .slice bo bn bc] W fun e w' => GaveLe W (tab N X, 0) e w')
    (c3 : ∀ W (rs : List Nat) (ro : Option Addr) (rc : Nat), Below w.heap.size w W → rs.length = N → GRow W ro rs → (∀ i, i < N → NR (Y i) (rs.getD i 0)) → Calls Try.prog 11 #[fcV N lo ln lc dO dn dc, .slice ro N rc] W fun e w' => GaveLe W (tab N X, 0) e w')
    (c4 : ∀ W, Below w.heap.size w W → Calls Try.prog 15 #[fcV N lo ln lc dO dn dc] W fun e w' => GvI W N NN I e w')
    (c5 : ∀ W, Below w.heap.size w W → Calls Try.prog 32 #[.slice bo bn bc] W fun e w' => GaveM W bs' e w')
    (c6 : ∀ W (mo : Option Addr) (mc : Nat), Below w.heap.size w W → GRow W mo bs' → Calls Try.prog 10 #[fcV N lo ln lc dO dn dc, .slice mo bs'.length mc] W fun e w' => GaveLe W (tab N X', 0) e w')
    (c7 : ∀ W (xs : List Nat) (xo : Option Addr) (xc : Nat), xs.length = N → GRow W xo xs → Calls Try.prog 32 #[.slice xo N xc] W fun e w' => GaveN W N (xs.map negW) e w')
    (c8 : ∀ (us xs : List Nat), us.length = N → xs.length = N → (∀ i, i < N → NR (X i) (xs.getD i 0)) → (∀ i, i < N → NR (X' i) (us.getD i 0)) → ∀ (uo no : Option Addr) (uc nc : Nat) (W : World), GRow W uo us → GRow W no (xs.map negW) → Calls Try.prog 30 #[.slice uo N uc, .slice no N nc] W fun e w' => e = .returned (.bool true) ∧ Below W.heap.size W w')
    (c9 : ∀ (xs zs : List Nat), xs.length = N → zs.length = N → (∀ i, i < N → NR (X i) (xs.getD i 0)) → (∀ i, i < N → NR (X i) (zs.getD i 0)) → ∀ (xo zo : Option Addr) (xc zc : Nat) (W : World), GRow W xo xs → GRow W zo zs → Calls Try.prog 31 #[.slice xo N xc, .slice zo N zc] W fun e w' => e = .returned (.bool true) ∧ Below W.heap.size W w')
    (c10 : ∀ W (B c : Nat), c < N → Below w.heap.size w W → RRow W B N (fun p => if p = c then 4607182418800017408 else 0) → Calls Try.prog 10 #[fcV N lo ln lc dO dn dc, .slice (some ⟨B, 0, none⟩) N N] W fun e w' => GaveLe W (tab N (fun i => I i c), 0) e w') :
    Calls Try.prog 6 #[fcV N lo ln lc dO dn dc, .slice bo bn bc] w fun e w' => e = .returned (.bool true) ∧ Below w.heap.size w w' := by
  have M0 := B3.new w (.int .i64 N) (.slice lo ln lc) (.slice dO dn dc) 27
  have B0 := below_one w (.cells #[.int .i64 N, .slice lo ln lc, .slice dO dn dc] 27)
  go_enter Try.func6, Try.ntmps6
  go_upto_region 2 with (go_at_call 8; refine (c1 _ B0).mono ?_; intro e w1 k1; obtain ⟨yo, yc, ys, rfl, y1, y2, y3, b1⟩ := k1.some'; have B1 := B0.trans (b1.mono B0.size); have M1 := M0.below b1; have HY : Hid (ys.length = N) := y1; clear y1)
  obtain ⟨m0, m1, m2, _⟩ := id M1
  go_upto_region 3 with (go_at_call 10; refine (c2 _ B1).mono ?_; intro e w2 k2; obtain ⟨xo, xc, xs, rfl, x1, x2, x3, b2⟩ := k2.some'; have B2 := B1.trans (b2.mono B1.size); have M2 := M1.below b2; have y4 := y3.below b2; have HX : Hid (xs.length = N) := x1; clear x1)
  clear m0 m1 m2 M0 M1 B0 B1 b1 b2 y3
  obtain ⟨m0, m1, m2, _⟩ := id M2
  go_upto_region 6 with (go_at_call 11; refine (c3 _ ys _ _ B2 HY.out y4 y2).mono ?_; intro e w3 k3; obtain ⟨zo, zc, zs, rfl, z1, z2, z3, b3⟩ := k3.some'; have B3' := B2.trans (b3.mono B2.size); have M3 := M2.below b3; have x4 := x3.below b3; have HZ : Hid (zs.length = N) := z1; clear z1)
  clear m0 m1 m2 M2 B2 b3 y4 y2 x3
  obtain ⟨m0, m1, m2, _⟩ := id M3
  go_upto_region 7 with (go_at_call 15; refine (c4 _ B3').mono ?_; rintro e w4 ⟨mo, mc, ms, rfl, ml, mn, mr, b4⟩)
  have HM : Hid (ms.length = NN) := ml
  have S : TuS w N lo ln lc dO dn dc w4.heap.size N NN mo mc ms (w4.alloc (.cells #[.int .i64 N, .int .i64 N, .slice mo NN mc] 34)) :=
    ⟨(M3.below b4).alloc _, B3.new _ _ _ _ _, mr.below (below_one _ _), (B3'.trans (b4.mono B3'.size)).trans ((below_one _ _).mono (B3'.trans (b4.mono B3'.size)).size)⟩
  have b5 : Below w3.heap.size w3 (w4.alloc (.cells #[.int .i64 N, .int .i64 N, .slice mo NN mc] 34)) := b4.trans ((below_one _ _).mono b4.size)
  have x5 := x4.below b5
  have z4 := z3.below b5
  generalize w4.alloc (.cells #[.int .i64 N, .int .i64 N, .slice mo NN mc] 34) = W4 at *
  generalize w4.heap.size = P at *
  clear m0 m1 m2 M3 B3' b4 b5 x4 z3 mr ml
  go_upto_region 11 with (go_at_call 31; refine (c9 xs zs HX.out HZ.out x2 z2 _ _ _ _ _ x5 z4).mono ?_; rintro e w5 ⟨rfl, b5⟩; have S5 := S.below b5; have x6 := x5.below b5)
  clear S x5 z4 z2 b5 c1 c2 c3 c4 c9
  have SD := S5.below (Below.refl _ _).drew
  have x7 := x6.below (Below.refl w5.heap.size w5).drew
  have HC : ∀ w1, Below w5.drew.heap.size w5.drew w1 → w1.cell? ⟨w.heap.size, 0, none⟩ = some (.int .i64 N) ∧ w1.cell? ⟨w.heap.size, 1, none⟩ = some (.slice lo ln lc) ∧ w1.cell? ⟨w.heap.size, 2, none⟩ = some (.slice dO dn dc) := fun w1 hb => by
    obtain ⟨p0, p1, p2, _⟩ := id (SD.below hb).fb
    exact ⟨p0, p1, p2⟩
  have m0 := HC _ (Below.refl _ _)
  go_region_held3 (fun w' => w'.cell? ⟨w.heap.size, 0, none⟩ = some (.int .i64 N) ∧ w'.cell? ⟨w.heap.size, 1, none⟩ = some (.slice lo ln lc) ∧ w'.cell? ⟨w.heap.size, 2, none⟩ = some (.slice dO dn dc)) (go_keep)
    (first
      | (go_at_call 32; refine (c5 _ SD.bel).mono ?_; rintro e w6 ⟨qo, qc, rfl, q1, b6⟩; have m6 := HC _ b6)
      | (go_at_call 10; refine (c6 _ _ _ (SD.below b6).bel q1).mono ?_; intro e w7 k7; obtain ⟨uo, uc, us, rfl, u1, u2, u3, b7⟩ := k7.some'; have b8 := b6.trans (b7.mono b6.size); have m7 := HC _ b8; have HU : Hid (us.length = N) := u1; clear u1))
  have S7 := SD.below b8
  have x8 := x7.below b8
  clear SD S5 HC m0 m6 m7 x6 x7 b6 b7 b8 c5 c6 q1
  obtain ⟨p0, p1, p2, _⟩ := id S7.fb
  have f1 : ((N : Int) != (N : Int)) = false := by simp
  have f2 : ((NN : Int) != (NN : Int)) = false := by simp
  go_upto_region 14 with (first
    | (go_at_call 32; refine (c7 _ xs _ _ HX.out x8).mono ?_; rintro e w8 ⟨no, nc, rfl, n1, b9⟩; have S8 := S7.below b9; have u4 := u3.below b9)
    | (go_at_call 30; refine (c8 us xs HU.out HX.out x2 u2 _ _ _ _ _ u4 n1).mono ?_; rintro e w9 ⟨rfl, b10⟩; have S9 := S8.below b10; obtain ⟨r0, r1, r2, _⟩ := id S9.fb; obtain ⟨t0, t1, t2, _⟩ := id S9.mb))
  clear S7 S8 x8 x2 u2 u3 u4 n1 b9 b10 c7 c8 p0 p1 p2 r0 r1 r2 t0 t1 t2
  go_cut [15] from 16 (fun s15 wx => s15 = .int .i64 0 ∧ wx = w9)
  case first =>
    go_wp2
    go_meet
    exact ⟨rfl, rfl⟩
  obtain ⟨rfl, h'⟩ := hcut
  subst wc
  have hmk := run_make_row' (P := Try.prog) 22 29 (.float .f64 0) 8 Try.underlying22 Try.infoF rfl .i64 .i64 N (by omega) (by omega)
  have hst := vstoref Try.prog
  have e0 : ((0 : Int) != 0) = false := rfl
  clear f1 f2 eM
  go_wp2
  go_loopg [15] 8 (fun gg s15 wr => ∃ c : Nat, c ≤ 8 ∧ gg = 8 - c ∧ s15 = .int .i64 c ∧ TuS w N lo ln lc dO dn dc P N NN mo mc ms wr)
  case atStart => exact ⟨0, by omega, rfl, rfl, S9⟩
  case round =>
    clear S9
    obtain ⟨c, hc, hg, rfl, S⟩ := hrel
    have HG : Hid (gk = 8 - c) := hg
    clear hg
    obtain ⟨f0, f1, f2, _⟩ := id S.fb
    by_cases hlt : c < N
    · have i1 : (c : Int) < (N : Int) := by omega
      by_cases hlt8 : c < 8
      · have i8 : (c : Int) < 8 := by omega
        have BB := below_one wr (.cells (madeCells #[.float .f64 0] N) 29)
        have RA := RRow.made wr N
        go_upto_region 18 with fail
        generalize wr.alloc (.cells (madeCells #[.float .f64 0] N) 29) = WA at *
        have BC := BB.setCell (p := ⟨wr.heap.size, c, none⟩) (Nat.le_refl _) (.float .f64 4607182418800017408)
        have SB := S.below BC
        have RB := RA.set c 4607182418800017408
        have g1 := World.rowIs.cell RA hlt
        have g2 := World.rowIs.frozen RA c
        clear f0 f1 f2 BB RA BC
        generalize wr.heap.size = B at *
        go_upto_region 19 with fail
        generalize WA.setCell ⟨B, c, none⟩ (.float .f64 4607182418800017408) = WB at *
        clear g1 g2 S
        obtain ⟨f0, f1, f2, _⟩ := id SB.fb
        go_upto_region 20 with (go_at_call 10; refine (c10 _ _ c hlt SB.bel RB).mono ?_; intro e w3 k3; obtain ⟨vo, vc, vs, rfl, v1, v2, v3, b3⟩ := k3.some'; have S3 := SB.below b3; have HV : Hid (vs.length = N) := v1; clear v1)
        have HV2 : Hid (∀ i, i < N → NR (I i c) (vs.getD i 0)) := v2
        clear f0 f1 f2 SB RB b3 v2
        go_wp2
        go_loopg [19] N (fun gg s19 wv => ∃ r : Nat, r ≤ N ∧ gg = N - r ∧ s19 = .int .i64 r ∧ Hid (Below w3.heap.size w3 wv))
        case atStart => exact ⟨0, Nat.zero_le _, rfl, rfl, Below.refl _ _⟩
        case round =>
          obtain ⟨r, hr, hg, rfl, hBl⟩ := hrel
          have HG2 : Hid (gk = N - r) := hg
          clear hg
          have S := S3.below hBl.out
          obtain ⟨f0, f1, f2, _⟩ := id S.fb
          by_cases hlt2 : r < N
          · have i2 : (r : Int) < (N : Int) := by omega
            have hp := at_lt hlt2 hlt
            have hpm : r * N + c < ms.length := by rw [HM.out, ← HNN.out]; exact hp
            rw [HNN.out] at hp
            have hrv : r < vs.length := by rw [HV.out]; exact hlt2
            have hv := HV2.out r hlt2
            have hm := mn r c hlt2 hlt
            have cs := fun W => samef_any (vs.getD r 0) (ms.getD (r * N + c) 0) hv.1 hm.1 W
            rw [NR_sameB hv hm] at cs
            rcases v3.below hBl.out with h | ⟨vb, voff, rfl, hvc⟩
            · omega
            rcases S.row with h | ⟨mb, moff, rfl, hmc⟩
            · omega
            have g1 := hvc r hrv
            have g2 := hmc (r * N + c) hpm
            have e1 : (r : Int) * (N : Int) = ((r * N : Nat) : Int) := mulI
            have hqb := mul48 (show r ≤ 48 by omega) hN
            generalize r * N = q at *
            generalize vs.getD r 0 = x at *
            generalize ms.getD (q + c) 0 = y at *
            obtain ⟨t0, t1, t2, _⟩ := id S.mb
            have j1 : (q : Int) + (c : Int) < (NN : Int) := by omega
            have j3 : ((q : Int) + (c : Int)).toNat = q + c := by omega
            have w1 : IntKind.i64.wrap (q : Int) = (q : Int) := by rw [IntKind.wrap_i64]; omega
            have w2 : IntKind.i64.wrap ((q : Int) + (c : Int)) = (q : Int) + (c : Int) := by rw [IntKind.wrap_i64]; omega
            clear hvc hmc hv hm
            go_wp2
            go_quiet ((go_at_call 33; exact Calls.quiet_of_same (cs _)))
            go_wp2
            go_roundg (N - (r + 1))
            case measure => rw [HG2.out]; omega
            case rel => exact ⟨r + 1, by omega, rfl, by go_num, below_drewN hBl.out _⟩
          · have i2 : ¬ (r : Int) < (N : Int) := by omega
            go_wp2
            go_roundg (8 - (c + 1))
            case measure => rw [HG.out]; omega
            case rel => exact ⟨c + 1, by omega, rfl, by go_num, S⟩
      · have i8 : ¬ (c : Int) < 8 := by omega
        go_wp2_with (go_at_call 18; refine (awake13 _).mono ?_; rintro e w6 ⟨rfl, b6⟩)
        go_ret
        exact ⟨rfl, S.bel.trans (b6.mono S.bel.size)⟩
    · have i1 : ¬ (c : Int) < (N : Int) := by omega
      go_wp2_with (go_at_call 18; refine (awake13 _).mono ?_; rintro e w6 ⟨rfl, b6⟩)
      go_ret
      exact ⟨rfl, S.bel.trans (b6.mono S.bel.size)⟩
end Go.Proofs.Ytclldmdhpojciaa
