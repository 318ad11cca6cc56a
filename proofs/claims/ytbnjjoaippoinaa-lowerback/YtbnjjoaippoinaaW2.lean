/- What Factor answers. -/
import Derived.Test.YtbnjjoaippoinaaW1
import Derived.WalkMore
import Derived.Orders
import Derived.RowKit
import Derived.Test.YtbnjjoaippoinaaXm4
namespace Go.Proofs.Ytbnjjoaippoinaa
open Go.RowKit

theorem opQu : FourOp .quo := Or.inr (Or.inr (Or.inr rfl))
set_option maxRecDepth 100000 in
set_option maxHeartbeats 4000000 in
theorem take_any (xs : List Nat) (N T gL gD cap : Nat) (ao : Option Addr) (w0 w : World) (hN : N ≤ 48) (hT : tri N = T) (hl : xs.length = N * N) (hr : GRow w0 ao xs) (hF : FW xs)
    (hL : RRow w gL T fun _ => 0) (hD : RRow w gD N fun _ => 0) (hlt : gL < w.heap.size ∧ gD < w.heap.size) (hlo : w0.heap.size ≤ gL ∧ w0.heap.size ≤ gD) (hne : gL ≠ gD) (hB : Below w0.heap.size w0 w) :
    Calls Try.prog 32 #[fcV N (some ⟨gL, 0, none⟩) T T (some ⟨gD, 0, none⟩) N N, mxV N N ao xs.length cap] w fun e w' => ∃ (er : Int) (r rr : Nat) (fl d : Nat → Nat),
      e = .returned (.tuple #[.int .i64 er, .int .i64 rr]) ∧ (er = 0 ∨ rr = r) ∧ Out (mE N xs) N (LF fl) d er r ∧ RRow w' gL T fl ∧ RRow w' gD N d ∧ (∀ p, d p < 18446744073709551616) ∧ (∀ p, fl p < 18446744073709551616) ∧ Below w0.heap.size w0 w' ∧ (∀ b x y z, b < w.heap.size → b ≠ gL → b ≠ gD → B3 w b x y z → B3 w' b x y z) := by
  have hmk := run_make_row' (P := Try.prog) 22 38 (.float .f64 0) 8 Try.underlying22 Try.infoF rfl .i64 .i64 N (by omega) (by omega)
  have h1 := fun x y w => run_op4 (P := Try.prog) (op := .mul) opMu 38 x y w
  have h2 := fun x y w => run_op4 (P := Try.prog) (op := .quo) opQu 38 x y w
  have hst := vstoref Try.prog
  have hT2 := tri_le (show N ≤ 49 by omega)
  rw [hT] at hT2
  have hsz : w.heap.size + 1 + 1 < (((w.alloc (.cells #[.int .i64 N, .slice (some ⟨gL, 0, none⟩) T T, .slice (some ⟨gD, 0, none⟩) N N] 26)).alloc (.cells #[.int .i64 N, .int .i64 N, .slice ao xs.length cap] 24)).alloc (.cells (madeCells #[.float .f64 0] N) 38)).heap.size := by go_simp
  have S0 : TkS w0 w (((w.alloc (.cells #[.int .i64 N, .slice (some ⟨gL, 0, none⟩) T T, .slice (some ⟨gD, 0, none⟩) N N] 26)).alloc (.cells #[.int .i64 N, .int .i64 N, .slice ao xs.length cap] 24)).alloc (.cells (madeCells #[.float .f64 0] N) 38)) w.heap.size (w.heap.size + 1) (w.heap.size + 1 + 1) gL gD N T ao xs.length cap (fun _ => 0) (fun _ => 0) (fun _ => 0) := by
    have b3 := old_three (Below.refl _ (((w.alloc (.cells #[.int .i64 N, .slice (some ⟨gL, 0, none⟩) T T, .slice (some ⟨gD, 0, none⟩) N N] 26)).alloc (.cells #[.int .i64 N, .int .i64 N, .slice ao xs.length cap] 24)).alloc (.cells (madeCells #[.float .f64 0] N) 38)))
    have hw := hB.size
    have e1 := RRow.made ((w.alloc (.cells #[.int .i64 N, .slice (some ⟨gL, 0, none⟩) T T, .slice (some ⟨gD, 0, none⟩) N N] 26)).alloc (.cells #[.int .i64 N, .int .i64 N, .slice ao xs.length cap] 24)) N
    rw [show ((w.alloc (.cells #[.int .i64 N, .slice (some ⟨gL, 0, none⟩) T T, .slice (some ⟨gD, 0, none⟩) N N] 26)).alloc (.cells #[.int .i64 N, .int .i64 N, .slice ao xs.length cap] 24)).heap.size = w.heap.size + 1 + 1 by go_simp] at e1
    exact ⟨((B3.new _ _ _ _ _).alloc _).alloc _, (B3.newAt (by go_simp) _ _ _ _).alloc _, e1, hL.below b3 hlt.1, hD.below b3 hlt.2, ⟨hsz, by omega, by omega⟩, ⟨by omega, hlo.1, hlo.2⟩, ⟨by omega, by omega, hne, by omega, by omega, by omega, by omega, by omega, by omega⟩, hB.trans (b3.mono hw), by omega, fun b x y z _ _ _ h4 => ((h4.alloc _).alloc _).alloc _⟩
  clear hsz hL hD hlt hlo hne hB
  have HL : Hid (xs.length = N * N) := hl
  have HT : Hid (tri N = T) := hT
  clear hl hT
  obtain ⟨n, hn⟩ : ∃ n, xs.length = n := ⟨_, rfl⟩
  have HNL : Hid (xs.length = n) := hn
  rw [hn] at S0
  rw [hn]
  clear hn
  go_enter Try.func32, Try.ntmps32
  go_wp2
  go_step3
  go_wp2
  go_step3
  go_wp2
  generalize ((w.alloc (.cells #[.int .i64 N, .slice (some ⟨gL, 0, none⟩) T T, .slice (some ⟨gD, 0, none⟩) N N] 26)).alloc (.cells #[.int .i64 N, .int .i64 N, .slice ao n cap] 24)).alloc (.cells (madeCells #[.float .f64 0] N) 38) = W0 at *
  generalize w.heap.size = Fb at *
  clear hmk
  go_loopg [4, 5, 18] N (fun g s4 s5 s18 wr => ∃ (j rr : Nat) (v fl d : Nat → Nat), j ≤ N ∧ g = N - j ∧ s4 = .int .i64 0 ∧ s5 = .int .i64 rr ∧ s18 = .int .i64 j ∧ Hid (Col (mE N xs) N (LF fl) d j) ∧ Hid ((∀ p, d p < 18446744073709551616) ∧ ∀ p, fl p < 18446744073709551616) ∧ TkS w0 w wr Fb (Fb + 1) (Fb + 1 + 1) gL gD N T ao n cap v fl d)
  case atStart => exact ⟨0, 0, _, _, _, Nat.zero_le _, rfl, rfl, rfl, rfl, fun j hj => by omega, ⟨fun _ => by omega, fun _ => by omega⟩, S0⟩
  case round =>
    clear S0
    obtain ⟨j, rr, v, fl, d, hj, hg, rfl, rfl, rfl, hC, hW, S⟩ := hrel
    have HG : Hid (gk = N - j) := hg
    clear hg
    by_cases hlt : j < N
    · have i1 : (j : Int) < (N : Int) := by omega
      obtain ⟨t, ht⟩ : ∃ t, tri j = t := ⟨_, rfl⟩
      have htT : t + j ≤ T := by
        have := tri_mono (show j + 1 ≤ N by omega)
        rw [tri, ht, HT.out] at this
        exact this
      have cr := fun W => lrow_any N gL 0 T T (some ⟨gD, 0, none⟩) N N j t W (by omega) ht htT
      have HTJ : Hid (tri j = t) := ht
      clear ht
      obtain ⟨f0, f1, f2, _⟩ := id S.fbox
      go_wp2_with (go_at_call 45; refine (cr _).mono ?_; rintro e w2 ⟨o, rfl, ho, b2⟩)
      have S2 := S.later b2
      clear S f0 f1 f2 cr b2
      have HV0 : Hid (∀ q, q < 0 → NR (vO (LF fl) d j q) (v q)) := fun q hq => by omega
      go_loopg [31] j (fun g s31 wv => ∃ (k : Nat) (v : Nat → Nat), k ≤ j ∧ g = j - k ∧ s31 = .int .i64 k ∧ Hid (∀ q, q < k → NR (vO (LF fl) d j q) (v q)) ∧ TkS w0 w wv Fb (Fb + 1) (Fb + 1 + 1) gL gD N T ao n cap v fl d)
      case atStart => exact ⟨0, v, Nat.zero_le _, rfl, rfl, HV0, S2⟩
      case round =>
        clear S2 HV0 v
        obtain ⟨k, v, hk, hg, rfl, hV, S⟩ := hrel
        have HG2 : Hid (gk = j - k) := hg
        clear hg
        by_cases hkj : k < j
        · have i2 : (k : Int) < (j : Int) := by omega
          have i3 : (k : Int) < (N : Int) := by omega
          have eo : o = t := by rw [ho (by omega)]; omega
          subst eo
          have HS := S.drew
          obtain ⟨f0, f1, f2, _⟩ := id HS.fbox
          have g1 := World.rowIs.cell HS.lrow (show o + k < T by omega)
          have g2 := World.rowIs.cell HS.drow (show k < N by omega)
          have g3 := World.rowIs.cell HS.room (show k < N by omega)
          have g4 := World.rowIs.frozen HS.room k
          have HNV : Hid (∀ W, ∀ q, q < k + 1 → NR (vO (LF fl) d j q) ((fun p => if p = k then opR .mul (fl (o + k)) (d k) W else v p) q)) := fun W q hq => by
            show NR _ (if q = k then opR .mul (fl (o + k)) (d k) W else v q)
            by_cases e : q = k
            · rw [if_pos e, e]
              have : LF fl j k = fl (o + k) := by unfold LF; rw [HTJ.out]
              unfold vO
              rw [this]
              exact opO_NR opMu (toO_NR (hW.out.2 _)) (toO_NR (hW.out.1 _)) W
            · rw [if_neg e]; exact hV.out q (by omega)
          clear hV
          generalize fl (o + k) = x at *
          generalize d k = y at *
          obtain ⟨n1, n2, n3, n4, n5, n6, n7, n8, n9⟩ := id HS.ne
          have n1' := n1.symm
          have n2' := n2.symm
          have n4' := n4.symm
          have hop : ∀ W a, (opW .mul x y W).cell? a = W.cell? a := fun W a => by unfold World.cell?; rw [opW_heap]
          have hof : ∀ W a, (opW .mul x y W).frozen? a = W.frozen? a := fun W a => by unfold World.frozen?; rw [opW_heap]
          go_wp2
          first | (go_region_held (fun w' => w'.cell? ⟨Fb, 0, none⟩ = some (.int .i64 N) ∧ w'.cell? ⟨Fb, 1, none⟩ = some (.slice (some ⟨gL, 0, none⟩) T T) ∧ w'.cell? ⟨Fb, 2, none⟩ = some (.slice (some ⟨gD, 0, none⟩) N N) ∧ w'.cell? ⟨gL, o + k, none⟩ = some (.float .f64 x) ∧ w'.cell? ⟨gD, k, none⟩ = some (.float .f64 y)) (go_keep) (fail)) | fail
          have S3 := (HS.later (opW_below .mul x y (Below.refl wr.drew.heap.size wr.drew))).setR k (opR .mul x y wr.drew)
          go_wp2
          go_roundg (j - (k + 1))
          case measure => rw [HG2.out]; omega
          case rel => exact ⟨k + 1, _, by omega, rfl, by go_num, HNV.out _, S3⟩
        · have ek : k = j := by omega
          subst ek
          have i2 : ¬ (k : Int) < (k : Int) := by omega
          obtain ⟨q, hq⟩ : ∃ q, k * N = q := ⟨_, rfl⟩
          have eM : (k : Int) * (N : Int) = (q : Int) := by rw [mulI, hq]
          have hqn : q + k < n := by
            rw [← HNL.out, HL.out, ← hq]
            exact at_lt hlt hlt
          have hqb := mul48 (show k ≤ 48 by omega) hN
          rw [hq] at hqb
          have iq : (q : Int) + (k : Int) < (n : Int) := by omega
          have nq : ((q : Int) + (k : Int)).toNat = q + k := by omega
          have iz : (0 : Int) ≤ (q : Int) + (k : Int) := by omega
          have wz1 : IntKind.i64.wrap (q : Int) = (q : Int) := by rw [IntKind.wrap_i64]; omega
          have wz2 : IntKind.i64.wrap ((q : Int) + (k : Int)) = (q : Int) + (k : Int) := by rw [IntKind.wrap_i64]; omega
          have iw : ((q + k : Nat) : Int) < (n : Int) := by omega
          have iy : ¬ (q : Int) + (k : Int) < 0 := by omega
          have ix : (k : Int) < (N : Int) := by omega
          have HM : Hid (mE N xs k k = xs.getD (q + k) 0) := (show mE N xs k k = xs.getD (q + k) 0 by unfold mE; rw [hq])
          clear hq
          obtain ⟨b, off, rfl⟩ : ∃ b off, ao = some ⟨b, off, none⟩ := by
            rcases hr with h | ⟨b, off, rfl, _⟩
            · have := HNL.out; omega
            · exact ⟨b, off, rfl⟩
          have HX : Hid (NR (toO (xs.getD (q + k) 0)) (xs.getD (q + k) 0)) := fin_wordL hF (by rw [HNL.out]; exact hqn)
          have HCX : Hid (∀ wv, Below w0.heap.size w0 wv → wv.cell? ⟨b, off + (q + k), none⟩ = some (.float .f64 (xs.getD (q + k) 0))) := fun wv hb => row_to hr hb (by rw [HNL.out]; exact hqn)
          have HPV : Hid (pivO (mE N xs) (LF fl) d k = lesO (toO (xs.getD (q + k) 0)) (vO (LF fl) d k) (fun k' => toO (LF fl k k')) k) := (show _ = _ by unfold pivO; rw [HM.out])
          generalize xs.getD (q + k) 0 = x at *
          have la : (toL' k v).length = k := toL'_len _ _
          have lb : (toL' k fun p => fl (t + p)).length = k := toL'_len _ _
          have cl := fun W h1 h2 => lless_any x (toO x) (vO (LF fl) d k) (fun k' => toO (LF fl k k')) (toL' k v) (toL' k fun p => fl (t + p)) (some ⟨Fb + 1 + 1, 0, none⟩) (some ⟨gL, o, none⟩) k k W HX.out h1 h2 (fun p hp => by rw [la] at hp; rw [toL'_at hp]; exact hV.out p hp) (fun p hp => by rw [la] at hp; rw [toL'_at hp]; unfold LF; rw [HTJ.out]; exact toO_NR (hW.out.2 _)) (by rw [la]; omega) (by rw [la, lb])
          rw [la, lb] at cl
          rw [← HPV.out] at cl
          have HS := S.drew
          have HC : ∀ w1, Below wr.drew.heap.size wr.drew w1 → w1.cell? ⟨Fb, 0, none⟩ = some (.int .i64 N) ∧ w1.cell? ⟨Fb, 2, none⟩ = some (.slice (some ⟨gD, 0, none⟩) N N) ∧ w1.cell? ⟨Fb + 1, 2, none⟩ = some (.slice (some ⟨b, off, none⟩) n cap) ∧ w1.cell? ⟨b, off + (q + k), none⟩ = some (.float .f64 x) := fun w1 hb => by
            obtain ⟨x0, x1, x2, _⟩ := HS.fbox.below hb
            obtain ⟨y0, y1, y2, _⟩ := HS.mbox.below hb
            exact ⟨x0, x2, y2, HCX.out w1 (HS.later hb).below⟩
          have m0 := HC _ (Below.refl _ _)
          have r1 : GRow wr.drew (some ⟨Fb + 1 + 1, 0, none⟩) (toL' k v) := by
            have := HS.room.part (o := 0) (t := 0) (j := k) (fun _ => rfl) (by omega)
            simpa using this
          have r2 : GRow wr.drew (some ⟨gL, o, none⟩) (toL' k fun p => fl (t + p)) := HS.lrow.part (fun h => by rw [ho h]; omega) htT
          have nb1 : ¬ gD = Fb := HS.ne.2.2.2.2.2.1
          have nb2 : ¬ gD = Fb + 1 := HS.ne.2.2.2.2.2.2.2.2
          have nb3 : ¬ Fb = gD := fun e => nb1 e.symm
          have nb4 : ¬ Fb + 1 = gD := fun e => nb2 e.symm
          have nb5 : ¬ b = gD := fun e => by
            have h1 := HS.lo.2.2
            have h2 := World.block_lt_of_cell? w0 _ (HCX.out w0 (Below.refl _ _))
            have h3 : b < w0.heap.size := h2
            omega
          have nb6 : ¬ gD = b := fun e => nb5 e.symm
          clear la lb HX HCX HPV HM
          go_wp2
          go_region_held3 (fun w' => w'.cell? ⟨Fb, 0, none⟩ = some (.int .i64 N) ∧ w'.cell? ⟨Fb, 2, none⟩ = some (.slice (some ⟨gD, 0, none⟩) N N) ∧ w'.cell? ⟨Fb + 1, 2, none⟩ = some (.slice (some ⟨b, off, none⟩) n cap) ∧ w'.cell? ⟨b, off + (q + k), none⟩ = some (.float .f64 x)) (go_keep)
            (first
              | (go_at_call 46; refine (cl _ r1 r2).mono ?_; rintro e w3 ⟨r, rfl, hr3, b3⟩; have m3 := HC _ b3; have S3 := HS.later b3; have g2 := World.rowIs.cell S3.drow (show k < N by omega); have g3 := World.rowIs.frozen S3.drow k))
          have S4 := S3.setD k r
          generalize w3.setCell ⟨gD, k, none⟩ (.float .f64 r) = W4 at *
          have g5 : W4.cell? ⟨gD, k, none⟩ = some (.float .f64 r) := by
            have := World.rowIs.cell S4.drow (show k < N by omega)
            simpa using this
          obtain ⟨f0, f1, f2, _⟩ := id S4.fbox
          have HBAD : Hid (posB r = false → Out (mE N xs) N (LF fl) (fun p => if p = k then r else d p) 220 k) := fun h => Or.inr (Or.inl ⟨rfl, hlt, hC.out.setD (by omega), by rw [piv_setD]; exact posO_not hr3 h⟩)
          have HWD := word_setD (j := k) hW.out.1 hr3.1
          have hr31 := hr3.1
          have cfi := fun W => lfin_any r hr31 W
          have HWL := hW.out.2
          cases hfr : finB r
          · rw [hfr] at cfi
            have HB2 : Hid (posB r = false) := (show posB r = false by
              cases hp : posB r
              · rfl
              · rw [(posB_fin hp).1] at hfr; cases hfr)
            clear hfr cl HC m0 r1 r2 S3 m3 b3 g2 g3
            go_wp2_with (go_at_call 30; refine (cfi _).mono ?_; rintro e w' ⟨rfl, h'⟩; subst w')
            rw [Exit.noGoto_ret]
            exact bodyPost_ret (v := .tuple #[.int .i64 220, .int .i64 k]) (by simp [results, Try.results32, go_sem]) rfl ⟨220, k, k, fl, _, rfl, Or.inr rfl, HBAD.out HB2.out, S4.lrow, S4.drow, HWD, HWL, S4.below, S4.keep⟩
          · rw [hfr] at cfi
            have hle := not_pos hr31 hfr
            cases hp : posB r
            · rw [hp] at hle
              clear cl HC m0 r1 r2 S3 m3 b3 g2 g3
              go_wp2_with (go_at_call 30; refine (cfi _).mono ?_; rintro e w' ⟨rfl, h'⟩; subst w')
              rw [Exit.noGoto_ret]
              exact bodyPost_ret (v := .tuple #[.int .i64 220, .int .i64 k]) (by simp [results, Try.results32, go_sem]) rfl ⟨220, k, k, fl, _, rfl, Or.inr rfl, HBAD.out hp, S4.lrow, S4.drow, HWD, HWL, S4.below, S4.keep⟩
            · rw [hp] at hle
              clear cl HC m0 r1 r2 S3 m3 b3 g2 g3
              go_wp2_with (go_at_call 30; refine (cfi _).mono ?_; rintro e w' ⟨rfl, h'⟩; subst w')
              clear hle
              have RI : RowI (mE N xs) N fl (fun p => if p = k then r else d p) v k (k + 1) := ⟨hC.out.setD (by omega), by rw [piv_setD, NR_fin hr3 hfr]; simp, by simpa using hp, fun i' h1 h2 => by omega, HWD, HWL, vs_setD hV.out⟩
              clear HBAD HWD HWL hr31 hr3 hC hW cfi hp hfr hV f0 f1 f2 g5
              generalize (fun p => if p = k then r else d p) = d' at *
              have e11 : (k : Int) + 1 = ((k + 1 : Nat) : Int) := by omega
              rw [e11]
              clear e11
              go_loopg [4, 11] (N - (k + 1)) (fun g s4 s11 wv => ∃ (i : Nat) (fl : Nat → Nat), k < i ∧ i ≤ N ∧ g = N - i ∧ s4 = .int .i64 0 ∧ s11 = .int .i64 i ∧ RowI (mE N xs) N fl d' v k i ∧ TkS w0 w wv Fb (Fb + 1) (Fb + 1 + 1) gL gD N T (some ⟨b, off, none⟩) n cap v fl d')
              case atStart => exact ⟨k + 1, fl, by omega, by omega, rfl, rfl, rfl, RI, S4⟩
              case round =>
                clear RI S4 S
                obtain ⟨i, fl, hki, hiN, hg, rfl, rfl, RI, S⟩ := hrel
                have HG3 : Hid (gk = N - i) := hg
                clear hg
                obtain ⟨f0, f1, f2, _⟩ := id S.fbox
                by_cases hlt2 : i < N
                · have j1 : (i : Int) < (N : Int) := by omega
                  obtain ⟨t2, ht2⟩ : ∃ t, tri i = t := ⟨_, rfl⟩
                  have htT2 : t2 + i ≤ T := by
                    have := tri_mono (show i + 1 ≤ N by omega)
                    rw [tri, ht2, HT.out] at this
                    exact this
                  have cr := fun W => lrow_any N gL 0 T T (some ⟨gD, 0, none⟩) N N i t2 W (by omega) ht2 htT2
                  have HTI : Hid (tri i = t2) := ht2
                  clear ht2
                  go_upto_region 20 with (go_at_call 45; refine (cr _).mono ?_; rintro e w5 ⟨o2, rfl, ho2, b5⟩)
                  have eo2 : o2 = t2 := by rw [ho2 (by omega)]; omega
                  clear ho2
                  subst eo2
                  have HS := S.later b5
                  clear cr b5 f0 f1 f2 S
                  obtain ⟨q2, hq2⟩ : ∃ q, i * N = q := ⟨_, rfl⟩
                  have eM2 : (i : Int) * (N : Int) = (q2 : Int) := by rw [mulI, hq2]
                  have hqn2 : q2 + k < n := by
                    rw [← HNL.out, HL.out, ← hq2]
                    exact at_lt hlt2 hlt
                  have hqb2 := mul48 (show i ≤ 48 by omega) hN
                  rw [hq2] at hqb2
                  have iq2 : (q2 : Int) + (k : Int) < (n : Int) := by omega
                  have nq2 : ((q2 : Int) + (k : Int)).toNat = q2 + k := by omega
                  have iz2 : (0 : Int) ≤ (q2 : Int) + (k : Int) := by omega
                  have wz3 : IntKind.i64.wrap (q2 : Int) = (q2 : Int) := by rw [IntKind.wrap_i64]; omega
                  have wz4 : IntKind.i64.wrap ((q2 : Int) + (k : Int)) = (q2 : Int) + (k : Int) := by rw [IntKind.wrap_i64]; omega
                  have iw2 : ((q2 + k : Nat) : Int) < (n : Int) := by omega
                  have iy2 : ¬ (q2 : Int) + (k : Int) < 0 := by omega
                  have ix2 : (k : Int) < (i : Int) := by omega
                  have ix3 : (k : Int) ≤ (i : Int) := by omega
                  have HM : Hid (mE N xs i k = xs.getD (q2 + k) 0) := (show mE N xs i k = xs.getD (q2 + k) 0 by unfold mE; rw [hq2])
                  clear hq2
                  have HX : Hid (NR (toO (xs.getD (q2 + k) 0)) (xs.getD (q2 + k) 0)) := fin_wordL hF (by rw [HNL.out]; exact hqn2)
                  have HCX : Hid (∀ wv, Below w0.heap.size w0 wv → wv.cell? ⟨b, off + (q2 + k), none⟩ = some (.float .f64 (xs.getD (q2 + k) 0))) := fun wv hb => row_to hr hb (by rw [HNL.out]; exact hqn2)
                  have HPV : Hid (quoO (mE N xs) (LF fl) d' k i = opO .quo (lesO (toO (xs.getD (q2 + k) 0)) (fun k' => toO (LF fl i k')) (vO (LF fl) d' k) k) (toO (d' k))) := (show _ = _ by unfold quoO; rw [HM.out])
                  generalize xs.getD (q2 + k) 0 = x2 at *
                  have la : (toL' k v).length = k := toL'_len _ _
                  have lb : (toL' k fun p => fl (o2 + p)).length = k := toL'_len _ _
                  have cl := fun W h1 h2 => lless_any x2 (toO x2) (fun k' => toO (LF fl i k')) (vO (LF fl) d' k) (toL' k fun p => fl (o2 + p)) (toL' k v) (some ⟨gL, o2, none⟩) (some ⟨Fb + 1 + 1, 0, none⟩) k k W HX.out h1 h2 (fun p hp => by rw [lb] at hp; rw [toL'_at hp]; unfold LF; rw [HTI.out]; exact toO_NR (RI.wl _)) (fun p hp => by rw [lb] at hp; rw [toL'_at hp]; exact RI.vs p hp) (by rw [lb]; omega) (by rw [la, lb])
                  rw [la, lb] at cl
                  have HC : ∀ w1, Below w5.drew.heap.size w5.drew w1 → w1.cell? ⟨Fb, 0, none⟩ = some (.int .i64 N) ∧ w1.cell? ⟨Fb, 2, none⟩ = some (.slice (some ⟨gD, 0, none⟩) N N) ∧ w1.cell? ⟨Fb + 1, 2, none⟩ = some (.slice (some ⟨b, off, none⟩) n cap) ∧ w1.cell? ⟨b, off + (q2 + k), none⟩ = some (.float .f64 x2) ∧ w1.cell? ⟨gD, k, none⟩ = some (.float .f64 (d' k)) := fun w1 hb => by
                    have hb := (HS.drew).later hb
                    obtain ⟨x0, x1, x2, _⟩ := id hb.fbox
                    obtain ⟨y0, y1, y2, _⟩ := id hb.mbox
                    exact ⟨x0, x2, y2, HCX.out w1 hb.below, World.rowIs.cell hb.drow (by omega)⟩
                  have m0 := HC _ (Below.refl _ _)
                  have r1 : GRow w5.drew (some ⟨Fb + 1 + 1, 0, none⟩) (toL' k v) := by
                    have := HS.drew.room.part (o := 0) (t := 0) (j := k) (fun _ => rfl) (by omega)
                    simpa using this
                  have r2 : GRow w5.drew (some ⟨gL, o2, none⟩) (toL' k fun p => fl (o2 + p)) := HS.drew.lrow.part (fun _ => rfl) (by omega)
                  have nc1 : ¬ gL = Fb := HS.ne.2.2.2.2.1
                  have nc2 : ¬ gL = Fb + 1 := HS.ne.2.2.2.2.2.2.2.1
                  have nc3 : ¬ Fb = gL := fun e => nc1 e.symm
                  have nc4 : ¬ Fb + 1 = gL := fun e => nc2 e.symm
                  have nc5 : ¬ b = gL := fun e => by
                    have h1 := HS.lo.2.1
                    have h2 := World.block_lt_of_cell? w0 _ (HCX.out w0 (Below.refl _ _))
                    have h3 : b < w0.heap.size := h2
                    omega
                  have nc6 : ¬ gL = b := fun e => nc5 e.symm
                  have nc7 : ¬ gL = gD := HS.ne.2.2.1
                  have nc8 : ¬ gD = gL := fun e => nc7 e.symm
                  have HSd := HS.drew
                  have hop : ∀ x y W a, (opW .quo x y W).cell? a = W.cell? a := fun x y W a => by unfold World.cell?; rw [opW_heap]
                  have hof : ∀ x y W a, (opW .quo x y W).frozen? a = W.frozen? a := fun x y W a => by unfold World.frozen?; rw [opW_heap]
                  clear la lb HX HCX HM
                  go_wp2
                  first | (go_region_held (fun w' => w'.cell? ⟨Fb, 0, none⟩ = some (.int .i64 N) ∧ w'.cell? ⟨Fb, 2, none⟩ = some (.slice (some ⟨gD, 0, none⟩) N N) ∧ w'.cell? ⟨Fb + 1, 2, none⟩ = some (.slice (some ⟨b, off, none⟩) n cap) ∧ w'.cell? ⟨b, off + (q2 + k), none⟩ = some (.float .f64 x2) ∧ w'.cell? ⟨gD, k, none⟩ = some (.float .f64 (d' k))) (go_keep)
                    (first
                      | (go_at_call 46; refine (cl _ r2 r1).mono ?_; rintro e w6 ⟨r, rfl, hr6, b6⟩; have m6 := HC _ b6; have S6 := HSd.later b6; have g2 := World.rowIs.cell S6.lrow (show o2 + k < T by omega); have g3 := World.rowIs.frozen S6.lrow (o2 + k)))) | fail
                  have S7 := (S6.later (opW_below .quo r (d' k) (Below.refl w6.heap.size w6))).setL (o2 + k) (opR .quo r (d' k) w6)
                  have HQ : NR (quoO (mE N xs) (LF fl) d' k i) (opR .quo r (d' k) w6) := by
                    rw [HPV.out]
                    exact opO_NR opQu hr6 (toO_NR (RI.wd k)) w6
                  clear HPV hr6 S6 g2 g3 m6 b6 cl HC m0 r1 r2 hop hof HSd HS
                  generalize (opW .quo r (d' k) w6).setCell ⟨gL, o2 + k, none⟩ (.float .f64 (opR .quo r (d' k) w6)) = W7 at *
                  generalize opR .quo r (d' k) w6 = y at *
                  have g7 : W7.cell? ⟨gL, o2 + k, none⟩ = some (.float .f64 y) := by
                    have := World.rowIs.cell S7.lrow (show o2 + k < T by omega)
                    simpa using this
                  obtain ⟨f0, f1, f2, _⟩ := id S7.fbox
                  have HO2 : Hid (tri i = o2) := HTI.out
                  have cfi := fun W => lfin_any y HQ.1 W
                  cases hfy : finB y
                  · rw [hfy] at cfi
                    have HBAD := RI.bad hki hlt2 HQ hfy
                    obtain ⟨RS, _⟩ := RI.store hki hlt2 HQ
                    rw [HO2.out] at HBAD RS
                    have HW1 := RS.wd
                    have HW2 := RS.wl
                    clear RI RS HQ hfy
                    go_wp2_with (go_at_call 30; refine (cfi _).mono ?_; rintro e w' ⟨rfl, h'⟩; subst w')
                    rw [Exit.noGoto_ret]
                    exact bodyPost_ret (v := .tuple #[.int .i64 6, .int .i64 k]) (by simp [results, Try.results32, go_sem]) rfl ⟨6, k, k, _, _, rfl, Or.inr rfl, HBAD, S7.lrow, S7.drow, HW1, HW2, S7.below, S7.keep⟩
                  · rw [hfy] at cfi
                    have RS := RI.step hki hlt2 HQ hfy
                    rw [HO2.out] at RS
                    clear RI HQ hfy
                    go_wp2_with (go_at_call 30; refine (cfi _).mono ?_; rintro e w' ⟨rfl, h'⟩; subst w')
                    go_roundg (N - (i + 1))
                    case measure => rw [HG3.out]; omega
                    case rel => exact ⟨i + 1, _, by omega, by omega, rfl, rfl, by go_num, RS, S7⟩
                · have ei : i = N := by omega
                  have j1 : ¬ (i : Int) < (N : Int) := by omega
                  have HE : Hid (i = N) := ei
                  clear ei
                  go_wp2
                  go_roundg (N - (k + 1))
                  case measure => rw [HG.out]; omega
                  case rel =>
                    have RD := RI
                    rw [HE.out] at RD
                    exact ⟨k + 1, k, v, fl, d', by omega, rfl, rfl, rfl, by go_num, RD.done, ⟨RD.wd, RD.wl⟩, S⟩
    · have ej : j = N := by omega
      have i1 : ¬ (j : Int) < (N : Int) := by omega
      have HE : Hid (j = N) := ej
      clear ej
      go_wp2
      try rw [Exit.noGoto_ret]
      exact bodyPost_ret (v := .tuple #[.int .i64 0, .int .i64 rr]) (by simp [results, Try.results32, go_sem]) rfl ⟨0, 0, rr, fl, d, rfl, Or.inl rfl, Or.inl ⟨rfl, rfl, by have := hC.out; rw [HE.out] at this; exact this⟩, S.lrow, S.drow, hW.out.1, hW.out.2, S.below, S.keep⟩
end Go.Proofs.Ytbnjjoaippoinaa

namespace Go.Proofs.Ytbnjjoaippoinaa
open Go.RowKit

/-- Is operation i done? -/
def On (L : Array Bool) (i : Nat) : Prop := L.getD i false = true
theorem on_set {L : Array Bool} {i : Nat} (hi : i < L.size) (j : Nat) : On (L.setIfInBounds i true) j ↔ j = i ∨ On L j := by
  unfold On
  simp only [Array.getD_eq_getD_getElem?, Array.getElem?_setIfInBounds]
  by_cases h : i = j
  · subst h; simp [hi]
  · have h2 : ¬ j = i := fun e => h e.symm
    simp [h, h2]
def lacks (L : Array Bool) : Nat := L.toList.count false
theorem count_set : ∀ (l : List Bool) (i : Nat) (hi : i < l.length), l[i] = false → (l.set i true).count false + 1 = l.count false
  | [], _, hi, _ => by simp at hi
  | x :: l, 0, _, h => by
    have h : x = false := h
    subst h
    simp
  | x :: l, i + 1, hi, h => by
    have := count_set l i (by simpa using hi) (by simpa using h)
    simp only [List.set_cons_succ, List.count_cons]
    omega
theorem lacks_set {L : Array Bool} {i : Nat} (hi : i < L.size) (h : L.getD i true = false) : lacks (L.setIfInBounds i true) + 1 = lacks L := by
  unfold lacks
  obtain ⟨l⟩ := L
  have hi : i < l.length := hi
  have h' : l[i] = false := by simpa [Array.getD, hi] using h
  have := count_set l i hi h'
  simpa using this
theorem all_on {L : Array Bool} (h : lacks L = 0) (i : Nat) : L.getD i true = true := by
  unfold lacks at h
  rw [List.count_eq_zero] at h
  obtain ⟨l⟩ := L
  by_cases hi : i < l.length
  · have hm : l[i] ∈ l := List.getElem_mem hi
    cases hl : l[i]
    · rw [hl] at hm; exact absurd hm h
    · simp [Array.getD, hi, hl]
  · simp [Array.getD, hi]
theorem mem_ready {ops : Array Oper} {L : Array Bool} {i : Nat} (h : i ∈ Region.ready .any ops L) : i < ops.size ∧ L.getD i true = false ∧ ∀ o, ops[i]? = some o → ∀ e ∈ o.after, Region.binds .any e = true → On L e.on := by
  unfold Region.ready at h
  rw [List.mem_filter, List.mem_range] at h
  obtain ⟨h1, h2⟩ := h
  simp only [Bool.and_eq_true, Bool.not_eq_true'] at h2
  refine ⟨h1, h2.1, fun o ho e he hb => ?_⟩
  have h3 := h2.2
  rw [ho] at h3
  simp only [Option.map_some, Option.getD_some, Array.all_eq_true_iff_forall_mem] at h3
  have := h3 e he
  rw [hb] at this
  simpa [On] using this
/-- What an operation that may be next waits for is done. -/
theorem ready_dep {ops : Array Oper} {L : Array Bool} {i : Nat} (h : i ∈ Region.ready .any ops L) (k : Nat) (hk : ((ops[i]?).map (fun o => o.after.any fun e => Region.binds .any e && e.on == k)).getD false = true) : On L k := by
  obtain ⟨h1, _, h3⟩ := mem_ready h
  cases ho : ops[i]? with
  | none => rw [ho] at hk; cases hk
  | some o =>
    rw [ho] at hk
    simp only [Option.map_some, Option.getD_some] at hk
    have hk2 : ∃ e, e ∈ o.after ∧ (Region.binds .any e && e.on == k) = true := by
      rw [← Array.any_toList] at hk
      obtain ⟨e, he, hb⟩ := List.any_eq_true.1 hk
      exact ⟨e, by simpa using he, hb⟩
    obtain ⟨e, he, hb⟩ := hk2
    simp only [Bool.and_eq_true, beq_iff_eq] at hb
    rw [← hb.2]
    exact h3 o ho e he hb.1
/-- Where none may be next, all are done (each waits for earlier ones alone). -/
theorem all_done {ops : Array Oper} {L : Array Bool} (hL : L.size = ops.size) (h : Region.ready .any ops L = []) (hk : ((List.range ops.size).all fun i => ((ops[i]?).map (fun o => o.after.all fun e => !Region.binds .any e || decide (e.on < i))).getD true) = true) : ∀ i, i < ops.size → On L i := by
  intro i
  induction i using Nat.strongRecOn with
  | _ i ih =>
    intro hi
    by_cases hn : On L i
    · exact hn
    · exfalso
      have hm : i ∈ Region.ready .any ops L := by
        unfold Region.ready
        rw [List.mem_filter, List.mem_range]
        refine ⟨hi, ?_⟩
        simp only [Bool.and_eq_true, Bool.not_eq_true']
        constructor
        · unfold On at hn
          simp [Array.getD, hL, hi] at hn ⊢
          exact hn
        · rw [Array.getElem?_eq_getElem hi]
          simp only [Option.map_some, Option.getD_some]
          rw [Array.all_eq_true_iff_forall_mem]
          intro e he
          have h1 := List.all_eq_true.1 hk i (List.mem_range.2 hi)
          rw [Array.getElem?_eq_getElem hi] at h1
          simp only [Option.map_some, Option.getD_some] at h1
          have h2 := Array.all_eq_true_iff_forall_mem.1 h1 e he
          simp only [Bool.or_eq_true, Bool.not_eq_true', decide_eq_true_eq] at h2 ⊢
          rcases h2 with h2 | h2
          · exact Or.inl h2
          · exact Or.inr (ih e.on h2 (by omega))
      rw [h] at hm
      cases hm
theorem wpAny_inv {P : Program} {ops : Array Oper} {Q : Exit → Act → World → Prop} (Inv : Array Bool → Act → World → Prop)
    (hs : ∀ L a w i, L.size = ops.size → Inv L a w → i ∈ Region.ready .any ops L → wpOp P ops Q i (Inv (L.setIfInBounds i true)) a w)
    (hf : ∀ L a w, L.size = ops.size → Inv L a w → Region.ready .any ops L = [] → Q .normal a w) :
    ∀ fuel L a w, L.size = ops.size → lacks L ≤ fuel → Inv L a w → wpAny P .any ops Q fuel L a w := by
  intro fuel
  induction fuel with
  | zero =>
    intro L a w hL hc hI
    have hr : Region.ready .any ops L = [] := by
      rw [List.eq_nil_iff_forall_not_mem]
      intro i hi
      have h := (mem_ready hi).2.1
      rw [all_on (by omega) i] at h
      cases h
    exact ⟨hr, hf L a w hL hI hr⟩
  | succ fuel ih =>
    intro L a w hL hc hI
    refine ⟨hf L a w hL hI, fun i hi => ?_⟩
    obtain ⟨h1, h2, _⟩ := mem_ready hi
    refine wpOp_mono (fun a' w' h' => ih _ a' w' (by simp [hL]) ?_ h') (hs L a w i hL hI hi)
    have := lacks_set (by rw [hL]; exact h1) h2
    omega
theorem region_inv {P : Program} {ops : Array Oper} {Q : Exit → Act → World → Prop} {id : Nat} {a : Act} {w : World} (hm : P.follows .mixedOrders = true) (Inv : Array Bool → Act → World → Prop)
    (h0 : Inv (Array.replicate ops.size false) a w.drew)
    (hs : ∀ L a w i, L.size = ops.size → Inv L a w → i ∈ Region.ready .any ops L → wpOp P ops Q i (Inv (L.setIfInBounds i true)) a w)
    (hf : ∀ L a w, L.size = ops.size → Inv L a w → Region.ready .any ops L = [] → Q .normal a w) : (Code.region id ops true).wp P Q a w :=
  wp_region_any hm (wpAny_inv Inv hs hf ops.size _ _ _ (by simp) (by unfold lacks; simp) h0)
end Go.Proofs.Ytbnjjoaippoinaa

namespace Go.Proofs.Ytbnjjoaippoinaa
open Go.RowKit

theorem tri_sur {N p : Nat} (h : p < tri N) : ∃ i k, k < i ∧ i < N ∧ p = tri i + k := by
  induction N with
  | zero => exact absurd h (Nat.not_lt_zero _)
  | succ n ih =>
    by_cases g : p < tri n
    · obtain ⟨i, k, h1, h2, h3⟩ := ih g
      exact ⟨i, k, h1, by omega, h3⟩
    · rw [tri] at h
      exact ⟨n, p - tri n, by omega, by omega, by omega⟩
/-- What Factor answers of a matrix: the error, the row, L and D. -/
def Res (r c : Int) (xs : List Nat) (er : Int) (row : Nat) (f : Nat → Nat → Nat) (d : Nat → Nat) : Prop :=
  (symM r c xs = false ∧ er = 4 ∧ row = 0) ∨ (symM r c xs = true ∧ xs.all finB = false ∧ er = 5 ∧ row = 0) ∨ (symM r c xs = true ∧ xs.all finB = true ∧ Out (mE r.toNat xs) r.toNat f d er row)
theorem Out.err {m f : Nat → Nat → Nat} {d : Nat → Nat} {N r : Nat} {e : Int} (h : Out m N f d e r) : e = 0 ∨ e = 220 ∨ e = 6 := by
  rcases h with ⟨h, _⟩ | ⟨h, _⟩ | ⟨h, _⟩
  · exact Or.inl h
  · exact Or.inr (Or.inl h)
  · exact Or.inr (Or.inr h)
theorem res_one {r c : Int} {xs : List Nat} {er er' : Int} {row row' : Nat} {f f' : Nat → Nat → Nat} {d d' : Nat → Nat} (h : Res r c xs er row f d) (g : Res r c xs er' row' f' d') :
    er = er' ∧ row = row' ∧ (er = 0 → (∀ k i, k < i → i < r.toNat → f i k = f' i k) ∧ ∀ k, k < r.toNat → d k = d' k) := by
  rcases h with ⟨h1, h2, h3⟩ | ⟨h1, h4, h2, h3⟩ | ⟨h1, h4, h2⟩
  · rcases g with ⟨g1, g2, g3⟩ | ⟨g1, _⟩ | ⟨g1, _⟩
    · exact ⟨by omega, by omega, fun h => by omega⟩
    · rw [h1] at g1; cases g1
    · rw [h1] at g1; cases g1
  · rcases g with ⟨g1, _⟩ | ⟨g1, g4, g2, g3⟩ | ⟨g1, g4, _⟩
    · rw [h1] at g1; cases g1
    · exact ⟨by omega, by omega, fun h => by omega⟩
    · rw [h4] at g4; cases g4
  · rcases g with ⟨g1, _⟩ | ⟨g1, g4, _⟩ | ⟨g1, g4, g2⟩
    · rw [h1] at g1; cases g1
    · rw [h4] at g4; cases g4
    · exact out_one h2 g2
/-- A factor handed back in new memory. -/
def GaveFc (w : World) (N : Nat) (f : Nat → Nat → Nat) (d : Nat → Nat) (v : Value) (w' : World) : Prop :=
  ∃ (ls ds : List Nat) (lo : Option Addr) (lc : Nat) (dO : Option Addr) (dc : Nat), v = fcV N lo ls.length lc dO ds.length dc ∧ GRow w' lo ls ∧ GRow w' dO ds ∧ FW ls ∧ FW ds ∧ ls.length = tri N ∧ ds.length = N ∧ ls.length ≤ lc ∧ ds.length ≤ dc ∧ lc ≤ 1200 ∧ dc ≤ 1200 ∧ Frs w.heap.size lo ∧ Frs w.heap.size dO ∧ (∀ i k, k < i → i < N → ls.getD (tri i + k) 0 = f i k) ∧ (∀ k, k < N → ds.getD k 0 = d k)
def GaveR (w : World) (r c : Int) (xs : List Nat) (e : Ending) (w' : World) : Prop :=
  ∃ (er : Int) (row : Nat) (f : Nat → Nat → Nat) (d : Nat → Nat) (v : Value), Res r c xs er row f d ∧ e = .returned (.tuple #[v, .int .i64 er, .int .i64 row]) ∧ Below w.heap.size w w' ∧ (er ≠ 0 → v = fcV 0 none 0 0 none 0 0) ∧ (er = 0 → row = 0 ∧ ∃ N : Nat, r = N ∧ N ≤ 48 ∧ GaveFc w N f d v w')
theorem toL'_fw {n : Nat} {f : Nat → Nat} (h : ∀ p, f p < 18446744073709551616) : FW (toL' n f) := fun x hx => by
  unfold toL' at hx
  obtain ⟨p, _, rfl⟩ := List.mem_map.1 hx
  exact h p
theorem on_none {n i : Nat} : ¬ On (Array.replicate n false) i := by
  unfold On
  simp only [Array.getD_eq_getD_getElem?, Array.getElem?_replicate]
  split <;> simp
theorem not_on {L : Array Bool} {i : Nat} (hi : i < L.size) (h : L.getD i true = false) : ¬ On L i := by
  unfold On
  intro h2
  simp [Array.getD, hi] at h h2
  rw [h] at h2
  cases h2
theorem wpOp_free {P : Program} {ops : Array Oper} {Q : Exit → Act → World → Prop} {i : Nat} {a : Act} {w : World} {K' : Act → World → Prop} (h : ∀ K : Act → World → Prop, (∀ a w, K' a w → K a w) → wpOp P ops Q i K a w) : wpOp P ops Q i K' a w := h K' (fun _ _ h => h)
theorem set_three' {w w1 : World} {b : Nat} (h : Below w.heap.size w w1) (hb : w.heap.size ≤ b) (x y z : Value) : Below w.heap.size w (((w1.setCell ⟨b, 0, none⟩ x).setCell ⟨b, 1, none⟩ y).setCell ⟨b, 2, none⟩ z) := set_three h hb x y z
theorem row_three {w : World} {g m b : Nat} {f : Nat → Nat} (h : RRow w g m f) (hn : g ≠ b) (x y z : Value) : RRow (((w.setCell ⟨b, 0, none⟩ x).setCell ⟨b, 1, none⟩ y).setCell ⟨b, 2, none⟩ z) g m f :=
  World.rowIs.setOther (World.rowIs.setOther (World.rowIs.setOther h (by exact hn) _) (by exact hn) _) (by exact hn) _
theorem size_three (w : World) (b : Nat) (x y z : Value) : (((w.setCell ⟨b, 0, none⟩ x).setCell ⟨b, 1, none⟩ y).setCell ⟨b, 2, none⟩ z).heap.size = w.heap.size := by simp [World.setCell]
theorem three_put' {w : World} {b : Nat} {x y z : Value} (h : B3 w b x y z) (u v t : Value) : B3 (((w.setCell ⟨b, 0, none⟩ u).setCell ⟨b, 1, none⟩ v).setCell ⟨b, 2, none⟩ t) b u v t := by
  obtain ⟨h0, h1, h2, g0, g1, g2, h5⟩ := h
  have e0 : (w.setCell ⟨b, 0, none⟩ u).cell? ⟨b, 0, none⟩ = some u := World.cell?_setCell_same w _ u h0
  have e1 : (w.setCell ⟨b, 0, none⟩ u).cell? ⟨b, 1, none⟩ = some y := (World.cell?_setCell_other w _ _ u (by simp)).trans h1
  have e2 : (w.setCell ⟨b, 0, none⟩ u).cell? ⟨b, 2, none⟩ = some z := (World.cell?_setCell_other w _ _ u (by simp)).trans h2
  have k0 : ((w.setCell ⟨b, 0, none⟩ u).setCell ⟨b, 1, none⟩ v).cell? ⟨b, 0, none⟩ = some u := (World.cell?_setCell_other _ _ _ v (by simp)).trans e0
  have k1 : ((w.setCell ⟨b, 0, none⟩ u).setCell ⟨b, 1, none⟩ v).cell? ⟨b, 1, none⟩ = some v := World.cell?_setCell_same _ _ v e1
  have k2 : ((w.setCell ⟨b, 0, none⟩ u).setCell ⟨b, 1, none⟩ v).cell? ⟨b, 2, none⟩ = some z := (World.cell?_setCell_other _ _ _ v (by simp)).trans e2
  exact ⟨(World.cell?_setCell_other _ _ _ t (by simp)).trans k0, (World.cell?_setCell_other _ _ _ t (by simp)).trans k1, World.cell?_setCell_same _ _ t k2, by simp [go_sem, g0], by simp [go_sem, g1], by simp [go_sem, g2], by simp [go_sem]; exact h5⟩
/-- What is done of the region that makes L, D and the factor's box, whatever the order. -/
structure MkS (w W : World) (C T : Nat) (L : Array Bool) (w' : World) (v6 v28 v29 v30 v31 v32 v33 v34 v35 v36 v37 : Value) (gL gD P : Nat) : Prop where
  bel : Below W.heap.size W w'
  d0 : On L 0 → v28 = .pointer (some ⟨w.heap.size, 0, none⟩)
  d1 : On L 1 → v29 = .int .i64 C
  d2 : On L 2 → v30 = .pointer (some ⟨w.heap.size, 0, none⟩)
  d3 : On L 3 → v31 = .int .i64 C
  d4 : On L 4 → v32 = .int .i64 T
  d5 : On L 5 → v33 = .slice (some ⟨gL, 0, none⟩) T T ∧ RRow w' gL T (fun _ => 0) ∧ W.heap.size ≤ gL ∧ gL < w'.heap.size
  d6 : On L 6 → v34 = .pointer (some ⟨w.heap.size, 0, none⟩)
  d7 : On L 7 → v35 = .int .i64 C
  d8 : On L 8 → v36 = .slice (some ⟨gD, 0, none⟩) C C ∧ RRow w' gD C (fun _ => 0) ∧ W.heap.size ≤ gD ∧ gD < w'.heap.size
  d9 : On L 9 → v37 = fcV C (some ⟨gL, 0, none⟩) T T (some ⟨gD, 0, none⟩) C C
  d10 : On L 10 → v6 = .pointer (some ⟨P, 0, none⟩) ∧ (∃ x y z, B3 w' P x y z) ∧ W.heap.size ≤ P
  d11 : On L 11 → B3 w' P (.int .i64 C) (.slice (some ⟨gL, 0, none⟩) T T) (.slice (some ⟨gD, 0, none⟩) C C)
  n58 : On L 5 → On L 8 → gL ≠ gD
  n5 : On L 5 → On L 10 → gL ≠ P
  n8 : On L 8 → On L 10 → gD ≠ P
  c9 : On L 9 → On L 5 ∧ On L 8
  c11 : On L 11 → On L 5 ∧ On L 8 ∧ On L 10
/-- The matrix's box and the answer's. -/
structure FaS (w wr : World) (r c : Int) (ao : Option Addr) (n cap : Nat) : Prop where
  mbox : B3 wr w.heap.size (.int .i64 r) (.int .i64 c) (.slice ao n cap)
  res : B3 wr (w.heap.size + 1) (.int .i64 0) (.slice none 0 0) (.slice none 0 0)
  below : Below w.heap.size w wr
theorem FaS.later {w wr w1 : World} {r c : Int} {ao : Option Addr} {n cap : Nat} (h : FaS w wr r c ao n cap) (hb : Below wr.heap.size wr w1) : FaS w w1 r c ao n cap :=
  ⟨h.mbox.below hb, h.res.below hb, h.below.trans (hb.mono h.below.size)⟩
theorem FaS.new (w : World) (r c : Int) (ao : Option Addr) (n cap : Nat) : FaS w ((w.alloc (.cells #[.int .i64 r, .int .i64 c, .slice ao n cap] 24)).alloc (.cells #[.int .i64 0, .slice none 0 0, .slice none 0 0] 26)) r c ao n cap :=
  ⟨(B3.new _ _ _ _ _).alloc _, B3.newAt (by go_simp) _ _ _ _, old_two (Below.refl _ _)⟩
theorem FaS.fin {w wr : World} {r c : Int} {ao : Option Addr} {n cap : Nat} (h : FaS w wr r c ao n cap) (x y z : Value) : Below w.heap.size w (((wr.setCell ⟨w.heap.size + 1, 0, none⟩ x).setCell ⟨w.heap.size + 1, 1, none⟩ y).setCell ⟨w.heap.size + 1, 2, none⟩ z) := set_three h.below (by omega) _ _ _
theorem all_not {xs : List Nat} {k : Nat} (hk : k < xs.length) (h : finB (xs.getD k 0) = false) : xs.all finB = false := by
  cases q : xs.all finB
  · rfl
  · have := List.all_eq_true.1 q _ (List.getElem_mem hk)
    rw [getD_at hk] at h
    rw [h] at this; cases this
theorem all_yes {xs : List Nat} (h : ∀ k, k < xs.length → finB (xs.getD k 0) = true) : xs.all finB = true := by
  rw [List.all_eq_true]
  intro x hx
  obtain ⟨k, hk, rfl⟩ := List.mem_iff_getElem.1 hx
  have := h k hk
  rw [getD_at hk] at this
  exact this
set_option maxRecDepth 100000 in
set_option maxHeartbeats 4000000 in
theorem lfactor_any (r c : Int) (xs : List Nat) (ao : Option Addr) (cap : Nat) (w : World) (hr : GRow w ao xs) (hF : FW xs) (hn : xs.length ≤ 1125899906842624) :
    Calls Try.prog 8 #[mxV r c ao xs.length cap] w (GaveR w r c xs) := by
  have cs := fun W h => msym_any r c xs ao cap W h hF hn
  have S0 := FaS.new w r c ao xs.length cap
  have hr0 := hr.below S0.below
  cases hs : symM r c xs
  · rw [hs] at cs
    have HR : Hid (Res r c xs 4 0 (fun _ _ => 0) (fun _ => 0)) := (show Res r c xs 4 0 (fun _ _ => 0) (fun _ => 0) from Or.inl ⟨hs, rfl, rfl⟩)
    clear hs
    go_enter Try.func8, Try.ntmps8
    go_wp2_with (go_at_call 29; refine (cs _ hr0).mono ?_; rintro e w1 ⟨rfl, b1⟩; have S1 := S0.later b1; obtain ⟨t0, t1, t2, s0, s1, s2, _⟩ := id S1.res)
    exact bodyPost_ret (v := .tuple #[fcV 0 none 0 0 none 0 0, .int .i64 4, .int .i64 0]) (by simp [results, Try.results8, go_sem, t0, t1, t2]) rfl ⟨4, 0, _, _, _, HR.out, rfl, S1.fin _ _ _, fun _ => rfl, fun h => by cases h⟩
  · rw [hs] at cs
    obtain ⟨hR, hC, _⟩ : rightM r c xs.length = true ∧ r = c ∧ True := by
      unfold symM at hs
      simp only [Bool.and_eq_true, decide_eq_true_eq] at hs
      exact ⟨hs.1.1, hs.1.2, trivial⟩
    obtain ⟨N, C, rfl, hCc, hN48, _, hl⟩ := rightM_nat hR
    have eC : C = N := by rw [hCc] at hC; omega
    subst eC
    clear hR hC
    subst hCc
    have HS : Hid (symM C C xs = true) := hs
    have HL : Hid (xs.length = C * C) := hl
    clear hs hl
    go_enter Try.func8, Try.ntmps8
    go_wp2_with (go_at_call 29; refine (cs _ hr0).mono ?_; rintro e w1 ⟨rfl, b1⟩; have S1 := S0.later b1; obtain ⟨t0, t1, t2, s0, s1, s2, _⟩ := id S1.res; obtain ⟨m0, m1, m2, _⟩ := id S1.mbox)
    have hr1 := hr.below S1.below
    clear S0 hr0 cs b1
    have HAL : Hid (∀ k, k < xs.length → finB (xs.getD k 0) = false → xs.all finB = false) := fun k hk h => all_not hk h
    have HAY : Hid ((∀ k, k < xs.length → finB (xs.getD k 0) = true) → xs.all finB = true) := all_yes
    go_loopg [16] xs.length (fun g s16 wr => ∃ k : Nat, k ≤ xs.length ∧ g = xs.length - k ∧ s16 = .int .i64 k ∧ Hid (∀ p, p < k → finB (xs.getD p 0) = true) ∧ wr = w1)
    case atStart => exact ⟨0, Nat.zero_le _, rfl, rfl, fun p hp => by omega, rfl⟩
    case round =>
      obtain ⟨k, hk, hg, rfl, hA, h'⟩ := hrel
      subst wr
      have HG : Hid (gk = xs.length - k) := hg
      clear hg
      by_cases hlt : k < xs.length
      · rcases hr1 with h | ⟨b, off, rfl, hc⟩
        · omega
        have g1 := hc k hlt
        have hx := hF.at hlt
        have cfi := fun W => lfin_any _ hx W
        have H0 := HAL.out k hlt
        have HN : Hid (finB (xs.getD k 0) = true → ∀ p, p < k + 1 → finB (xs.getD p 0) = true) := fun h p hp => by
          by_cases e : p = k
          · rw [e]; exact h
          · exact hA.out p (by omega)
        have i1 : (k : Int) < (xs.length : Int) := by omega
        generalize xs.getD k 0 = x at *
        clear hc hA
        cases hfx : finB x
        · rw [hfx] at cfi
          have HR : Hid (Res C C xs 5 0 (fun _ _ => 0) (fun _ => 0)) := (show Res C C xs 5 0 (fun _ _ => 0) (fun _ => 0) from Or.inr (Or.inl ⟨HS.out, H0 hfx, rfl, rfl⟩))
          clear hfx H0 HAL HAY HN
          go_wp2_with (go_at_call 30; refine (cfi _).mono ?_; rintro e w' ⟨rfl, h'⟩; subst w')
          exact bodyPost_ret (v := .tuple #[fcV 0 none 0 0 none 0 0, .int .i64 5, .int .i64 0]) (by simp [results, Try.results8, go_sem, t0, t1, t2]) rfl ⟨5, 0, _, _, _, HR.out, rfl, S1.fin _ _ _, fun _ => rfl, fun h => by cases h⟩
        · rw [hfx] at cfi
          have HN2 : Hid (∀ p, p < k + 1 → finB (xs.getD p 0) = true) := HN.out hfx
          clear hfx H0 HN
          go_wp2_with (go_at_call 30; refine (cfi _).mono ?_; rintro e w' ⟨rfl, h'⟩; subst w')
          go_roundg (xs.length - (k + 1))
          case measure => rw [HG.out]; omega
          case rel => exact ⟨k + 1, by omega, rfl, by go_num, HN2, rfl⟩
      · have ek : k = xs.length := by omega
        subst ek
        have i1 : ¬ (xs.length : Int) < (xs.length : Int) := by omega
        have HF' : Hid (xs.all finB = true) := HAY.out hA.out
        clear HAL HAY hA
        have c1 := fun W => lstart_any C (tri C) (by omega) rfl W
        have hT := tri_le (show C ≤ 49 by omega)
        have HT : Hid (tri C = tri C) := rfl
        obtain ⟨T, hTT⟩ : ∃ T, tri C = T := ⟨_, rfl⟩
        rw [hTT] at c1 hT
        have hmk := run_make_row' (P := Try.prog) 22 38 (.float .f64 0) 8 Try.underlying22 Try.infoF rfl .i64 .i64 C (by omega) (by omega)
        have hmk2 := run_make_row' (P := Try.prog) 22 38 (.float .f64 0) 8 Try.underlying22 Try.infoF rfl .i64 .i64 T (by omega) (by omega)
        have HTT : Hid (tri C = T) := hTT
        clear hTT HT
        go_wp2
        refine region_inv (by kernel_rfl) (fun L a w' => ∃ v6 v28 v29 v30 v31 v32 v33 v34 v35 v36 v37 gL gD P, a = ⟨#[(mxV C C ao xs.length cap), (.pointer (some ⟨w.heap.size, 0, none⟩)), (.pointer (some ⟨w.heap.size + 1, 0, none⟩)), u3, u4, u5, v6, undef, undef, (.agg #[.int .i64 C, .int .i64 C, .slice ao xs.length cap]), (.bool true), (.bool false), undef, (.pointer (some ⟨w.heap.size, 2, none⟩)), (.slice ao xs.length cap), (.int .i64 xs.length), (.int .i64 xs.length), (.bool false), u18, u19, u20, u21, u22, u23, u24, u25, u26, u27, v28, v29, v30, v31, v32, v33, v34, v35, v36, v37, undef, undef, undef, undef, undef, undef, undef, undef, undef, undef, undef, undef], []⟩ ∧ MkS w w1 C T L w' v6 v28 v29 v30 v31 v32 v33 v34 v35 v36 v37 gL gD P) ?_ ?_ ?_
        · refine ⟨undef, undef, undef, undef, undef, undef, undef, undef, undef, undef, undef, 0, 0, 0, rfl, ?_⟩
          have nn : ∀ i, ¬ On (Array.replicate 12 false) i := fun i => on_none
          exact ⟨(Below.refl _ _).drew, fun h => absurd h (nn _), fun h => absurd h (nn _), fun h => absurd h (nn _), fun h => absurd h (nn _), fun h => absurd h (nn _), fun h => absurd h (nn _), fun h => absurd h (nn _), fun h => absurd h (nn _), fun h => absurd h (nn _), fun h => absurd h (nn _), fun h => absurd h (nn _), fun h => absurd h (nn _), fun h => absurd h (nn _), fun h => absurd h (nn _), fun h => absurd h (nn _), fun h => absurd h (nn _), fun h => absurd h (nn _)⟩
        · rintro L a w' i hL ⟨v6, v28, v29, v30, v31, v32, v33, v34, v35, v36, v37, gL, gD, P, rfl, hS⟩ hi
          obtain ⟨h1, h2, h3⟩ := mem_ready hi
          have h1 : i < 12 := h1
          have hL : L.size = 12 := hL
          have hno := not_on (by rw [hL]; exact h1) h2
          have ho := on_set (L := L) (i := i) (by rw [hL]; exact h1)
          have hcs : i = 0 ∨ i = 1 ∨ i = 2 ∨ i = 3 ∨ i = 4 ∨ i = 5 ∨ i = 6 ∨ i = 7 ∨ i = 8 ∨ i = 9 ∨ i = 10 ∨ i = 11 := by omega
          have o : ∀ k, k ≠ i → On (L.setIfInBounds i true) k → On L k := fun k hk h => ((ho k).1 h).resolve_left hk
          have bx10 : On L 10 → P < w'.heap.size := fun h => (hS.d10 h).2.1.elim fun x hx => hx.elim fun y hy => hy.elim fun z hz => hz.2.2.2.2.2.2
          obtain ⟨m0, _⟩ := S1.mbox.below hS.bel
          rcases hcs with rfl | rfl | rfl | rfl | rfl | rfl | rfl | rfl | rfl | rfl | rfl | rfl
          · refine wpOp_free (fun K hK => ?_)
            unfold wpOp
            go_simp
            refine Or.inl ?_
            refine hK _ _ ⟨_, _, _, _, _, _, _, _, _, _, _, gL, gD, P, rfl, ?_⟩
            exact ⟨hS.bel, fun _ => rfl, fun h => hS.d1 (o 1 (by decide) h), fun h => hS.d2 (o 2 (by decide) h), fun h => hS.d3 (o 3 (by decide) h), fun h => hS.d4 (o 4 (by decide) h), fun h => hS.d5 (o 5 (by decide) h), fun h => hS.d6 (o 6 (by decide) h), fun h => hS.d7 (o 7 (by decide) h), fun h => hS.d8 (o 8 (by decide) h), fun h => hS.d9 (o 9 (by decide) h), fun h => hS.d10 (o 10 (by decide) h), fun h => hS.d11 (o 11 (by decide) h), fun h h2 => hS.n58 (o 5 (by decide) h) (o 8 (by decide) h2), fun h h2 => hS.n5 (o 5 (by decide) h) (o 10 (by decide) h2), fun h h2 => hS.n8 (o 8 (by decide) h) (o 10 (by decide) h2), fun h => ⟨(ho 5).2 (Or.inr (hS.c9 (o 9 (by decide) h)).1), (ho 8).2 (Or.inr (hS.c9 (o 9 (by decide) h)).2)⟩, fun h => ⟨(ho 5).2 (Or.inr (hS.c11 (o 11 (by decide) h)).1), (ho 8).2 (Or.inr (hS.c11 (o 11 (by decide) h)).2.1), (ho 10).2 (Or.inr (hS.c11 (o 11 (by decide) h)).2.2)⟩⟩
          · have dn0 := ready_dep hi 0 (by kernel_rfl)
            obtain rfl := hS.d0 dn0
            refine wpOp_free (fun K hK => ?_)
            unfold wpOp
            go_simp
            refine Or.inl ?_
            refine hK _ _ ⟨_, _, _, _, _, _, _, _, _, _, _, gL, gD, P, rfl, ?_⟩
            exact ⟨hS.bel, fun h => hS.d0 (o 0 (by decide) h), fun _ => rfl, fun h => hS.d2 (o 2 (by decide) h), fun h => hS.d3 (o 3 (by decide) h), fun h => hS.d4 (o 4 (by decide) h), fun h => hS.d5 (o 5 (by decide) h), fun h => hS.d6 (o 6 (by decide) h), fun h => hS.d7 (o 7 (by decide) h), fun h => hS.d8 (o 8 (by decide) h), fun h => hS.d9 (o 9 (by decide) h), fun h => hS.d10 (o 10 (by decide) h), fun h => hS.d11 (o 11 (by decide) h), fun h h2 => hS.n58 (o 5 (by decide) h) (o 8 (by decide) h2), fun h h2 => hS.n5 (o 5 (by decide) h) (o 10 (by decide) h2), fun h h2 => hS.n8 (o 8 (by decide) h) (o 10 (by decide) h2), fun h => ⟨(ho 5).2 (Or.inr (hS.c9 (o 9 (by decide) h)).1), (ho 8).2 (Or.inr (hS.c9 (o 9 (by decide) h)).2)⟩, fun h => ⟨(ho 5).2 (Or.inr (hS.c11 (o 11 (by decide) h)).1), (ho 8).2 (Or.inr (hS.c11 (o 11 (by decide) h)).2.1), (ho 10).2 (Or.inr (hS.c11 (o 11 (by decide) h)).2.2)⟩⟩
          · refine wpOp_free (fun K hK => ?_)
            unfold wpOp
            go_simp
            refine Or.inl ?_
            refine hK _ _ ⟨_, _, _, _, _, _, _, _, _, _, _, gL, gD, P, rfl, ?_⟩
            exact ⟨hS.bel, fun h => hS.d0 (o 0 (by decide) h), fun h => hS.d1 (o 1 (by decide) h), fun _ => rfl, fun h => hS.d3 (o 3 (by decide) h), fun h => hS.d4 (o 4 (by decide) h), fun h => hS.d5 (o 5 (by decide) h), fun h => hS.d6 (o 6 (by decide) h), fun h => hS.d7 (o 7 (by decide) h), fun h => hS.d8 (o 8 (by decide) h), fun h => hS.d9 (o 9 (by decide) h), fun h => hS.d10 (o 10 (by decide) h), fun h => hS.d11 (o 11 (by decide) h), fun h h2 => hS.n58 (o 5 (by decide) h) (o 8 (by decide) h2), fun h h2 => hS.n5 (o 5 (by decide) h) (o 10 (by decide) h2), fun h h2 => hS.n8 (o 8 (by decide) h) (o 10 (by decide) h2), fun h => ⟨(ho 5).2 (Or.inr (hS.c9 (o 9 (by decide) h)).1), (ho 8).2 (Or.inr (hS.c9 (o 9 (by decide) h)).2)⟩, fun h => ⟨(ho 5).2 (Or.inr (hS.c11 (o 11 (by decide) h)).1), (ho 8).2 (Or.inr (hS.c11 (o 11 (by decide) h)).2.1), (ho 10).2 (Or.inr (hS.c11 (o 11 (by decide) h)).2.2)⟩⟩
          · have dn2 := ready_dep hi 2 (by kernel_rfl)
            obtain rfl := hS.d2 dn2
            refine wpOp_free (fun K hK => ?_)
            unfold wpOp
            go_simp
            refine Or.inl ?_
            refine hK _ _ ⟨_, _, _, _, _, _, _, _, _, _, _, gL, gD, P, rfl, ?_⟩
            exact ⟨hS.bel, fun h => hS.d0 (o 0 (by decide) h), fun h => hS.d1 (o 1 (by decide) h), fun h => hS.d2 (o 2 (by decide) h), fun _ => rfl, fun h => hS.d4 (o 4 (by decide) h), fun h => hS.d5 (o 5 (by decide) h), fun h => hS.d6 (o 6 (by decide) h), fun h => hS.d7 (o 7 (by decide) h), fun h => hS.d8 (o 8 (by decide) h), fun h => hS.d9 (o 9 (by decide) h), fun h => hS.d10 (o 10 (by decide) h), fun h => hS.d11 (o 11 (by decide) h), fun h h2 => hS.n58 (o 5 (by decide) h) (o 8 (by decide) h2), fun h h2 => hS.n5 (o 5 (by decide) h) (o 10 (by decide) h2), fun h h2 => hS.n8 (o 8 (by decide) h) (o 10 (by decide) h2), fun h => ⟨(ho 5).2 (Or.inr (hS.c9 (o 9 (by decide) h)).1), (ho 8).2 (Or.inr (hS.c9 (o 9 (by decide) h)).2)⟩, fun h => ⟨(ho 5).2 (Or.inr (hS.c11 (o 11 (by decide) h)).1), (ho 8).2 (Or.inr (hS.c11 (o 11 (by decide) h)).2.1), (ho 10).2 (Or.inr (hS.c11 (o 11 (by decide) h)).2.2)⟩⟩
          · have dn3 := ready_dep hi 3 (by kernel_rfl)
            obtain rfl := hS.d3 dn3
            refine wpOp_free (fun K hK => ?_)
            unfold wpOp
            go_simp
            refine Or.inl ?_
            refine (c1 _).mono (fun e wq => ?_)
            rintro ⟨rfl, rfl⟩
            refine hK _ _ ⟨_, _, _, _, _, _, _, _, _, _, _, gL, gD, P, rfl, ?_⟩
            exact ⟨hS.bel, fun h => hS.d0 (o 0 (by decide) h), fun h => hS.d1 (o 1 (by decide) h), fun h => hS.d2 (o 2 (by decide) h), fun h => hS.d3 (o 3 (by decide) h), fun _ => rfl, fun h => hS.d5 (o 5 (by decide) h), fun h => hS.d6 (o 6 (by decide) h), fun h => hS.d7 (o 7 (by decide) h), fun h => hS.d8 (o 8 (by decide) h), fun h => hS.d9 (o 9 (by decide) h), fun h => hS.d10 (o 10 (by decide) h), fun h => hS.d11 (o 11 (by decide) h), fun h h2 => hS.n58 (o 5 (by decide) h) (o 8 (by decide) h2), fun h h2 => hS.n5 (o 5 (by decide) h) (o 10 (by decide) h2), fun h h2 => hS.n8 (o 8 (by decide) h) (o 10 (by decide) h2), fun h => ⟨(ho 5).2 (Or.inr (hS.c9 (o 9 (by decide) h)).1), (ho 8).2 (Or.inr (hS.c9 (o 9 (by decide) h)).2)⟩, fun h => ⟨(ho 5).2 (Or.inr (hS.c11 (o 11 (by decide) h)).1), (ho 8).2 (Or.inr (hS.c11 (o 11 (by decide) h)).2.1), (ho 10).2 (Or.inr (hS.c11 (o 11 (by decide) h)).2.2)⟩⟩
          · have dn4 := ready_dep hi 4 (by kernel_rfl)
            obtain rfl := hS.d4 dn4
            refine wpOp_free (fun K hK => ?_)
            unfold wpOp
            go_simp
            refine Or.inl ?_
            refine hK _ _ ⟨_, _, _, _, _, _, _, _, _, _, _, w'.heap.size, gD, P, rfl, ?_⟩
            exact ⟨hS.bel.trans ((below_one _ _).mono hS.bel.size), fun h => hS.d0 (o 0 (by decide) h), fun h => hS.d1 (o 1 (by decide) h), fun h => hS.d2 (o 2 (by decide) h), fun h => hS.d3 (o 3 (by decide) h), fun h => hS.d4 (o 4 (by decide) h), fun _ => ⟨rfl, RRow.made _ _, hS.bel.size, by go_simp⟩, fun h => hS.d6 (o 6 (by decide) h), fun h => hS.d7 (o 7 (by decide) h), fun h => (hS.d8 (o 8 (by decide) h)).elim fun e1 e2 => ⟨e1, e2.1.below (below_one _ _) e2.2.2, e2.2.1, Nat.lt_of_lt_of_le e2.2.2 (below_one _ _).size⟩, fun h => absurd (hS.c9 (o 9 (by decide) h)).1 hno, fun h => (hS.d10 (o 10 (by decide) h)).elim fun e1 e2 => ⟨e1, (e2.1.elim fun x hx => hx.elim fun y hy => hy.elim fun z hz => ⟨x, y, z, hz.alloc _⟩), e2.2⟩, fun h => absurd (hS.c11 (o 11 (by decide) h)).1 hno, fun _ h2 => Nat.ne_of_gt (hS.d8 (o 8 (by decide) h2)).2.2.2, fun _ h2 => Nat.ne_of_gt (bx10 (o 10 (by decide) h2)), fun h h2 => hS.n8 (o 8 (by decide) h) (o 10 (by decide) h2), fun h => ⟨(ho 5).2 (Or.inr (hS.c9 (o 9 (by decide) h)).1), (ho 8).2 (Or.inr (hS.c9 (o 9 (by decide) h)).2)⟩, fun h => ⟨(ho 5).2 (Or.inr (hS.c11 (o 11 (by decide) h)).1), (ho 8).2 (Or.inr (hS.c11 (o 11 (by decide) h)).2.1), (ho 10).2 (Or.inr (hS.c11 (o 11 (by decide) h)).2.2)⟩⟩
          · refine wpOp_free (fun K hK => ?_)
            unfold wpOp
            go_simp
            refine Or.inl ?_
            refine hK _ _ ⟨_, _, _, _, _, _, _, _, _, _, _, gL, gD, P, rfl, ?_⟩
            exact ⟨hS.bel, fun h => hS.d0 (o 0 (by decide) h), fun h => hS.d1 (o 1 (by decide) h), fun h => hS.d2 (o 2 (by decide) h), fun h => hS.d3 (o 3 (by decide) h), fun h => hS.d4 (o 4 (by decide) h), fun h => hS.d5 (o 5 (by decide) h), fun _ => rfl, fun h => hS.d7 (o 7 (by decide) h), fun h => hS.d8 (o 8 (by decide) h), fun h => hS.d9 (o 9 (by decide) h), fun h => hS.d10 (o 10 (by decide) h), fun h => hS.d11 (o 11 (by decide) h), fun h h2 => hS.n58 (o 5 (by decide) h) (o 8 (by decide) h2), fun h h2 => hS.n5 (o 5 (by decide) h) (o 10 (by decide) h2), fun h h2 => hS.n8 (o 8 (by decide) h) (o 10 (by decide) h2), fun h => ⟨(ho 5).2 (Or.inr (hS.c9 (o 9 (by decide) h)).1), (ho 8).2 (Or.inr (hS.c9 (o 9 (by decide) h)).2)⟩, fun h => ⟨(ho 5).2 (Or.inr (hS.c11 (o 11 (by decide) h)).1), (ho 8).2 (Or.inr (hS.c11 (o 11 (by decide) h)).2.1), (ho 10).2 (Or.inr (hS.c11 (o 11 (by decide) h)).2.2)⟩⟩
          · have dn6 := ready_dep hi 6 (by kernel_rfl)
            obtain rfl := hS.d6 dn6
            refine wpOp_free (fun K hK => ?_)
            unfold wpOp
            go_simp
            refine Or.inl ?_
            refine hK _ _ ⟨_, _, _, _, _, _, _, _, _, _, _, gL, gD, P, rfl, ?_⟩
            exact ⟨hS.bel, fun h => hS.d0 (o 0 (by decide) h), fun h => hS.d1 (o 1 (by decide) h), fun h => hS.d2 (o 2 (by decide) h), fun h => hS.d3 (o 3 (by decide) h), fun h => hS.d4 (o 4 (by decide) h), fun h => hS.d5 (o 5 (by decide) h), fun h => hS.d6 (o 6 (by decide) h), fun _ => rfl, fun h => hS.d8 (o 8 (by decide) h), fun h => hS.d9 (o 9 (by decide) h), fun h => hS.d10 (o 10 (by decide) h), fun h => hS.d11 (o 11 (by decide) h), fun h h2 => hS.n58 (o 5 (by decide) h) (o 8 (by decide) h2), fun h h2 => hS.n5 (o 5 (by decide) h) (o 10 (by decide) h2), fun h h2 => hS.n8 (o 8 (by decide) h) (o 10 (by decide) h2), fun h => ⟨(ho 5).2 (Or.inr (hS.c9 (o 9 (by decide) h)).1), (ho 8).2 (Or.inr (hS.c9 (o 9 (by decide) h)).2)⟩, fun h => ⟨(ho 5).2 (Or.inr (hS.c11 (o 11 (by decide) h)).1), (ho 8).2 (Or.inr (hS.c11 (o 11 (by decide) h)).2.1), (ho 10).2 (Or.inr (hS.c11 (o 11 (by decide) h)).2.2)⟩⟩
          · have dn7 := ready_dep hi 7 (by kernel_rfl)
            obtain rfl := hS.d7 dn7
            refine wpOp_free (fun K hK => ?_)
            unfold wpOp
            go_simp
            refine Or.inl ?_
            refine hK _ _ ⟨_, _, _, _, _, _, _, _, _, _, _, gL, w'.heap.size, P, rfl, ?_⟩
            exact ⟨hS.bel.trans ((below_one _ _).mono hS.bel.size), fun h => hS.d0 (o 0 (by decide) h), fun h => hS.d1 (o 1 (by decide) h), fun h => hS.d2 (o 2 (by decide) h), fun h => hS.d3 (o 3 (by decide) h), fun h => hS.d4 (o 4 (by decide) h), fun h => (hS.d5 (o 5 (by decide) h)).elim fun e1 e2 => ⟨e1, e2.1.below (below_one _ _) e2.2.2, e2.2.1, Nat.lt_of_lt_of_le e2.2.2 (below_one _ _).size⟩, fun h => hS.d6 (o 6 (by decide) h), fun h => hS.d7 (o 7 (by decide) h), fun _ => ⟨rfl, RRow.made _ _, hS.bel.size, by go_simp⟩, fun h => absurd (hS.c9 (o 9 (by decide) h)).2 hno, fun h => (hS.d10 (o 10 (by decide) h)).elim fun e1 e2 => ⟨e1, (e2.1.elim fun x hx => hx.elim fun y hy => hy.elim fun z hz => ⟨x, y, z, hz.alloc _⟩), e2.2⟩, fun h => absurd (hS.c11 (o 11 (by decide) h)).2.1 hno, fun h _ => Nat.ne_of_lt (hS.d5 (o 5 (by decide) h)).2.2.2, fun h h2 => hS.n5 (o 5 (by decide) h) (o 10 (by decide) h2), fun _ h2 => Nat.ne_of_gt (bx10 (o 10 (by decide) h2)), fun h => ⟨(ho 5).2 (Or.inr (hS.c9 (o 9 (by decide) h)).1), (ho 8).2 (Or.inr (hS.c9 (o 9 (by decide) h)).2)⟩, fun h => ⟨(ho 5).2 (Or.inr (hS.c11 (o 11 (by decide) h)).1), (ho 8).2 (Or.inr (hS.c11 (o 11 (by decide) h)).2.1), (ho 10).2 (Or.inr (hS.c11 (o 11 (by decide) h)).2.2)⟩⟩
          · have dn1 := ready_dep hi 1 (by kernel_rfl)
            have dn5 := ready_dep hi 5 (by kernel_rfl)
            have dn8 := ready_dep hi 8 (by kernel_rfl)
            obtain rfl := hS.d1 dn1
            obtain ⟨rfl, _⟩ := hS.d5 dn5
            obtain ⟨rfl, _⟩ := hS.d8 dn8
            refine wpOp_free (fun K hK => ?_)
            unfold wpOp
            go_simp
            refine Or.inl ?_
            refine hK _ _ ⟨_, _, _, _, _, _, _, _, _, _, _, gL, gD, P, rfl, ?_⟩
            exact ⟨hS.bel, fun h => hS.d0 (o 0 (by decide) h), fun h => hS.d1 (o 1 (by decide) h), fun h => hS.d2 (o 2 (by decide) h), fun h => hS.d3 (o 3 (by decide) h), fun h => hS.d4 (o 4 (by decide) h), fun h => hS.d5 (o 5 (by decide) h), fun h => hS.d6 (o 6 (by decide) h), fun h => hS.d7 (o 7 (by decide) h), fun h => hS.d8 (o 8 (by decide) h), fun _ => rfl, fun h => hS.d10 (o 10 (by decide) h), fun h => hS.d11 (o 11 (by decide) h), fun h h2 => hS.n58 (o 5 (by decide) h) (o 8 (by decide) h2), fun h h2 => hS.n5 (o 5 (by decide) h) (o 10 (by decide) h2), fun h h2 => hS.n8 (o 8 (by decide) h) (o 10 (by decide) h2), fun _ => ⟨(ho 5).2 (Or.inr dn5), (ho 8).2 (Or.inr dn8)⟩, fun h => ⟨(ho 5).2 (Or.inr (hS.c11 (o 11 (by decide) h)).1), (ho 8).2 (Or.inr (hS.c11 (o 11 (by decide) h)).2.1), (ho 10).2 (Or.inr (hS.c11 (o 11 (by decide) h)).2.2)⟩⟩
          · refine wpOp_free (fun K hK => ?_)
            unfold wpOp
            go_simp
            refine Or.inl ?_
            refine hK _ _ ⟨_, _, _, _, _, _, _, _, _, _, _, gL, gD, w'.heap.size, rfl, ?_⟩
            exact ⟨hS.bel.trans ((below_one _ _).mono hS.bel.size), fun h => hS.d0 (o 0 (by decide) h), fun h => hS.d1 (o 1 (by decide) h), fun h => hS.d2 (o 2 (by decide) h), fun h => hS.d3 (o 3 (by decide) h), fun h => hS.d4 (o 4 (by decide) h), fun h => (hS.d5 (o 5 (by decide) h)).elim fun e1 e2 => ⟨e1, e2.1.below (below_one _ _) e2.2.2, e2.2.1, Nat.lt_of_lt_of_le e2.2.2 (below_one _ _).size⟩, fun h => hS.d6 (o 6 (by decide) h), fun h => hS.d7 (o 7 (by decide) h), fun h => (hS.d8 (o 8 (by decide) h)).elim fun e1 e2 => ⟨e1, e2.1.below (below_one _ _) e2.2.2, e2.2.1, Nat.lt_of_lt_of_le e2.2.2 (below_one _ _).size⟩, fun h => hS.d9 (o 9 (by decide) h), fun _ => ⟨rfl, ⟨_, _, _, B3.new _ _ _ _ _⟩, hS.bel.size⟩, fun h => absurd (hS.c11 (o 11 (by decide) h)).2.2 hno, fun h h2 => hS.n58 (o 5 (by decide) h) (o 8 (by decide) h2), fun h _ => Nat.ne_of_lt (hS.d5 (o 5 (by decide) h)).2.2.2, fun h _ => Nat.ne_of_lt (hS.d8 (o 8 (by decide) h)).2.2.2, fun h => ⟨(ho 5).2 (Or.inr (hS.c9 (o 9 (by decide) h)).1), (ho 8).2 (Or.inr (hS.c9 (o 9 (by decide) h)).2)⟩, fun h => ⟨(ho 5).2 (Or.inr (hS.c11 (o 11 (by decide) h)).1), (ho 8).2 (Or.inr (hS.c11 (o 11 (by decide) h)).2.1), (ho 10).2 (Or.inr (hS.c11 (o 11 (by decide) h)).2.2)⟩⟩
          · have dn5 := ready_dep hi 5 (by kernel_rfl)
            have dn8 := ready_dep hi 8 (by kernel_rfl)
            have dn9 := ready_dep hi 9 (by kernel_rfl)
            have dn10 := ready_dep hi 10 (by kernel_rfl)
            obtain rfl := hS.d9 dn9
            obtain ⟨rfl, ⟨x, y, z, hbx⟩, q3⟩ := hS.d10 dn10
            obtain ⟨y0, y1, y2, z0, z1, z2, _⟩ := id hbx
            refine wpOp_free (fun K hK => ?_)
            unfold wpOp
            go_simp
            refine Or.inl ?_
            refine hK _ _ ⟨_, _, _, _, _, _, _, _, _, _, _, gL, gD, P, rfl, ?_⟩
            exact ⟨set_three' hS.bel q3 _ _ _, fun h => hS.d0 (o 0 (by decide) h), fun h => hS.d1 (o 1 (by decide) h), fun h => hS.d2 (o 2 (by decide) h), fun h => hS.d3 (o 3 (by decide) h), fun h => hS.d4 (o 4 (by decide) h), fun h => (hS.d5 (o 5 (by decide) h)).elim fun e1 e2 => ⟨e1, row_three e2.1 (hS.n5 (o 5 (by decide) h) dn10) _ _ _, e2.2.1, by rw [size_three]; exact e2.2.2⟩, fun h => hS.d6 (o 6 (by decide) h), fun h => hS.d7 (o 7 (by decide) h), fun h => (hS.d8 (o 8 (by decide) h)).elim fun e1 e2 => ⟨e1, row_three e2.1 (hS.n8 (o 8 (by decide) h) dn10) _ _ _, e2.2.1, by rw [size_three]; exact e2.2.2⟩, fun h => hS.d9 (o 9 (by decide) h), fun h => (hS.d10 (o 10 (by decide) h)).elim fun e1 e2 => ⟨e1, ⟨_, _, _, three_put' hbx _ _ _⟩, e2.2⟩, fun _ => three_put' hbx _ _ _, fun h h2 => hS.n58 (o 5 (by decide) h) (o 8 (by decide) h2), fun h h2 => hS.n5 (o 5 (by decide) h) (o 10 (by decide) h2), fun h h2 => hS.n8 (o 8 (by decide) h) (o 10 (by decide) h2), fun h => ⟨(ho 5).2 (Or.inr (hS.c9 (o 9 (by decide) h)).1), (ho 8).2 (Or.inr (hS.c9 (o 9 (by decide) h)).2)⟩, fun _ => ⟨(ho 5).2 (Or.inr dn5), (ho 8).2 (Or.inr dn8), (ho 10).2 (Or.inr dn10)⟩⟩
        · rintro L a w' hL ⟨v6, v28, v29, v30, v31, v32, v33, v34, v35, v36, v37, gL, gD, P, rfl, hS⟩ hnone
          have hd := all_done hL hnone (by kernel_rfl)
          have o := fun i (h : i < 12) => hd i h
          obtain ⟨rL, rLo, rLt⟩ := (hS.d5 (o 5 (by omega))).2
          obtain ⟨rD, rDo, rDt⟩ := (hS.d8 (o 8 (by omega))).2
          have hne := hS.n58 (o 5 (by omega)) (o 8 (by omega))
          obtain ⟨rfl, _, hP⟩ := hS.d10 (o 10 (by omega))
          have FB := hS.d11 (o 11 (by omega))
          have bel := hS.bel
          have nP1 := hS.n5 (o 5 (by omega)) (o 10 (by omega))
          have nP2 := hS.n8 (o 8 (by omega)) (o 10 (by omega))
          clear hS hd o hnone hL
          have S2 := S1.later bel
          have ct := take_any xs C T gL gD cap ao w1 w' hN48 HTT.out HL.out hr1 hF rL rD ⟨rLt, rDt⟩ ⟨rLo, rDo⟩ hne bel
          obtain ⟨f0, f1, f2, _⟩ := id FB
          obtain ⟨m0, m1, m2, _⟩ := id S2.mbox
          have hPt : P < w'.heap.size := FB.2.2.2.2.2.2
          go_upto_region 11 with (go_at_call 32; refine ct.mono ?_; rintro e w2 ⟨er, r, rr, fl, d, rfl, hrr, hO, r2L, r2D, wd, wl, b2, keep⟩)
          have sz1 : w.heap.size + 1 < w1.heap.size := S1.res.2.2.2.2.2.2
          have sz2 := bel.size
          have RB2 := keep (w.heap.size + 1) _ _ _ (by omega) (by omega) (by omega) S2.res
          have FB2 := keep P _ _ _ hPt (fun e => nP1 e.symm) (fun e => nP2 e.symm) FB
          have HB2 := S1.below.trans (b2.mono S1.below.size)
          have hO2 : Out (mE ((C : Int)).toNat xs) ((C : Int)).toNat (LF fl) d er r := by rw [Int.toNat_natCast]; exact hO
          clear keep ct f0 f1 f2 m0 m1 m2 S2 FB hO
          obtain ⟨f0, f1, f2, _⟩ := id FB2
          obtain ⟨t0, t1, t2, s0, s1, s2, _⟩ := id RB2
          have HRes : Hid (Res C C xs er r (LF fl) d) := (show Res C C xs er r (LF fl) d from Or.inr (Or.inr ⟨HS.out, HF'.out, hO2⟩))
          by_cases he : er = 0
          · have b1 : (er != 0) = false := by simp [he]
            have HE : Hid (er = 0) := he
            have HR0 : Hid (r = 0) := (show r = 0 by
              rcases hO2 with ⟨_, h, _⟩ | ⟨h, _⟩ | ⟨h, _⟩
              · exact h
              · omega
              · omega)
            clear he hO2 hrr
            go_wp2
            refine bodyPost_ret (v := .tuple #[fcV C (some ⟨gL, 0, none⟩) T T (some ⟨gD, 0, none⟩) C C, .int .i64 0, .int .i64 0]) (by simp [results, Try.results8, go_sem, t0, t1, t2]) rfl ⟨er, r, LF fl, d, _, HRes.out, by rw [HE.out, HR0.out]; rfl, set_three HB2 (by omega) _ _ _, fun h => absurd HE.out h, fun _ => ⟨HR0.out, C, rfl, hN48, toL' T fl, toL' C d, some ⟨gL, 0, none⟩, T, some ⟨gD, 0, none⟩, C, by rw [toL'_len, toL'_len], (row_three r2L (by omega) _ _ _).grow (toL'_len _ _) (fun j hj => toL'_at hj), (row_three r2D (by omega) _ _ _).grow (toL'_len _ _) (fun j hj => toL'_at hj), toL'_fw wl, toL'_fw wd, by rw [toL'_len, HTT.out], toL'_len _ _, by rw [toL'_len]; exact Nat.le_refl _, by rw [toL'_len]; exact Nat.le_refl _, by omega, by omega, fun a e => by cases e; show w.heap.size ≤ gL; omega, fun a e => by cases e; show w.heap.size ≤ gD; omega, fun i k h1 h2 => ?_, fun k hk => toL'_at hk⟩⟩
            rw [toL'_at (by rw [← HTT.out]; exact tri_in h1 h2)]
            rfl
          · have b1 : (er != 0) = true := by simp [he]
            have HE : Hid (er ≠ 0) := he
            have hrr2 : rr = r := hrr.resolve_left he
            subst hrr2
            clear he hO2 hrr
            go_wp2
            exact bodyPost_ret (v := .tuple #[fcV 0 none 0 0 none 0 0, .int .i64 er, .int .i64 rr]) (by simp [results, Try.results8, go_sem, t0, t1, t2]) rfl ⟨er, rr, LF fl, d, _, HRes.out, rfl, set_three HB2 (by omega) _ _ _, fun _ => rfl, fun h => absurd h HE.out⟩
end Go.Proofs.Ytbnjjoaippoinaa
