/- LowerTimes: Times and Right are the document's, of any factor, and of that with as many numbers as it may have. -/
import Derived.Test.YtpllknjomjbpnaaLw13
import Derived.Deep.CutBlock
namespace Go.Proofs.Ytpllknjomjbpnaa
open Go.RowKit

theorem ti_len (n : Int) (ls ds : List Nat) : (tiA n ls ds).os.length ≤ 2304 := by
  unfold tiA
  split
  · rename_i h
    obtain ⟨N, rfl, hN, _, _⟩ := rightF_nat h
    simp only [tabM_len, Int.toNat_natCast]
    exact mul48 hN hN
  · simp [noA]
/-- Two matrices that are told alike. -/
theorem smat_LN (r c : Int) {os : List (Option Nat)} {xs ys : List Nat} (hx : LN os xs) (hy : LN os ys) (ao bo : Option Addr) (cap cap2 : Nat) (w : World) (hr : GRow w ao xs) (hs : GRow w bo ys) (hl : os.length ≤ 2304) :
    Calls Try.prog 17 #[mxV r c ao xs.length cap, mxV r c bo ys.length cap2] w fun e w' => e = .returned (.bool true) ∧ Below w.heap.size w w' := by
  have h := ksame_any r c xs r c ys ao bo cap cap2 w hr hs hx.fw hy.fw (by rw [hx.1]; omega) (by rw [hy.1]; omega)
  rw [sameM_yes (hx.same hy)] at h
  exact h
theorem row_first {w : World} {ao : Option Addr} {xs : List Nat} (h : GRow w ao xs) (n : Nat) : GRow w ao (xs.take n) := by
  rcases h with h | ⟨b, off, rfl, hc⟩
  · left
    rw [List.length_take, h]; exact Nat.min_zero _
  · refine Or.inr ⟨b, off, rfl, fun j hj => ?_⟩
    have hj2 := hj
    rw [List.length_take] at hj2
    rw [getD_at hj, List.getElem_take, ← getD_at (show j < xs.length by omega)]
    exact hc j (by omega)
theorem fw_first {xs : List Nat} (h : FW xs) (n : Nat) : FW (xs.take n) := fun x hx => h x (List.mem_of_mem_take hx)
set_option maxRecDepth 100000 in
set_option maxHeartbeats 4000000 in
theorem times_law (n : Int) (ls : List Nat) (lo : Option Addr) (lc : Nat) (ds : List Nat) (dO : Option Addr) (dc : Nat) (w : World) (hL : GRow w lo ls) (fL : FW ls) (_zL : lo = none → lc = 0 ∧ ls.length = 0) (lL : ls.length ≤ lc) (_ : lc ≤ 17592186044416) (hD : GRow w dO ds) (fD : FW ds) (_zD : dO = none → dc = 0 ∧ ds.length = 0) (lD : ds.length ≤ dc) (_ : dc ≤ 17592186044416) :
    Calls Try.prog 4 #[fcV n lo ls.length lc dO ds.length dc] w fun e w' => e = .returned (.bool true) ∧ Below w.heap.size w w' := by
  have M0 : B3 (w.alloc (.cells #[.int .i64 n, .slice lo ls.length lc, .slice dO ds.length dc] 26)) w.heap.size (.int .i64 n) (.slice lo ls.length lc) (.slice dO ds.length dc) := B3.new _ _ _ _ _
  have B0 := below_one w (.cells #[.int .i64 n, .slice lo ls.length lc, .slice dO ds.length dc] 26)
  go_enter Try.func4, Try.ntmps4
  go_wp2
  generalize w.alloc (.cells #[.int .i64 n, .slice lo ls.length lc, .slice dO ds.length dc] 26) = W0 at *
  go_loopg [3] 2 (fun gg s3 wr => ∃ (t : Nat) (n : Int) (ls ds : List Nat), t ≤ 2 ∧ gg = 2 - t ∧ s3 = .int .i64 t ∧ B3 wr w.heap.size (.int .i64 n) (.slice lo ls.length lc) (.slice dO ds.length dc) ∧ GRow w lo ls ∧ FW ls ∧ ls.length ≤ lc ∧ GRow w dO ds ∧ FW ds ∧ ds.length ≤ dc ∧ Below w.heap.size w wr)
  case atStart => exact ⟨0, n, ls, ds, by omega, rfl, rfl, M0, hL, fL, lL, hD, fD, lD, B0⟩
  case round =>
    clear M0 B0 hL fL lL hD fD lD
    obtain ⟨t, n, ls, ds, ht, hg, rfl, MB, hL, fL, lL, hD, fD, lD, HB⟩ := hrel
    have HG : Hid (gk = 2 - t) := hg
    clear hg
    by_cases hlt : (t : Int) < 2
    · have c1 := fun W h1 h2 => ltimes_any n ls ds lo dO lc dc W h1 h2 fL fD lL
      have c2 := fun W h1 h2 => rtimes_any n ls ds lo dO lc dc W h1 h2 fL fD
      have c3 := fun W => lright_any n lo dO ls.length lc ds.length dc W
      have c4 := fun W => rright12_any n lo dO ls.length lc ds.length dc W
      have tl := ti_len n ls ds
      generalize tiA n ls ds = A at *
      generalize rightF n ls.length ds.length = Rt at *
      obtain ⟨m0, m1, m2, _⟩ := id MB
      go_upto_region 5 with (go_at_call 13; refine (c1 _ (hL.below HB) (hD.below HB)).mono ?_; rintro e w2 ⟨_, rfl, xo, xc, xl, rfl, hx, gx, _, _, b2⟩)
      have XB := B3.new w2 (.int .i64 A.rows) (.int .i64 A.cols) (.slice xo xl.length xc) 24
      have bV : Below wr.heap.size wr (w2.alloc (.cells #[.int .i64 A.rows, .int .i64 A.cols, .slice xo xl.length xc] 24)) := b2.trans ((below_one _ _).mono b2.size)
      replace gx := gx.below (below_one w2 (.cells #[.int .i64 A.rows, .int .i64 A.cols, .slice xo xl.length xc] 24))
      generalize w2.alloc (.cells #[.int .i64 A.rows, .int .i64 A.cols, .slice xo xl.length xc] 24) = V2 at *
      generalize w2.heap.size = P1 at *
      replace MB := MB.below bV
      replace HB := HB.trans (bV.mono HB.size)
      clear m0 m1 m2 b2 bV c1
      obtain ⟨m0, m1, m2, _⟩ := id MB
      go_upto_region 6 with (go_at_call 14; refine (c2 _ (hL.below HB) (hD.below HB)).mono ?_; rintro e w3 ⟨_, rfl, yo, yc, yl, rfl, hy, gy, _, _, b3⟩)
      have YB := B3.new w3 (.int .i64 A.rows) (.int .i64 A.cols) (.slice yo yl.length yc) 24
      have bV : Below V2.heap.size V2 (w3.alloc (.cells #[.int .i64 A.rows, .int .i64 A.cols, .slice yo yl.length yc] 24)) := b3.trans ((below_one _ _).mono b3.size)
      replace gy := gy.below (below_one w3 (.cells #[.int .i64 A.rows, .int .i64 A.cols, .slice yo yl.length yc] 24))
      generalize w3.alloc (.cells #[.int .i64 A.rows, .int .i64 A.cols, .slice yo yl.length yc] 24) = V3 at *
      generalize w3.heap.size = P2 at *
      replace MB := MB.below bV
      replace XB := XB.below bV
      replace gx := gx.below bV
      replace HB := HB.trans (bV.mono HB.size)
      clear m0 m1 m2 b3 bV c2
      have c5 := fun W h1 h2 => smat_LN A.rows A.cols hx hy xo yo xc yc W h1 h2 tl
      have e1 : (A.err != A.err) = false := by simp
      have e2 : (Rt != Rt) = false := by cases Rt <;> rfl
      generalize A.err = er at *
      generalize A.rows = ar at *
      generalize A.cols = ac at *
      have dr : Below V3.heap.size V3 V3.drew := (Below.refl _ _).drew
      replace MB := MB.below dr
      replace XB := XB.below dr
      replace YB := YB.below dr
      replace gx := gx.below dr
      replace gy := gy.below dr
      replace HB := HB.trans (dr.mono HB.size)
      clear dr tl
      have HC : ∀ w1, Below V3.drew.heap.size V3.drew w1 → w1.cell? ⟨w.heap.size, 0, none⟩ = some (.int .i64 n) ∧ w1.cell? ⟨w.heap.size, 1, none⟩ = some (.slice lo ls.length lc) ∧ w1.cell? ⟨w.heap.size, 2, none⟩ = some (.slice dO ds.length dc) ∧ w1.cell? ⟨P1, 0, none⟩ = some (.int .i64 ar) ∧ w1.cell? ⟨P1, 1, none⟩ = some (.int .i64 ac) ∧ w1.cell? ⟨P1, 2, none⟩ = some (.slice xo xl.length xc) ∧ w1.cell? ⟨P2, 0, none⟩ = some (.int .i64 ar) ∧ w1.cell? ⟨P2, 1, none⟩ = some (.int .i64 ac) ∧ w1.cell? ⟨P2, 2, none⟩ = some (.slice yo yl.length yc) := fun w1 hb => by
        obtain ⟨x0, x1, x2, _⟩ := MB.below hb
        obtain ⟨y0, y1, y2, _⟩ := XB.below hb
        obtain ⟨z0, z1, z2, _⟩ := YB.below hb
        exact ⟨x0, x1, x2, y0, y1, y2, z0, z1, z2⟩
      have m0 := HC _ (Below.refl _ _)
      go_region_held3 (fun w1 => w1.cell? ⟨w.heap.size, 0, none⟩ = some (.int .i64 n) ∧ w1.cell? ⟨w.heap.size, 1, none⟩ = some (.slice lo ls.length lc) ∧ w1.cell? ⟨w.heap.size, 2, none⟩ = some (.slice dO ds.length dc) ∧ w1.cell? ⟨P1, 0, none⟩ = some (.int .i64 ar) ∧ w1.cell? ⟨P1, 1, none⟩ = some (.int .i64 ac) ∧ w1.cell? ⟨P1, 2, none⟩ = some (.slice xo xl.length xc) ∧ w1.cell? ⟨P2, 0, none⟩ = some (.int .i64 ar) ∧ w1.cell? ⟨P2, 1, none⟩ = some (.int .i64 ac) ∧ w1.cell? ⟨P2, 2, none⟩ = some (.slice yo yl.length yc)) (go_keep)
        (first
          | (go_at_call 15; refine (c3 _).mono ?_; rintro e w4 ⟨rfl, b4⟩; have m4 := HC _ b4)
          | (go_at_call 16; refine (c4 _).mono ?_; rintro e w5 ⟨rfl, b5⟩; have b6 := b4.trans (b5.mono b4.size); have m5 := HC _ b6)
          | (go_at_call 17; refine (c5 _ (gx.below b6) (gy.below b6)).mono ?_; rintro e w6 ⟨rfl, b7⟩; have b8 := b6.trans (b7.mono b6.size); have m6 := HC _ b8))
      replace MB := MB.below b8
      replace HB := HB.trans (b8.mono HB.size)
      clear HC m0 m4 m5 m6 XB YB gx gy hx hy b4 b5 b6 b7 b8 c3 c4 c5
      go_upto_block 2 with fail
      go_cut [8] from 9 to 75 (fun s8 wx => ∃ N : Nat, s8 = .int .i64 N ∧ N ≤ 48 ∧ N ≤ ds.length ∧ tri N ≤ ls.length ∧ wx = w6)
      case first =>
        go_wp2_with fail
        go_loopg [8] 48 (fun gg s8 wr => ∃ k : Nat, k ≤ 48 ∧ gg = 48 - k ∧ s8 = .int .i64 k ∧ Hid (k ≤ ds.length ∧ tri k ≤ ls.length) ∧ wr = w6)
        case atStart => exact ⟨0, Nat.zero_le _, rfl, rfl, ⟨Nat.zero_le _, Nat.zero_le _⟩, rfl⟩
        case round =>
          obtain ⟨k, hk, hg, rfl, hkk, h'⟩ := hrel
          subst wr
          have HG2 : Hid (gk = 48 - k) := hg
          clear hg
          obtain ⟨a0, a1, a2, _⟩ := id MB
          by_cases h1 : (k : Int) < 48
          · by_cases h2 : (k : Int) + 1 ≤ (ds.length : Int)
            · obtain ⟨T, hT⟩ : ∃ T, tri (k + 1) = T := ⟨_, rfl⟩
              have e0 := tri_two (k + 1)
              have hTb := tri_le (show k + 1 ≤ 49 by omega)
              rw [hT] at e0 hTb
              have eM : ((k : Int) + 1) * (k : Int) = 2 * (T : Int) := by
                rw [← e0]; push_cast; rw [Int.add_sub_cancel]
              obtain ⟨q, hq⟩ : ∃ q : Int, q = 2 * (T : Int) := ⟨_, rfl⟩
              rw [← hq] at eM
              have HT : Hid (tri (k + 1) = T) := hT
              clear hT e0
              by_cases h3 : (T : Int) ≤ (ls.length : Int)
              · go_wp2
                go_roundg (48 - (k + 1))
                case measure => rw [HG2.out]; omega
                case rel => exact ⟨k + 1, by omega, rfl, by go_num, ⟨by omega, by rw [HT.out]; omega⟩, rfl⟩
              · go_wp2
                go_meet
                exact ⟨k, rfl, hk, hkk.out.1, hkk.out.2, rfl⟩
            · go_wp2
              go_meet
              exact ⟨k, rfl, hk, hkk.out.1, hkk.out.2, rfl⟩
          · go_wp2
            go_meet
            exact ⟨k, rfl, hk, hkk.out.1, hkk.out.2, rfl⟩
      obtain ⟨N, rfl, hN, hNd, hNl, h'⟩ := hcut
      subst wc
      obtain ⟨T, hT⟩ : ∃ T, tri N = T := ⟨_, rfl⟩
      have e0 := tri_two N
      have hTb := tri_le (show N ≤ 49 by omega)
      rw [hT] at e0 hTb hNl
      obtain ⟨q, hq⟩ : ∃ q : Int, q = 2 * (T : Int) := ⟨_, rfl⟩
      rw [← hq] at e0
      clear hT
      have lt1 : (ls.take T).length = T := by rw [List.length_take]; omega
      have lt2 : (ds.take N).length = N := by rw [List.length_take]; omega
      have i1 : (T : Int) ≤ (lc : Int) := by omega
      have i2 : (N : Int) ≤ (dc : Int) := by omega
      have wq : IntKind.i64.wrap q = q := by rw [IntKind.wrap_i64]; omega
      obtain ⟨a0, a1, a2, s0, s1, s2, _⟩ := id MB
      have RB : B3 (((w6.setCell ⟨w.heap.size, 0, none⟩ (.int .i64 N)).setCell ⟨w.heap.size, 1, none⟩ (.slice lo T lc)).setCell ⟨w.heap.size, 2, none⟩ (.slice dO N dc)) w.heap.size (.int .i64 N) (.slice lo T lc) (.slice dO N dc) := three_put' MB _ _ _
      have RH := set_three HB (Nat.le_refl _) (.int .i64 N) (.slice lo T lc) (.slice dO N dc)
      have hrel' : ∀ wf, B3 wf w.heap.size (.int .i64 N) (.slice lo T lc) (.slice dO N dc) → Below w.heap.size w wf → ∃ (t' : Nat) (n : Int) (ls' ds' : List Nat), t' ≤ 2 ∧ 2 - (t + 1) = 2 - t' ∧ Value.int .i64 ((t : Int) + 1) = .int .i64 t' ∧ B3 wf w.heap.size (.int .i64 n) (.slice lo ls'.length lc) (.slice dO ds'.length dc) ∧ GRow w lo ls' ∧ FW ls' ∧ ls'.length ≤ lc ∧ GRow w dO ds' ∧ FW ds' ∧ ds'.length ≤ dc ∧ Below w.heap.size w wf := fun wf h1 h2 =>
        ⟨t + 1, N, ls.take T, ds.take N, by omega, rfl, by push_cast; rfl, by rw [lt1, lt2]; exact h1, row_first hL T, fw_first fL T, by rw [lt1]; omega, row_first hD N, fw_first fD N, by rw [lt2]; omega, h2⟩
      clear lt1 lt2 hL hD fL fD
      have wn : IntKind.i64.wrap ((N : Int) - 1) = (N : Int) - 1 := by rw [IntKind.wrap_i64]; omega
      have tq : q.tdiv 2 = (T : Int) := by rw [hq]; exact Int.mul_tdiv_cancel_left _ (by decide)
      have wT : IntKind.i64.wrap (T : Int) = (T : Int) := by rw [IntKind.wrap_i64]; omega
      have hdc : ∀ (W : World) a, W.drew.cell? a = W.cell? a := fun _ _ => rfl
      have hdf : ∀ (W : World) a, W.drew.frozen? a = W.frozen? a := fun _ _ => rfl
      clear hq
      go_wp2
      have hadd : ∀ a : Addr, a.add 0 = a := fun a => by unfold Addr.add; simp
      have hlN : T ≤ lc := by omega
      have hdN : N ≤ dc := by omega
      clear _zL _zD
      rcases lo with _ | a
      all_goals
        rcases dO with _ | a'
        all_goals
          go_region_with (fail)
          all_goals
            go_wp2
            go_roundg (2 - (t + 1))
            case measure => rw [HG.out]; omega
            case rel => exact hrel' _ (by first | exact RB | exact RB.below (Below.refl _ _).drew) (by first | exact RH | exact RH.drew)
    · go_wp2_with (go_at_call 12; refine (lawake _).mono ?_; rintro e w9 ⟨rfl, b9⟩)
      go_ret
      exact ⟨rfl, HB.trans (b9.mono HB.size)⟩
end Go.Proofs.Ytpllknjomjbpnaa
