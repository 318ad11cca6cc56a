/- mirrored of layer 12's laws: some matrix of at most 48 rows, in new memory. -/
import Derived.Test.YtpllknjomjbpnaaLw10
import Derived.Test.YtpllknjomjbpnaaA1
import Derived.Deep.CutBlock
namespace Go.Proofs.Ytpllknjomjbpnaa
open Go.RowKit

/-- 4 2 / 2 5; 4 2 / 2 1. -/
def awA : List Nat := [4616189618054758400, 4611686018427387904, 4611686018427387904, 4617315517961601024]
def awB : List Nat := [4616189618054758400, 4611686018427387904, 4611686018427387904, 4607182418800017408]
theorem awA_res : Res 2 2 awA 0 0 (fun _ _ => 4602678819172646912) (fun _ => 4616189618054758400) := by
  refine Or.inr (Or.inr ⟨by kernel_rfl, by kernel_rfl, Or.inl ⟨rfl, rfl, fun j hj => ?_⟩⟩)
  have hj : j < 2 := hj
  have : j = 0 ∨ j = 1 := by omega
  rcases this with rfl | rfl
  · refine ⟨by kernel_rfl, by kernel_rfl, fun i h1 h2 => ?_⟩
    have h2 : i < 2 := h2
    have : i = 1 := by omega
    subst this
    exact ⟨by kernel_rfl, by kernel_rfl⟩
  · refine ⟨by kernel_rfl, by kernel_rfl, fun i h1 h2 => ?_⟩
    have h2 : i < 2 := h2
    omega
theorem awB_res : Res 2 2 awB 220 1 (fun _ _ => 4602678819172646912) (fun _ => 4616189618054758400) := by
  refine Or.inr (Or.inr ⟨by kernel_rfl, by kernel_rfl, Or.inr (Or.inl ⟨rfl, by decide, fun j hj => ?_, by kernel_rfl⟩)⟩)
  have : j = 0 := by omega
  subst this
  refine ⟨by kernel_rfl, by kernel_rfl, fun i h1 h2 => ?_⟩
  have h2 : i < 2 := h2
  have : i = 1 := by omega
  subst this
  exact ⟨by kernel_rfl, by kernel_rfl⟩
theorem aw_len1 {ls : List Nat} (h : ls.length = 1) : ls = [ls.getD 0 0] := by
  match ls, h with
  | [x], _ => rfl
theorem aw_len2 {ls : List Nat} (h : ls.length = 2) : ls = [ls.getD 0 0, ls.getD 1 0] := by
  match ls, h with
  | [x, y], _ => rfl
theorem aw_fac (ao : Option Addr) (w : World) (h : GRow w ao awA) : Calls Try.prog 8 #[mxV 2 2 ao 4 4] w fun e w' => ∃ lo lc dO dc, e = .returned (.tuple #[fcV 2 lo 1 lc dO 2 dc, .int .i64 0, .int .i64 0]) ∧ GRow w' lo [4602678819172646912] ∧ GRow w' dO [4616189618054758400, 4616189618054758400] ∧ 1 ≤ lc ∧ Below w.heap.size w w' := by
  refine Calls.mono (lfactor_any 2 2 awA ao 4 w h (fw_lit _ (by decide)) (by decide)) ?_
  rintro e w' ⟨er, row, f, d, v, hR, rfl, hB, _, h0⟩
  obtain ⟨e1, e2, e3⟩ := res_one hR awA_res
  obtain ⟨hf, hd⟩ := e3 e1
  obtain ⟨h1, N, hN, _, ls, ds, lo, lc, dO, dc, rfl, g1, g2, _, _, g5, g6, g7, _, _, _, _, _, g8, g9⟩ := h0 e1
  have eN : N = 2 := by omega
  subst eN
  have eL1 : ls = [4602678819172646912] := by
    rw [aw_len1 (show ls.length = 1 from g5)]
    have := g8 1 0 (by omega) (by omega)
    rw [hf 0 1 (by omega) (by decide)] at this
    rw [show ls.getD 0 0 = 4602678819172646912 from this]
  have eD1 : ds = [4616189618054758400, 4616189618054758400] := by
    rw [aw_len2 g6, g9 0 (by omega), g9 1 (by omega), hd 0 (by decide), hd 1 (by decide)]
  subst eL1 eD1 e1 e2
  exact ⟨lo, lc, dO, dc, rfl, g1, g2, g7, hB⟩
theorem aw_fac2 (ao : Option Addr) (w : World) (h : GRow w ao awB) : Calls Try.prog 8 #[mxV 2 2 ao 4 4] w fun e w' => e = .returned (.tuple #[fcV 0 none 0 0 none 0 0, .int .i64 220, .int .i64 1]) ∧ Below w.heap.size w w' := by
  refine Calls.mono (lfactor_any 2 2 awB ao 4 w h (fw_lit _ (by decide)) (by decide)) ?_
  rintro e w' ⟨er, row, f, d, v, hR, rfl, hB, hv, _⟩
  obtain ⟨e1, e2, _⟩ := res_one hR awB_res
  subst e1 e2
  rw [hv (by decide)]
  exact ⟨rfl, hB⟩
theorem aw_tiA : tiA 2 [4602678819172646912] [4616189618054758400, 4616189618054758400] = ⟨2, 2, awA.map some, 0⟩ := by kernel_rfl
theorem aw_times (lo dO : Option Addr) (lc dc : Nat) (w : World) (h1 : GRow w lo [4602678819172646912]) (h2 : GRow w dO [4616189618054758400, 4616189618054758400]) (hc : 1 ≤ lc) : Calls Try.prog 13 #[fcV 2 lo 1 lc dO 2 dc] w fun e w' => ∃ zo zc, e = .returned (.tuple #[mxV 2 2 zo 4 zc, .int .i64 0]) ∧ GRow w' zo awA ∧ Below w.heap.size w w' := by
  have h := ltimes_any 2 [4602678819172646912] [4616189618054758400, 4616189618054758400] lo dO lc dc w h1 h2 (fw_lit _ (by decide)) (fw_lit _ (by decide)) hc
  rw [aw_tiA] at h
  refine Calls.mono h ?_
  rintro e w' ⟨_, rfl, zo, zc, zs, rfl, k2, k3, _, _, k6⟩
  have e2 := LN_some k2
  subst e2
  exact ⟨zo, zc, rfl, k3, k6⟩
theorem aw_sf (lo dO lo' do' : Option Addr) (lc dc : Nat) (w : World) (h1 : GRow w lo [4602678819172646912]) (h2 : GRow w dO [4616189618054758400, 4616189618054758400]) (h3 : GRow w lo' [4602678819172646912]) (h4 : GRow w do' [4616189618054758400, 4616189618054758400]) :
    Calls Try.prog 10 #[fcV 2 lo 1 lc dO 2 dc, fcV 2 lo' 1 1 do' 2 2] w fun e w' => e = .returned (.bool true) ∧ Below w.heap.size w w' :=
  sfac_any 2 [4602678819172646912] [4616189618054758400, 4616189618054758400] [4602678819172646912] [4616189618054758400, 4616189618054758400] lo dO lo' do' lc dc 1 2 w h1 h2 h3 h4 (fw_lit _ (by decide)) (fw_lit _ (by decide)) (fw_lit _ (by decide)) (fw_lit _ (by decide)) (by decide) (by decide) (by decide) (by decide) (by kernel_rfl) (by kernel_rfl)
theorem aw_smx (ao bo : Option Addr) (cap cap2 : Nat) (w : World) (h1 : GRow w ao awA) (h2 : GRow w bo awA) : Calls Try.prog 17 #[mxV 2 2 ao 4 cap, mxV 2 2 bo 4 cap2] w fun e w' => e = .returned (.bool true) ∧ Below w.heap.size w w' := by
  have h := ksame_any 2 2 awA 2 2 awA ao bo cap cap2 w h1 h2 (fw_lit _ (by decide)) (fw_lit _ (by decide)) (by decide) (by decide)
  rw [show sameM 2 2 awA 2 2 awA = true by kernel_rfl] at h
  exact h
set_option maxRecDepth 100000 in
set_option maxHeartbeats 2000000 in
theorem lawake (w : World) : Calls Try.prog 12 #[] w fun e w' => e = .returned (.bool true) ∧ Below w.heap.size w w' := by
  go_enter Try.func12, Try.ntmps12
  go_upto_region 2 with fail
  have gA : GRow ((w.alloc (.cells #[.float .f64 4616189618054758400, .float .f64 4611686018427387904, .float .f64 4611686018427387904, .float .f64 4617315517961601024] 38)).alloc (.cells #[.int .i64 2, .int .i64 2, .slice (some ⟨w.heap.size, 0, none⟩) 4 4] 24)) (some ⟨w.heap.size, 0, none⟩) awA := row_on (row_at rfl rfl) _
  have MB : B3 ((w.alloc (.cells #[.float .f64 4616189618054758400, .float .f64 4611686018427387904, .float .f64 4611686018427387904, .float .f64 4617315517961601024] 38)).alloc (.cells #[.int .i64 2, .int .i64 2, .slice (some ⟨w.heap.size, 0, none⟩) 4 4] 24)) (w.heap.size + 1) (.int .i64 2) (.int .i64 2) (.slice (some ⟨w.heap.size, 0, none⟩) 4 4) := B3.newAt (by go_simp) _ _ _ _
  have BB : Below w.heap.size w ((w.alloc (.cells #[.float .f64 4616189618054758400, .float .f64 4611686018427387904, .float .f64 4611686018427387904, .float .f64 4617315517961601024] 38)).alloc (.cells #[.int .i64 2, .int .i64 2, .slice (some ⟨w.heap.size, 0, none⟩) 4 4] 24)) := old_two (Below.refl _ _)
  generalize (w.alloc (.cells #[.float .f64 4616189618054758400, .float .f64 4611686018427387904, .float .f64 4611686018427387904, .float .f64 4617315517961601024] 38)).alloc (.cells #[.int .i64 2, .int .i64 2, .slice (some ⟨w.heap.size, 0, none⟩) 4 4] 24) = W1 at *
  obtain ⟨m0, m1, m2, _⟩ := id MB
  go_upto_region 3 with (go_at_call 8; refine (aw_fac _ _ gA).mono ?_; rintro e w2 ⟨lo, lc, dO, dc, rfl, gl, gd, hlc, b2⟩)
  have FB := B3.new w2 (.int .i64 2) (.slice lo 1 lc) (.slice dO 2 dc) 26
  have b2' : Below W1.heap.size W1 (w2.alloc (.cells #[.int .i64 2, .slice lo 1 lc, .slice dO 2 dc] 26)) := b2.trans ((below_one _ _).mono b2.size)
  have gl' := row_on gl (.cells #[.int .i64 2, .slice lo 1 lc, .slice dO 2 dc] 26)
  have gd' := row_on gd (.cells #[.int .i64 2, .slice lo 1 lc, .slice dO 2 dc] 26)
  generalize w2.alloc (.cells #[.int .i64 2, .slice lo 1 lc, .slice dO 2 dc] 26) = W2 at *
  generalize w2.heap.size = PF at *
  replace MB := MB.below b2'
  replace gA := gA.below b2'
  clear m0 m1 m2 gl gd b2
  have BB2 := BB.trans (b2'.mono BB.size)
  clear BB b2'
  obtain ⟨f0, f1, f2, _⟩ := id FB
  go_upto_region 4 with (go_at_call 13; refine (aw_times _ _ _ _ _ gl' gd' hlc).mono ?_; rintro e w3 ⟨zo, zc, rfl, gx, b3⟩)
  have XB := B3.new w3 (.int .i64 2) (.int .i64 2) (.slice zo 4 zc) 24
  have b3' : Below W2.heap.size W2 (w3.alloc (.cells #[.int .i64 2, .int .i64 2, .slice zo 4 zc] 24)) := b3.trans ((below_one _ _).mono b3.size)
  have gx' := row_on gx (.cells #[.int .i64 2, .int .i64 2, .slice zo 4 zc] 24)
  generalize w3.alloc (.cells #[.int .i64 2, .int .i64 2, .slice zo 4 zc] 24) = W3 at *
  generalize w3.heap.size = PX at *
  replace MB := MB.below b3'
  replace gA := gA.below b3'
  replace FB := FB.below b3'
  replace gl' := gl'.below b3'
  replace gd' := gd'.below b3'
  have BB3 := BB2.trans (b3'.mono BB2.size)
  clear f0 f1 f2 gx b3 b3' BB2
  go_upto_region 5 with (go_at_call 8; refine (aw_fac2 _ _ (row_at rfl rfl)).mono ?_; rintro e w4 ⟨rfl, b4⟩)
  have b5 : Below W3.heap.size W3 (w4.alloc (.cells #[.int .i64 0, .slice none 0 0, .slice none 0 0] 26)) := (old_one b4).trans ((below_one _ _).mono (old_one b4).size)
  generalize w4.alloc (.cells #[.int .i64 0, .slice none 0 0, .slice none 0 0] 26) = W4 at *
  replace MB := MB.below b5
  replace gA := gA.below b5
  replace FB := FB.below b5
  replace XB := XB.below b5
  replace gl' := gl'.below b5
  replace gd' := gd'.below b5
  replace gx' := gx'.below b5
  have BB4 := BB3.trans (b5.mono BB3.size)
  clear b4 b5 BB3
  obtain ⟨m0, m1, m2, _⟩ := id MB
  obtain ⟨f0, f1, f2, _⟩ := id FB
  obtain ⟨x0, x1, x2, _⟩ := id XB
  go_wp2_with (first
    | (go_at_call 10; refine (aw_sf _ _ _ _ _ _ _ (row_on (row_on gl' _) _) (row_on (row_on gd' _) _) (row_on (row_at rfl rfl) _) (row_at (by go_simp) rfl)).mono ?_; rintro e w5 ⟨rfl, b6⟩; have b7 := old_two b6; have MB5 := MB.below b7; have XB5 := XB.below b7; obtain ⟨m0', m1', m2', _⟩ := id MB5; obtain ⟨x0', x1', x2', _⟩ := id XB5)
    | (go_at_call 17; refine (aw_smx _ _ _ _ _ (gx'.below b7) (gA.below b7)).mono ?_; rintro e w6 ⟨rfl, b8⟩))
  go_ret
  have BB5 := BB4.trans (b7.mono BB4.size)
  exact ⟨rfl, BB5.trans (b8.mono BB5.size)⟩
end Go.Proofs.Ytpllknjomjbpnaa

namespace Go.Proofs.Ytpllknjomjbpnaa
open Go.RowKit

/-- A square matrix handed back in new memory. -/
def GaveM (w : World) (e : Ending) (w' : World) : Prop := ∃ (N : Nat) (ys : List Nat) (g : Nat), e = .returned (mxV N N (some ⟨g, 0, none⟩) ys.length ys.length) ∧ GRow w' (some ⟨g, 0, none⟩) ys ∧ FW ys ∧ N ≤ 48 ∧ ys.length = N * N ∧ w.heap.size ≤ g ∧ Below w.heap.size w w'
/-- The argument's box, the answer's, the new matrix's, and its row. -/
structure MiS (w wr : World) (x0 x1 x2 : Value) (M g N NN : Nat) (z : Nat → Nat) : Prop where
  abox : B3 wr w.heap.size x0 x1 x2
  res : B3 wr (w.heap.size + 1) (.int .i64 0) (.int .i64 0) (.slice none 0 0)
  mbox : B3 wr M (.int .i64 N) (.int .i64 N) (.slice (some ⟨g, 0, none⟩) NN NN)
  row : RRow wr g NN z
  lt : g < wr.heap.size
  lo' : w.heap.size + 1 < g
  ne : g ≠ M
  below : Below w.heap.size w wr
  wd : ∀ p, z p < 18446744073709551616
variable {w wr w1 : World} {x0 x1 x2 : Value} {M g N NN : Nat} {z : Nat → Nat}
theorem MiS.later (h : MiS w wr x0 x1 x2 M g N NN z) (hb : Below wr.heap.size wr w1) : MiS w w1 x0 x1 x2 M g N NN z :=
  ⟨h.abox.below hb, h.res.below hb, h.mbox.below hb, h.row.below hb h.lt, Nat.lt_of_lt_of_le h.lt hb.size, h.lo', h.ne, h.below.trans (hb.mono h.below.size), h.wd⟩
theorem MiS.set (h : MiS w wr x0 x1 x2 M g N NN z) (q : Nat) {r : Nat} (hr : r < 18446744073709551616) : MiS w (wr.setCell ⟨g, q, none⟩ (.float .f64 r)) x0 x1 x2 M g N NN (fun p => if p = q then r else z p) := by
  have := h.lo'
  exact ⟨h.abox.far (by omega) _, h.res.far (by omega) _, h.mbox.far h.ne _, h.row.set q r, by rw [set_same_size]; exact h.lt, h.lo', h.ne, h.below.setCell (by show w.heap.size ≤ g; omega) _, word_setD h.wd hr⟩
set_option maxRecDepth 100000 in
set_option maxHeartbeats 4000000 in
theorem lmir_any (r c : Int) (xs : List Nat) (ao : Option Addr) (cap : Nat) (w : World) (hr : GRow w ao xs) (hF : FW xs) :
    Calls Try.prog 11 #[mxV r c ao xs.length cap] w (GaveM w) := by
  have S0 : B3 ((w.alloc (.cells #[.int .i64 r, .int .i64 c, .slice ao xs.length cap] 24)).alloc (.cells #[.int .i64 0, .int .i64 0, .slice none 0 0] 24)) w.heap.size (.int .i64 r) (.int .i64 c) (.slice ao xs.length cap) := (B3.new _ _ _ _ _).alloc _
  have R0 : B3 ((w.alloc (.cells #[.int .i64 r, .int .i64 c, .slice ao xs.length cap] 24)).alloc (.cells #[.int .i64 0, .int .i64 0, .slice none 0 0] 24)) (w.heap.size + 1) (.int .i64 0) (.int .i64 0) (.slice none 0 0) := B3.newAt (by go_simp) _ _ _ _
  have B0 : Below w.heap.size w ((w.alloc (.cells #[.int .i64 r, .int .i64 c, .slice ao xs.length cap] 24)).alloc (.cells #[.int .i64 0, .int .i64 0, .slice none 0 0] 24)) := old_two (Below.refl _ _)
  go_enter Try.func11, Try.ntmps11
  go_upto_block 0 with fail
  generalize (w.alloc (.cells #[.int .i64 r, .int .i64 c, .slice ao xs.length cap] 24)).alloc (.cells #[.int .i64 0, .int .i64 0, .slice none 0 0] 24) = W0 at *
  go_cut [3] from 7 (fun s3 wx => ∃ N : Nat, s3 = .int .i64 N ∧ N ≤ 48 ∧ N * N ≤ xs.length ∧ wx = W0)
  case first =>
    go_wp2_with fail
    go_loopg [3] 48 (fun gg s3 wr => ∃ k : Nat, k ≤ 48 ∧ gg = 48 - k ∧ s3 = .int .i64 k ∧ Hid (k * k ≤ xs.length) ∧ wr = W0)
    case atStart => exact ⟨0, Nat.zero_le _, rfl, rfl, Nat.zero_le _, rfl⟩
    case round =>
      obtain ⟨k, hk, hg, rfl, hkk, h'⟩ := hrel
      subst wr
      have HG : Hid (gk = 48 - k) := hg
      clear hg
      obtain ⟨a0, a1, a2, _⟩ := id S0
      by_cases h1 : (k : Int) < 48
      · obtain ⟨q, hq⟩ : ∃ q, (k + 1) * (k + 1) = q := ⟨_, rfl⟩
        have hqb : q ≤ 2304 := by rw [← hq]; exact mul48 (show k + 1 ≤ 48 by omega) (by omega)
        have eM : ((k : Int) + 1) * ((k : Int) + 1) = (q : Int) := by
          rw [← hq]; push_cast; rfl
        have HQ : Hid ((k + 1) * (k + 1) = q) := hq
        clear hq
        by_cases h2 : (q : Int) ≤ (xs.length : Int)
        · by_cases h3 : (k : Int) < r
          · go_wp2
            go_roundg (48 - (k + 1))
            case measure => rw [HG.out]; omega
            case rel => exact ⟨k + 1, by omega, rfl, by go_num, (show (k + 1) * (k + 1) ≤ xs.length by rw [HQ.out]; omega), rfl⟩
          · go_wp2
            go_meet
            exact ⟨k, rfl, hk, hkk.out, rfl⟩
        · go_wp2
          go_meet
          exact ⟨k, rfl, hk, hkk.out, rfl⟩
      · go_wp2
        go_meet
        exact ⟨k, rfl, hk, hkk.out, rfl⟩
  obtain ⟨N, rfl, hN, hNN, h'⟩ := hcut
  subst wc
  obtain ⟨NN, hNe⟩ : ∃ NN, N * N = NN := ⟨_, rfl⟩
  rw [hNe] at hNN
  have hNb : NN ≤ 2304 := by rw [← hNe]; exact mul48 hN hN
  have eM : (N : Int) * (N : Int) = (NN : Int) := by rw [mulI, hNe]
  have HNN : Hid (N * N = NN) := hNe
  clear hNe
  have hmk := run_make_row' (P := Try.prog) 22 38 (.float .f64 0) 8 Try.underlying22 Try.infoF rfl .i64 .i64 NN (by omega) (by omega)
  go_upto_region 4 with fail
  go_cut [4] from 5 (fun s4 wx => ∃ M g, s4 = .pointer (some ⟨M, 0, none⟩) ∧ MiS w wx (.int .i64 r) (.int .i64 c) (.slice ao xs.length cap) M g N NN (fun _ => 0))
  case first =>
    have wz : IntKind.i64.wrap (NN : Int) = (NN : Int) := by rw [IntKind.wrap_i64]; omega
    have sz1 := R0.2.2.2.2.2.2
    go_wp2
    go_meet
    have b3 := old_two (Below.refl _ ((W0.alloc (.cells (madeCells #[.float .f64 0] NN) 38)).alloc (.cells #[.int .i64 N, .int .i64 N, .slice (some ⟨W0.heap.size, 0, none⟩) NN NN] 24)))
    have T0 : MiS w ((W0.alloc (.cells (madeCells #[.float .f64 0] NN) 38)).alloc (.cells #[.int .i64 N, .int .i64 N, .slice (some ⟨W0.heap.size, 0, none⟩) NN NN] 24)) (.int .i64 r) (.int .i64 c) (.slice ao xs.length cap) (W0.heap.size + 1) W0.heap.size N NN (fun _ => 0) :=
    ⟨S0.below b3, R0.below b3, B3.newAt (by go_simp) _ _ _ _, (RRow.made W0 NN).below (below_one _ _) (by go_simp), by go_simp, by omega, by omega, B0.trans (b3.mono B0.size), fun _ => by omega⟩
    exact ⟨_, _, rfl, by first | exact T0 | exact T0.later (Below.refl _ _).drew⟩
  clear S0 R0 B0 hmk eM
  obtain ⟨M, g, rfl, SM⟩ := hcut
  have hst := vstoref Try.prog
  go_wp2
  go_loopg [5] N (fun gg s5 wr => ∃ (i : Nat) (z : Nat → Nat), i ≤ N ∧ gg = N - i ∧ s5 = .int .i64 i ∧ MiS w wr (.int .i64 r) (.int .i64 c) (.slice ao xs.length cap) M g N NN z)
  case atStart => exact ⟨0, _, Nat.zero_le _, rfl, rfl, SM⟩
  case round =>
    clear SM
    obtain ⟨i, z, hi, hg, rfl, S⟩ := hrel
    have HG : Hid (gk = N - i) := hg
    clear hg
    by_cases hlt : i < N
    · have i1 : (i : Int) < (N : Int) := by omega
      go_wp2
      go_loopg [6] (i + 1) (fun gg s6 wr => ∃ (j : Nat) (z : Nat → Nat), j ≤ i + 1 ∧ gg = i + 1 - j ∧ s6 = .int .i64 j ∧ MiS w wr (.int .i64 r) (.int .i64 c) (.slice ao xs.length cap) M g N NN z)
      case atStart => exact ⟨0, z, Nat.zero_le _, rfl, rfl, S⟩
      case round =>
        clear S
        obtain ⟨j, z, hj, hg, rfl, S⟩ := hrel
        have HG2 : Hid (gk = i + 1 - j) := hg
        clear hg
        by_cases hlt2 : j < i + 1
        · have i2 : (j : Int) ≤ (i : Int) := by omega
          have hp1 := at_lt hlt (show j < N by omega)
          have hp2 := at_lt (show j < N by omega) hlt
          rw [HNN.out] at hp1 hp2
          have hm1 := mul48 (show i ≤ 48 by omega) hN
          have hm2 := mul48 (show j ≤ 48 by omega) hN
          have e1 : (i : Int) * (N : Int) = ((i * N : Nat) : Int) := mulI
          have e2 : (j : Int) * (N : Int) = ((j * N : Nat) : Int) := mulI
          generalize i * N = p at *
          generalize j * N = q at *
          have hx := hF.at (show p + j < xs.length by omega)
          obtain ⟨b, off, rfl⟩ : ∃ b off, ao = some ⟨b, off, none⟩ := by
            rcases hr with h | ⟨b, off, rfl, _⟩
            · omega
            · exact ⟨b, off, rfl⟩
          have gx := row_to hr S.below (show p + j < xs.length by omega)
          have SC := S.set (p + j) hx
          have gx2 := row_to hr SC.below (show p + j < xs.length by omega)
          have SD := SC.set (q + i) hx
          generalize xs.getD (p + j) 0 = x at *
          have g1 := World.rowIs.cell S.row hp1
          have g2 := World.rowIs.frozen S.row (p + j)
          have g3 := World.rowIs.cell SC.row hp2
          have g4 := World.rowIs.frozen SC.row (q + i)
          obtain ⟨f0, f1, f2, _⟩ := id S.abox
          obtain ⟨m0, m1, m2, _⟩ := id S.mbox
          obtain ⟨f0', f1', f2', _⟩ := id SC.abox
          obtain ⟨m0', m1', m2', _⟩ := id SC.mbox
          have j1 : (p : Int) + (j : Int) < (NN : Int) := by omega
          have j1' : (p : Int) + (j : Int) < (xs.length : Int) := by omega
          have j2 : (q : Int) + (i : Int) < (NN : Int) := by omega
          have j3 : ((p : Int) + (j : Int)).toNat = p + j := by omega
          have j4 : ((q : Int) + (i : Int)).toNat = q + i := by omega
          have hdc : ∀ (W : World) a, W.drew.cell? a = W.cell? a := fun _ _ => rfl
          have hdf : ∀ (W : World) a, W.drew.frozen? a = W.frozen? a := fun _ _ => rfl
          have w1 : IntKind.i64.wrap (p : Int) = (p : Int) := by rw [IntKind.wrap_i64]; omega
          have w2 : IntKind.i64.wrap ((p : Int) + (j : Int)) = (p : Int) + (j : Int) := by rw [IntKind.wrap_i64]; omega
          have w3 : IntKind.i64.wrap (q : Int) = (q : Int) := by rw [IntKind.wrap_i64]; omega
          have w4 : IntKind.i64.wrap ((q : Int) + (i : Int)) = (q : Int) + (i : Int) := by rw [IntKind.wrap_i64]; omega
          have n0 := S.lo'
          have n1 : ¬ g = w.heap.size := by omega
          have n2 : ¬ w.heap.size = g := by omega
          have n3 : ¬ g = M := S.ne
          have n4 : ¬ M = g := fun e => S.ne e.symm
          have n5 : ¬ b = g := fun e => by
            have h2 := World.block_lt_of_cell? w _ (row_to hr (Below.refl _ _) (show p + j < xs.length by omega))
            have h3 : b < w.heap.size := h2
            omega
          have n6 : ¬ g = b := fun e => n5 e.symm
          have SD2 := (SC.later (Below.refl _ _).drew).set (q + i) hx
          have SD3 := SD.later (Below.refl _ _).drew
          have SD4 := SD2.later (Below.refl _ _).drew
          go_wp2
          first | (go_region_held (fun w' => w'.cell? ⟨w.heap.size, 2, none⟩ = some (.slice (some ⟨b, off, none⟩) xs.length cap) ∧ w'.cell? ⟨M, 2, none⟩ = some (.slice (some ⟨g, 0, none⟩) NN NN) ∧ w'.cell? ⟨b, off + (p + j), none⟩ = some (.float .f64 x)) (go_keep) (fail)) | fail
          go_wp2
          first | (go_region_held (fun w' => w'.cell? ⟨w.heap.size, 2, none⟩ = some (.slice (some ⟨b, off, none⟩) xs.length cap) ∧ w'.cell? ⟨M, 2, none⟩ = some (.slice (some ⟨g, 0, none⟩) NN NN) ∧ w'.cell? ⟨b, off + (p + j), none⟩ = some (.float .f64 x)) (go_keep) (fail)) | fail
          go_wp2
          go_roundg (i + 1 - (j + 1))
          case measure => rw [HG2.out]; omega
          case rel => exact ⟨j + 1, _, by omega, rfl, by go_num, by first | exact SD | exact SD2 | exact SD3 | exact SD4 | exact SD4.later (Below.refl _ _).drew | exact SD3.later (Below.refl _ _).drew⟩
        · have i2 : ¬ (j : Int) ≤ (i : Int) := by omega
          go_wp2
          go_roundg (N - (i + 1))
          case measure => rw [HG.out]; omega
          case rel => exact ⟨i + 1, z, by omega, rfl, by go_num, S⟩
    · have i1 : ¬ (i : Int) < (N : Int) := by omega
      obtain ⟨t0, t1, t2, s0, s1, s2, _⟩ := id S.res
      obtain ⟨m0, m1, m2, _⟩ := id S.mbox
      have hgo := S.lo'
      go_wp2
      exact bodyPost_ret (v := mxV N N (some ⟨g, 0, none⟩) NN NN) (by simp [results, Try.results11, go_sem, t0, t1, t2]) rfl ⟨N, toL' NN z, g, by rw [toL'_len], (row_three S.row (show g ≠ w.heap.size + 1 by omega) _ _ _).grow (toL'_len _ _) (fun j hj => toL'_at hj), toL'_fw S.wd, hN, by rw [toL'_len, HNN.out], by omega, set_three S.below (by omega) _ _ _⟩
end Go.Proofs.Ytpllknjomjbpnaa
