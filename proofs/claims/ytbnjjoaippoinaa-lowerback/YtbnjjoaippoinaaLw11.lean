/- awake of layer 12: the chapter's examples. -/
import Derived.Test.YtbnjjoaippoinaaU5
import Derived.Test.YtbnjjoaippoinaaA1
namespace Go.Proofs.Ytbnjjoaippoinaa
open Go.RowKit

/-- 4 2 / 2 5; 4 2 / 2 1. -/
def awA : List Nat := [4616189618054758400, 4611686018427387904, 4611686018427387904, 4617315517961601024]
def awB : List Nat := [4616189618054758400, 4611686018427387904, 4611686018427387904, 4607182418800017408]
theorem awA_res : Res 2 2 awA 0 0 (fun _ _ => 4602678819172646912) (fun _ => 4616189618054758400) := by
  refine Or.inr (Or.inr ⟨by kernel_rfl, by kernel_rfl, Or.inl ⟨rfl, rfl, fun j hj => ?_⟩⟩)
  have hj : j < 2 := hj
  have : j = 0 ∨ j = 1 := by omega
  rcases this with rfl | rfl
  · refine ⟨by kernel_rfl, by kernel_rfl, fun i h1 h2 => ?_⟩
    have h2 : i < 2 := h2
    have : i = 1 := by omega
    subst this
    exact ⟨by kernel_rfl, by kernel_rfl⟩
  · refine ⟨by kernel_rfl, by kernel_rfl, fun i h1 h2 => ?_⟩
    have h2 : i < 2 := h2
    omega
theorem awB_res : Res 2 2 awB 220 1 (fun _ _ => 4602678819172646912) (fun _ => 4616189618054758400) := by
  refine Or.inr (Or.inr ⟨by kernel_rfl, by kernel_rfl, Or.inr (Or.inl ⟨rfl, by decide, fun j hj => ?_, by kernel_rfl⟩)⟩)
  have : j = 0 := by omega
  subst this
  refine ⟨by kernel_rfl, by kernel_rfl, fun i h1 h2 => ?_⟩
  have h2 : i < 2 := h2
  have : i = 1 := by omega
  subst this
  exact ⟨by kernel_rfl, by kernel_rfl⟩
theorem aw_len1 {ls : List Nat} (h : ls.length = 1) : ls = [ls.getD 0 0] := by
  match ls, h with
  | [x], _ => rfl
theorem aw_len2 {ls : List Nat} (h : ls.length = 2) : ls = [ls.getD 0 0, ls.getD 1 0] := by
  match ls, h with
  | [x, y], _ => rfl
theorem aw_fac (ao : Option Addr) (w : World) (h : GRow w ao awA) : Calls Try.prog 8 #[mxV 2 2 ao 4 4] w fun e w' => ∃ lo lc dO dc, e = .returned (.tuple #[fcV 2 lo 1 lc dO 2 dc, .int .i64 0, .int .i64 0]) ∧ GRow w' lo [4602678819172646912] ∧ GRow w' dO [4616189618054758400, 4616189618054758400] ∧ 1 ≤ lc ∧ Below w.heap.size w w' := by
  refine Calls.mono (lfactor_any 2 2 awA ao 4 w h (fw_lit _ (by decide)) (by decide)) ?_
  rintro e w' ⟨er, row, f, d, v, hR, rfl, hB, _, h0⟩
  obtain ⟨e1, e2, e3⟩ := res_one hR awA_res
  obtain ⟨hf, hd⟩ := e3 e1
  obtain ⟨h1, N, hN, _, ls, ds, lo, lc, dO, dc, rfl, g1, g2, _, _, g5, g6, g7, _, _, _, _, _, g8, g9⟩ := h0 e1
  have eN : N = 2 := by omega
  subst eN
  have eL1 : ls = [4602678819172646912] := by
    rw [aw_len1 (show ls.length = 1 from g5)]
    have := g8 1 0 (by omega) (by omega)
    rw [hf 0 1 (by omega) (by decide)] at this
    rw [show ls.getD 0 0 = 4602678819172646912 from this]
  have eD1 : ds = [4616189618054758400, 4616189618054758400] := by
    rw [aw_len2 g6, g9 0 (by omega), g9 1 (by omega), hd 0 (by decide), hd 1 (by decide)]
  subst eL1 eD1 e1 e2
  exact ⟨lo, lc, dO, dc, rfl, g1, g2, g7, hB⟩
theorem aw_fac2 (ao : Option Addr) (w : World) (h : GRow w ao awB) : Calls Try.prog 8 #[mxV 2 2 ao 4 4] w fun e w' => e = .returned (.tuple #[fcV 0 none 0 0 none 0 0, .int .i64 220, .int .i64 1]) ∧ Below w.heap.size w w' := by
  refine Calls.mono (lfactor_any 2 2 awB ao 4 w h (fw_lit _ (by decide)) (by decide)) ?_
  rintro e w' ⟨er, row, f, d, v, hR, rfl, hB, hv, _⟩
  obtain ⟨e1, e2, _⟩ := res_one hR awB_res
  subst e1 e2
  rw [hv (by decide)]
  exact ⟨rfl, hB⟩
theorem aw_tiA : tiA 2 [4602678819172646912] [4616189618054758400, 4616189618054758400] = ⟨2, 2, awA.map some, 0⟩ := by kernel_rfl
theorem aw_times (lo dO : Option Addr) (lc dc : Nat) (w : World) (h1 : GRow w lo [4602678819172646912]) (h2 : GRow w dO [4616189618054758400, 4616189618054758400]) (hc : 1 ≤ lc) : Calls Try.prog 13 #[fcV 2 lo 1 lc dO 2 dc] w fun e w' => ∃ zo zc, e = .returned (.tuple #[mxV 2 2 zo 4 zc, .int .i64 0]) ∧ GRow w' zo awA ∧ Below w.heap.size w w' := by
  have h := ltimes_any 2 [4602678819172646912] [4616189618054758400, 4616189618054758400] lo dO lc dc w h1 h2 (fw_lit _ (by decide)) (fw_lit _ (by decide)) hc
  rw [aw_tiA] at h
  refine Calls.mono h ?_
  rintro e w' ⟨_, rfl, zo, zc, zs, rfl, k2, k3, _, _, k6⟩
  have e2 := LN_some k2
  subst e2
  exact ⟨zo, zc, rfl, k3, k6⟩
theorem aw_sf (lo dO lo' do' : Option Addr) (lc dc : Nat) (w : World) (h1 : GRow w lo [4602678819172646912]) (h2 : GRow w dO [4616189618054758400, 4616189618054758400]) (h3 : GRow w lo' [4602678819172646912]) (h4 : GRow w do' [4616189618054758400, 4616189618054758400]) :
    Calls Try.prog 10 #[fcV 2 lo 1 lc dO 2 dc, fcV 2 lo' 1 1 do' 2 2] w fun e w' => e = .returned (.bool true) ∧ Below w.heap.size w w' :=
  sfac_any 2 [4602678819172646912] [4616189618054758400, 4616189618054758400] [4602678819172646912] [4616189618054758400, 4616189618054758400] lo dO lo' do' lc dc 1 2 w h1 h2 h3 h4 (fw_lit _ (by decide)) (fw_lit _ (by decide)) (fw_lit _ (by decide)) (fw_lit _ (by decide)) (by decide) (by decide) (by decide) (by decide) (by kernel_rfl) (by kernel_rfl)
theorem aw_smx (ao bo : Option Addr) (cap cap2 : Nat) (w : World) (h1 : GRow w ao awA) (h2 : GRow w bo awA) : Calls Try.prog 17 #[mxV 2 2 ao 4 cap, mxV 2 2 bo 4 cap2] w fun e w' => e = .returned (.bool true) ∧ Below w.heap.size w w' := by
  have h := ksame_any 2 2 awA 2 2 awA ao bo cap cap2 w h1 h2 (fw_lit _ (by decide)) (fw_lit _ (by decide)) (by decide) (by decide)
  rw [show sameM 2 2 awA 2 2 awA = true by kernel_rfl] at h
  exact h
set_option maxRecDepth 100000 in
set_option maxHeartbeats 2000000 in
theorem lawake (w : World) : Calls Try.prog 12 #[] w fun e w' => e = .returned (.bool true) ∧ Below w.heap.size w w' := by
  go_enter Try.func12, Try.ntmps12
  go_upto_region 2 with fail
  have gA : GRow ((w.alloc (.cells #[.float .f64 4616189618054758400, .float .f64 4611686018427387904, .float .f64 4611686018427387904, .float .f64 4617315517961601024] 38)).alloc (.cells #[.int .i64 2, .int .i64 2, .slice (some ⟨w.heap.size, 0, none⟩) 4 4] 24)) (some ⟨w.heap.size, 0, none⟩) awA := row_on (row_at rfl rfl) _
  have MB : B3 ((w.alloc (.cells #[.float .f64 4616189618054758400, .float .f64 4611686018427387904, .float .f64 4611686018427387904, .float .f64 4617315517961601024] 38)).alloc (.cells #[.int .i64 2, .int .i64 2, .slice (some ⟨w.heap.size, 0, none⟩) 4 4] 24)) (w.heap.size + 1) (.int .i64 2) (.int .i64 2) (.slice (some ⟨w.heap.size, 0, none⟩) 4 4) := B3.newAt (by go_simp) _ _ _ _
  have BB : Below w.heap.size w ((w.alloc (.cells #[.float .f64 4616189618054758400, .float .f64 4611686018427387904, .float .f64 4611686018427387904, .float .f64 4617315517961601024] 38)).alloc (.cells #[.int .i64 2, .int .i64 2, .slice (some ⟨w.heap.size, 0, none⟩) 4 4] 24)) := old_two (Below.refl _ _)
  generalize (w.alloc (.cells #[.float .f64 4616189618054758400, .float .f64 4611686018427387904, .float .f64 4611686018427387904, .float .f64 4617315517961601024] 38)).alloc (.cells #[.int .i64 2, .int .i64 2, .slice (some ⟨w.heap.size, 0, none⟩) 4 4] 24) = W1 at *
  obtain ⟨m0, m1, m2, _⟩ := id MB
  go_upto_region 3 with (go_at_call 8; refine (aw_fac _ _ gA).mono ?_; rintro e w2 ⟨lo, lc, dO, dc, rfl, gl, gd, hlc, b2⟩)
  have FB := B3.new w2 (.int .i64 2) (.slice lo 1 lc) (.slice dO 2 dc) 26
  have b2' : Below W1.heap.size W1 (w2.alloc (.cells #[.int .i64 2, .slice lo 1 lc, .slice dO 2 dc] 26)) := b2.trans ((below_one _ _).mono b2.size)
  have gl' := row_on gl (.cells #[.int .i64 2, .slice lo 1 lc, .slice dO 2 dc] 26)
  have gd' := row_on gd (.cells #[.int .i64 2, .slice lo 1 lc, .slice dO 2 dc] 26)
  generalize w2.alloc (.cells #[.int .i64 2, .slice lo 1 lc, .slice dO 2 dc] 26) = W2 at *
  generalize w2.heap.size = PF at *
  replace MB := MB.below b2'
  replace gA := gA.below b2'
  clear m0 m1 m2 gl gd b2
  have BB2 := BB.trans (b2'.mono BB.size)
  clear BB b2'
  obtain ⟨f0, f1, f2, _⟩ := id FB
  go_upto_region 4 with (go_at_call 13; refine (aw_times _ _ _ _ _ gl' gd' hlc).mono ?_; rintro e w3 ⟨zo, zc, rfl, gx, b3⟩)
  have XB := B3.new w3 (.int .i64 2) (.int .i64 2) (.slice zo 4 zc) 24
  have b3' : Below W2.heap.size W2 (w3.alloc (.cells #[.int .i64 2, .int .i64 2, .slice zo 4 zc] 24)) := b3.trans ((below_one _ _).mono b3.size)
  have gx' := row_on gx (.cells #[.int .i64 2, .int .i64 2, .slice zo 4 zc] 24)
  generalize w3.alloc (.cells #[.int .i64 2, .int .i64 2, .slice zo 4 zc] 24) = W3 at *
  generalize w3.heap.size = PX at *
  replace MB := MB.below b3'
  replace gA := gA.below b3'
  replace FB := FB.below b3'
  replace gl' := gl'.below b3'
  replace gd' := gd'.below b3'
  have BB3 := BB2.trans (b3'.mono BB2.size)
  clear f0 f1 f2 gx b3 b3' BB2
  go_upto_region 5 with (go_at_call 8; refine (aw_fac2 _ _ (row_at rfl rfl)).mono ?_; rintro e w4 ⟨rfl, b4⟩)
  have b5 : Below W3.heap.size W3 (w4.alloc (.cells #[.int .i64 0, .slice none 0 0, .slice none 0 0] 26)) := (old_one b4).trans ((below_one _ _).mono (old_one b4).size)
  generalize w4.alloc (.cells #[.int .i64 0, .slice none 0 0, .slice none 0 0] 26) = W4 at *
  replace MB := MB.below b5
  replace gA := gA.below b5
  replace FB := FB.below b5
  replace XB := XB.below b5
  replace gl' := gl'.below b5
  replace gd' := gd'.below b5
  replace gx' := gx'.below b5
  have BB4 := BB3.trans (b5.mono BB3.size)
  clear b4 b5 BB3
  obtain ⟨m0, m1, m2, _⟩ := id MB
  obtain ⟨f0, f1, f2, _⟩ := id FB
  obtain ⟨x0, x1, x2, _⟩ := id XB
  go_wp2_with (first
    | (go_at_call 10; refine (aw_sf _ _ _ _ _ _ _ (row_on (row_on gl' _) _) (row_on (row_on gd' _) _) (row_on (row_at rfl rfl) _) (row_at (by go_simp) rfl)).mono ?_; rintro e w5 ⟨rfl, b6⟩; have b7 := old_two b6; have MB5 := MB.below b7; have XB5 := XB.below b7; obtain ⟨m0', m1', m2', _⟩ := id MB5; obtain ⟨x0', x1', x2', _⟩ := id XB5)
    | (go_at_call 17; refine (aw_smx _ _ _ _ _ (gx'.below b7) (gA.below b7)).mono ?_; rintro e w6 ⟨rfl, b8⟩))
  go_ret
  have BB5 := BB4.trans (b7.mono BB4.size)
  exact ⟨rfl, BB5.trans (b8.mono BB5.size)⟩
end Go.Proofs.Ytbnjjoaippoinaa
