/- LikeReals of lists that are equal; two, awake of layer 14. -/
import Derived.Test.YtmbcmhncicbbjaaGreatDoorRf7
namespace Go.Proofs.YtmbcmhncicbbjaaGreatDoor
open Go.RowKit

def lkB (x y : Nat) : Bool := FloatKind.f64.format.order x y == some .eq
set_option maxHeartbeats 1000000 in
theorem like_yes (x y : Nat) (h : lkB x y = true) (w : World) : Calls Tryz.prog 46 #[.float .f64 x, .float .f64 y] w fun e w' => e = .returned (.bool true) ∧ w' = w := by
  have h : (FloatKind.f64.format.order x y == some .eq) = true := h
  go_enter Tryz.func46, Tryz.ntmps46
  go_wp2
  go_ret
  exact ⟨rfl, rfl⟩
set_option maxHeartbeats 1000000 in
theorem likes_yes (n : Nat) (xs ys : List Nat) (lx : xs.length = n) (ly : ys.length = n) (ao bo : Option Addr) (cap cap2 : Nat) (w : World) (hr : GRow w ao xs) (hs : GRow w bo ys) (hn : n ≤ 1125899906842624) (h : ∀ j, j < n → lkB (xs.getD j 0) (ys.getD j 0) = true) :
    Calls Tryz.prog 22 #[.slice ao n cap, .slice bo n cap2] w fun e w' => e = .returned (.bool true) ∧ Below w.heap.size w w' := by
  have HLX : Hid (xs.length = n) := lx
  have HLY : Hid (ys.length = n) := ly
  clear lx ly
  go_enter Tryz.func22, Tryz.ntmps22
  go_wp2
  go_loopg [5] n (fun g i wr => ∃ k : Nat, k ≤ n ∧ g = n - k ∧ i = .int .i64 k ∧ Hid (Below w.heap.size w wr))
  case atStart => exact ⟨0, Nat.zero_le _, rfl, rfl, Below.refl _ _⟩
  case round =>
    obtain ⟨k, hk, hg, rfl, hB⟩ := hrel
    have HG : Hid (gk = n - k) := hg
    clear hg
    by_cases hlt : k < n
    · have l1 : k < xs.length := by rw [HLX.out]; exact hlt
      have l2 : k < ys.length := by rw [HLY.out]; exact hlt
      rcases hr.below hB.out with h' | ⟨b, off, rfl, hc⟩
      · omega
      rcases hs.below hB.out with h' | ⟨b2, off2, rfl, hd⟩
      · omega
      have g1 := hc k l1
      have g2 := hd k l2
      have cs := like_yes _ _ (h k hlt)
      have i1 : (k : Int) < (n : Int) := by omega
      have HD := hB.out.drew
      clear h
      generalize xs.getD k 0 = x at *
      generalize ys.getD k 0 = y at *
      clear hc hd l1 l2
      go_wp2
      go_quiet ((go_at_call 46; exact Calls.quiet_of_same (cs _)))
      go_wp2
      go_roundg (n - (k + 1))
      case measure => rw [HG.out]; omega
      case rel => exact ⟨k + 1, by omega, rfl, by go_num, (show Below _ _ _ from below_drewN hB.out _)⟩
    · have ek : k = n := by omega
      have i1 : ¬ (k : Int) < (n : Int) := by omega
      clear h
      go_wp2
      go_ret
      exact ⟨rfl, hB.out⟩
theorem aw14_l : lfA 2 2 [4616189618054758400, 4607182418800017408, 4607182418800017408, 4613937818241073152] [4607182418800017408, 4607182418800017408] [4618441417868443648, 4616189618054758400] = ([4607182418800017408, 0], 0) := by kernel_rfl
theorem aw14_k : lfA 1 2 [4607182418800017408, 4607182418800017408] [4877398396442247168, 4607182418800017408] [4877398396442247168] = ([13830554455654793216], 0) := by kernel_rfl
theorem aw14_u : unA 2 2 [4616189618054758400, 4607182418800017408, 4607182418800017408, 4613937818241073152] 2 [4598175219545276416] [4616189618054758400, 4613374868287651840] [4617315517961601024, 4616189618054758400] 8 = ([4607182418800017408, 4607182418800017408], 0, 0) := by kernel_rfl
theorem aw14_left (ao xo bo : Option Addr) (w : World) (hT : TabW w) (h1 : GRow w ao [4616189618054758400, 4607182418800017408, 4607182418800017408, 4613937818241073152]) (h2 : GRow w xo [4607182418800017408, 4607182418800017408]) (h3 : GRow w bo [4618441417868443648, 4616189618054758400]) :
    Calls Tryz.prog 10 #[mxV 2 2 ao 4 4, .slice xo 2 2, .slice bo 2 2] w fun e w' => ∃ zo zc, e = .returned (.tuple #[.slice zo 2 zc, .int .i64 0]) ∧ GRow w' zo [4607182418800017408, 0] ∧ Below w.heap.size w w' := by
  have hz : Shp ao 4 := by
    rcases h1 with h | ⟨b, off, rfl, _⟩
    · cases h
    · exact Or.inr (Or.inl ⟨b, off, rfl⟩)
  have h := left_any 2 2 [4616189618054758400, 4607182418800017408, 4607182418800017408, 4613937818241073152] [4607182418800017408, 4607182418800017408] [4618441417868443648, 4616189618054758400] ao xo bo 4 2 2 w hT h1 h2 h3 (fw_lit _ (by decide)) (fw_lit _ (by decide)) (fw_lit _ (by decide)) (by decide) (by decide) (by decide) hz (by decide)
  rw [aw14_l] at h
  refine Calls.mono h ?_
  rintro e w' ⟨zo, zc, rfl, k1, _, _, _, k6⟩
  exact ⟨zo, zc, rfl, k1, k6⟩
theorem aw14_left2 (ao xo bo : Option Addr) (w : World) (hT : TabW w) (h1 : GRow w ao [4607182418800017408, 4607182418800017408]) (h2 : GRow w xo [4877398396442247168, 4607182418800017408]) (h3 : GRow w bo [4877398396442247168]) :
    Calls Tryz.prog 10 #[mxV 1 2 ao 2 2, .slice xo 2 2, .slice bo 1 1] w fun e w' => ∃ zo zc, e = .returned (.tuple #[.slice zo 1 zc, .int .i64 0]) ∧ GRow w' zo [13830554455654793216] ∧ Below w.heap.size w w' := by
  have hz : Shp ao 2 := by
    rcases h1 with h | ⟨b, off, rfl, _⟩
    · cases h
    · exact Or.inr (Or.inl ⟨b, off, rfl⟩)
  have h := left_any 1 2 [4607182418800017408, 4607182418800017408] [4877398396442247168, 4607182418800017408] [4877398396442247168] ao xo bo 2 2 1 w hT h1 h2 h3 (fw_lit _ (by decide)) (fw_lit _ (by decide)) (fw_lit _ (by decide)) (by decide) (by decide) (by decide) hz (by decide)
  rw [aw14_k] at h
  refine Calls.mono h ?_
  rintro e w' ⟨zo, zc, rfl, k1, _, _, _, k6⟩
  exact ⟨zo, zc, rfl, k1, k6⟩
theorem aw14_until (ao lo dO bo : Option Addr) (w : World) (hT : TabW w) (h1 : GRow w ao [4616189618054758400, 4607182418800017408, 4607182418800017408, 4613937818241073152]) (h2 : GRow w lo [4598175219545276416]) (h3 : GRow w dO [4616189618054758400, 4613374868287651840]) (h4 : GRow w bo [4617315517961601024, 4616189618054758400]) :
    Calls Tryz.prog 19 #[mxV 2 2 ao 4 4, fcV 2 lo 1 1 dO 2 2, .slice bo 2 2, .int .i64 8] w fun e w' => ∃ b off zc, e = .returned (.tuple #[.slice (some ⟨b, off, none⟩) 2 zc, .int .i64 0, .int .i64 0]) ∧ w'.cell? ⟨b, off, none⟩ = some (.float .f64 4607182418800017408) ∧ Below w.heap.size w w' := by
  have hz : Shp ao 4 := by
    rcases h1 with h | ⟨b, off, rfl, _⟩
    · cases h
    · exact Or.inr (Or.inl ⟨b, off, rfl⟩)
  have h := until_any 2 2 [4616189618054758400, 4607182418800017408, 4607182418800017408, 4613937818241073152] 2 [4598175219545276416] [4616189618054758400, 4613374868287651840] [4617315517961601024, 4616189618054758400] 8 ao lo dO bo 4 1 2 2 w (by decide) hT h1 h2 h3 h4 (fw_lit _ (by decide)) (fw_lit _ (by decide)) (fw_lit _ (by decide)) (fw_lit _ (by decide)) (by decide) (by decide) hz (by decide)
  rw [aw14_u] at h
  refine Calls.mono h ?_
  rintro e w' ⟨zo, zc, rfl, k1, _, _, _, k6⟩
  rcases k1 with h | ⟨b, off, rfl, hc⟩
  · cases h
  · exact ⟨b, off, zc, rfl, hc 0 (by decide), k6⟩
set_option maxHeartbeats 1000000 in
theorem two14_any (w : World) : Calls Tryz.prog 21 #[] w fun e w' => ∃ ao lo dO, e = .returned (.tuple #[mxV 2 2 ao 4 4, fcV 2 lo 1 1 dO 2 2]) ∧ GRow w' ao [4616189618054758400, 4607182418800017408, 4607182418800017408, 4613937818241073152] ∧ GRow w' lo [4598175219545276416] ∧ GRow w' dO [4616189618054758400, 4613374868287651840] ∧ Below w.heap.size w w' := by
  go_enter Tryz.func21, Tryz.ntmps21
  go_wp2
  exact bodyPost_ret (v := .tuple #[mxV 2 2 (some ⟨w.heap.size + 1 + 1, 0, none⟩) 4 4, fcV 2 (some ⟨w.heap.size + 1 + 1 + 1, 0, none⟩) 1 1 (some ⟨w.heap.size + 1 + 1 + 1 + 1, 0, none⟩) 2 2]) (by simp [results, Tryz.results21, go_sem]) rfl ⟨_, _, _, rfl, row_on (row_on (row_at (by go_simp) rfl) _) _, row_on (row_at (by go_simp) rfl) _, row_at (by go_simp) rfl, old_one (old_two (old_two (Below.refl _ _)))⟩
set_option maxRecDepth 100000 in
set_option maxHeartbeats 2000000 in
theorem awake14 (w : World) (hT : TabW w) : Calls Tryz.prog 6 #[] w fun e w' => e = .returned (.bool true) ∧ Below w.heap.size w w' := by
  go_enter Tryz.func6, Tryz.ntmps6
  go_upto_region 2 with (go_at_call 21; refine (two14_any _).mono ?_; rintro e w1 ⟨ao, lo, dO, rfl, g1, g2, g3, b1⟩)
  have S2 := TwoB.new w1 2 2 ao 4 4 2 lo 1 1 dO 2 2
  generalize (w1.alloc (.cells #[.int .i64 2, .int .i64 2, .slice ao 4 4] 24)).alloc (.cells #[.int .i64 2, .slice lo 1 1, .slice dO 2 2] 36) = WX2 at *
  have B2 := b1.trans (S2.below.mono b1.size)
  have T2 := tabW_below hT B2
  replace g1 := g1.below S2.below
  replace g2 := g2.below S2.below
  replace g3 := g3.below S2.below
  obtain ⟨m0, m1, m2, _⟩ := id S2.mbox
  go_upto_region 3 with (go_at_call 10; refine (aw14_left _ _ _ _ (tabW_alloc (tabW_alloc T2 _) _) (row_on (row_on g1 _) _) (row_on (row_at rfl rfl) _) (row_at (by go_simp) rfl)).mono ?_; rintro e w3 ⟨zo, zc, rfl, g4, b3⟩)
  have S3 := S2.later (old_two b3)
  have B3 := B2.trans ((old_two b3).mono B2.size)
  have T3 := tabW_below hT B3
  replace g1 := g1.below (old_two b3)
  replace g2 := g2.below (old_two b3)
  replace g3 := g3.below (old_two b3)
  clear S2 m0 m1 m2 b3 T2 B2
  obtain ⟨m0, m1, m2, _⟩ := id S3.mbox
  obtain ⟨f0, f1, f2, _⟩ := id S3.fbox
  go_upto_region 4 with (go_at_call 19; refine (aw14_until _ _ _ _ _ (tabW_alloc T3 _) (row_on g1 _) (row_on g2 _) (row_on g3 _) (row_at rfl rfl)).mono ?_; rintro e w4 ⟨ub, uoff, uc, rfl, g5, b4⟩)
  have B4 := B3.trans ((old_one b4).mono B3.size)
  have T4 := tabW_below hT B4
  replace g4 := g4.below (old_one b4)
  clear S3 m0 m1 m2 f0 f1 f2 b4 T3 B3 g1 g2 g3
  go_upto_region 5 with (go_at_call 10; refine (aw14_left2 _ _ _ _ (tabW_alloc (tabW_alloc (tabW_alloc T4 _) _) _) (row_on (row_on (row_at rfl rfl) _) _) (row_on (row_at (by go_simp) rfl) _) (row_at (by go_simp) rfl)).mono ?_; rintro e w5 ⟨ko, kc, rfl, g6, b5⟩)
  have b5' := old_one (old_two b5)
  have B5 := B4.trans (b5'.mono B4.size)
  replace g4 := g4.below b5'
  have hu := World.block_lt_of_cell? w4 _ g5
  replace g5 := (b5'.cell (p := ⟨ub, uoff, none⟩) hu).trans g5
  clear b5 b5' B4 T4
  have cl1 := fun bo w' h1 h2 => likes_yes 2 [4607182418800017408, 0] [4607182418800017408, 0] rfl rfl zo bo zc 2 w' h1 h2 (by decide) (fun j hj => by rcases (show j = 0 ∨ j = 1 by omega) with rfl | rfl <;> decide)
  have cl2 := fun bo w' h1 h2 => likes_yes 1 [13830554455654793216] [13830554455654793216] rfl rfl ko bo kc 1 w' h1 h2 (by decide) (fun j hj => by rcases (show j = 0 by omega) with rfl; decide)
  have o1 : (FloatKind.f64.format.order 4607182418800017408 4607092346807469998 == some .gt) = true := by kernel_rfl
  have o2 : (FloatKind.f64.format.order 4607182418800017408 4607227454796291113 == some .lt) = true := by kernel_rfl
  have hu2 := World.block_lt_of_cell? w5 _ g5
  go_wp2_with (first
    | (go_at_call 22; have q7 := b6; refine (cl2 _ _ (row_on (g6.below b7) _) (row_at rfl rfl)).mono ?_; rintro e w7 ⟨rfl, b8⟩)
    | (go_at_call 22; refine (cl1 _ _ (row_on g4 _) (row_at rfl rfl)).mono ?_; rintro e w6 ⟨rfl, b6⟩; have b7 := old_one b6; have g7 := (b7.cell (p := ⟨ub, uoff, none⟩) hu2).trans g5))
  go_ret
  have B7 := B5.trans (b7.mono B5.size)
  exact ⟨rfl, B7.trans ((old_one b8).mono B7.size)⟩
end Go.Proofs.YtmbcmhncicbbjaaGreatDoor
