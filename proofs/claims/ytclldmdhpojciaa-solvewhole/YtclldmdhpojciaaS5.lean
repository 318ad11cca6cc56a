/- A factor lent. -/
import Derived.Test.YtclldmdhpojciaaS4
import Derived.Test.YtclldmdhpojciaaA1
namespace Go.Proofs.Ytclldmdhpojciaa
open Go.RowKit

set_option maxHeartbeats 1000000 in
theorem is13_any (q : Int) (xs ys : List Nat) (ao bo : Option Addr) (cap cap2 : Nat) (w : World) (hr : GRow w ao xs) (hs : GRow w bo ys) (hF : FW xs) (hG : FW ys) (hn : xs.length ≤ 1125899906842624) (hm : ys.length ≤ 1125899906842624) (h : sameL xs ys = true) :
    Calls Try.prog 16 #[.slice ao xs.length cap, .int .i64 q, .slice bo ys.length cap2, .int .i64 q] w fun e w' => e = .returned (.bool true) ∧ Below w.heap.size w w' := by
  have cs := fun w h1 h2 => sreals_any xs ys ao bo cap cap2 w h1 h2 hF hG hn hm
  rw [h] at cs
  have b1 : (q == q) = true := by simp
  go_enter Try.func16, Try.ntmps16
  go_wp2_with (go_at_call 31; refine (cs _ hr hs).mono ?_; rintro e w1 ⟨rfl, h1⟩)
  go_ret
  exact ⟨rfl, h1⟩
theorem is13_LN (q : Int) {os : List (Option Nat)} {xs ys : List Nat} (hx : LN os xs) (hy : LN os ys) (ao bo : Option Addr) (cap cap2 : Nat) (w : World) (hr : GRow w ao xs) (hs : GRow w bo ys) (hl : os.length ≤ 2304) :
    Calls Try.prog 16 #[.slice ao xs.length cap, .int .i64 q, .slice bo ys.length cap2, .int .i64 q] w fun e w' => e = .returned (.bool true) ∧ Below w.heap.size w w' :=
  is13_any q xs ys ao bo cap cap2 w hr hs hx.fw hy.fw (by rw [hx.1]; omega) (by rw [hy.1]; omega) (hx.same hy)
theorem aw13_s : slA 2 [4611686018427387904] [4607182418800017408, 4616189618054758400] 2 (fun i => toO ([4613937818241073152, 4621819117588971520].getD i 0)) = ([4607182418800017408, 4607182418800017408].map some, 0) := by kernel_rfl
theorem aw13_i : ivA 2 [4611686018427387904] [4607182418800017408, 4616189618054758400] = ⟨2, 2, [4611686018427387904, 13826050856027422720, 13826050856027422720, 4598175219545276416].map some, 0⟩ := by kernel_rfl
theorem aw13_solve (lo dO bo : Option Addr) (w : World) (h1 : GRow w lo [4611686018427387904]) (h2 : GRow w dO [4607182418800017408, 4616189618054758400]) (h3 : GRow w bo [4613937818241073152, 4621819117588971520]) :
    Calls Try.prog 10 #[fcV 2 lo 1 1 dO 2 2, .slice bo 2 2] w fun e w' => ∃ zo zc, e = .returned (.tuple #[.slice zo 2 zc, .int .i64 0]) ∧ GRow w' zo [4607182418800017408, 4607182418800017408] ∧ Below w.heap.size w w' := by
  have h := ssolve_any 2 [4611686018427387904] [4607182418800017408, 4616189618054758400] [4613937818241073152, 4621819117588971520] lo dO bo 1 2 2 (fun i => toO ([4613937818241073152, 4621819117588971520].getD i 0)) w h1 h2 h3 (fw_lit _ (by decide)) (fw_lit _ (by decide)) (fun i hi => toO_NR ((fw_lit _ (by decide) : FW [4613937818241073152, 4621819117588971520]).at hi))
  rw [show [4613937818241073152, 4621819117588971520].length = 2 from rfl, aw13_s] at h
  refine Calls.mono h ?_
  rintro e w' ⟨_, rfl, zo, zc, zs, rfl, k2, k3, _, _, k6⟩
  have e2 := LN_some k2
  subst e2
  exact ⟨zo, zc, rfl, k3, k6⟩
theorem aw13_inv (lo dO : Option Addr) (w : World) (h1 : GRow w lo [4611686018427387904]) (h2 : GRow w dO [4607182418800017408, 4616189618054758400]) :
    Calls Try.prog 15 #[fcV 2 lo 1 1 dO 2 2] w fun e w' => ∃ zo zc, e = .returned (.tuple #[mxV 2 2 zo 4 zc, .int .i64 0]) ∧ GRow w' zo [4611686018427387904, 13826050856027422720, 13826050856027422720, 4598175219545276416] ∧ Below w.heap.size w w' := by
  have h := sinverse_any 2 [4611686018427387904] [4607182418800017408, 4616189618054758400] lo dO 1 2 w h1 h2 (fw_lit _ (by decide)) (fw_lit _ (by decide))
  rw [aw13_i] at h
  refine Calls.mono h ?_
  rintro e w' ⟨_, rfl, zo, zc, zs, rfl, k2, k3, _, _, k6⟩
  have e2 := LN_some k2
  subst e2
  exact ⟨zo, zc, rfl, k3, k6⟩
set_option maxHeartbeats 1000000 in
theorem two13_any (w : World) : Calls Try.prog 45 #[] w fun e w' => ∃ lo dO, e = .returned (fcV 2 lo 1 1 dO 2 2) ∧ GRow w' lo [4611686018427387904] ∧ GRow w' dO [4607182418800017408, 4616189618054758400] ∧ Below w.heap.size w w' := by
  go_enter Try.func45, Try.ntmps45
  go_wp2
  exact bodyPost_ret (v := fcV 2 (some ⟨w.heap.size + 1, 0, none⟩) 1 1 (some ⟨w.heap.size + 1 + 1, 0, none⟩) 2 2) (by simp [results, Try.results45, go_sem]) rfl ⟨_, _, rfl, row_on (row_at (by go_simp) rfl) _, row_at (by go_simp) rfl, old_one (old_two (Below.refl _ _))⟩
set_option maxHeartbeats 1000000 in
theorem awake13 (w : World) : Calls Try.prog 18 #[] w fun e w' => e = .returned (.bool true) ∧ Below w.heap.size w w' := by
  go_enter Try.func18, Try.ntmps18
  go_upto_region 2 with (first
    | (go_at_call 45; refine (two13_any _).mono ?_; rintro e w1 ⟨lo, dO, rfl, g1, g2, b1⟩)
    | (go_at_call 10; refine (aw13_solve _ _ _ _ (row_on g1 _) (row_on g2 _) (row_at rfl rfl)).mono ?_; rintro e w2 ⟨zo, zc, rfl, g3, b2⟩))
  have B2 : Below w.heap.size w w2 := b1.trans ((old_one b2).mono b1.size)
  clear b1 b2 g1 g2
  go_upto_region 3 with (first
    | (go_at_call 45; refine (two13_any _).mono ?_; rintro e w3 ⟨lo', dO', rfl, k1, k2, b3⟩)
    | (go_at_call 15; refine (aw13_inv _ _ _ k1 k2).mono ?_; rintro e w4 ⟨mo, mc, rfl, g4, b4⟩))
  have B4 := b3.trans (b4.mono b3.size)
  have B5 := B4.trans ((below_one w4 (.cells #[.int .i64 2, .int .i64 2, .slice mo 4 mc] 34)).mono B4.size)
  have MB := B3.new w4 (.int .i64 2) (.int .i64 2) (.slice mo 4 mc) 34
  have g5 := g3.below B5
  have g6 := row_on g4 (.cells #[.int .i64 2, .int .i64 2, .slice mo 4 mc] 34)
  have B6 := B2.trans (B5.mono B2.size)
  generalize w4.alloc (.cells #[.int .i64 2, .int .i64 2, .slice mo 4 mc] 34) = W at *
  generalize w4.heap.size = PM at *
  clear B2 B4 B5 b3 b4 g3 g4 k1 k2
  have c1 := fun bo w' h1 h2 => is13_any 0 [4607182418800017408, 4607182418800017408] [4607182418800017408, 4607182418800017408] zo bo zc 2 w' h1 h2 (fw_lit _ (by decide)) (fw_lit _ (by decide)) (by decide) (by decide) (by kernel_rfl)
  have c2 := fun bo w' h1 h2 => sreals_any [4611686018427387904, 13826050856027422720, 13826050856027422720, 4598175219545276416] [4611686018427387904, 13826050856027422720, 13826050856027422720, 4598175219545276416] mo bo mc 4 w' h1 h2 (fw_lit _ (by decide)) (fw_lit _ (by decide)) (by decide) (by decide)
  rw [show sameL [4611686018427387904, 13826050856027422720, 13826050856027422720, 4598175219545276416] [4611686018427387904, 13826050856027422720, 13826050856027422720, 4598175219545276416] = true by kernel_rfl] at c2
  go_wp2_with (first
    | (go_at_call 16; refine (c1 _ _ (row_on g5 _) (row_at rfl rfl)).mono ?_; rintro e w5 ⟨rfl, b5⟩; have b6 := old_one b5; have MB5 := MB.below b6; obtain ⟨m0, m1, m2, _⟩ := id MB5)
    | (go_at_call 31; refine (c2 _ _ (row_on (g6.below b6) _) (row_at rfl rfl)).mono ?_; rintro e w6 ⟨rfl, b7⟩; have b8 := old_one b7))
  go_ret
  have B7 := B6.trans (b6.mono B6.size)
  exact ⟨rfl, B7.trans (b8.mono B7.size)⟩
end Go.Proofs.Ytclldmdhpojciaa

namespace Go.Proofs.Ytclldmdhpojciaa
open Go.RowKit

theorem B3.putB {w : World} {b : Nat} {x y z : Value} (h : B3 w b x y z) (v : Value) : B3 (w.setCell ⟨b, 1, none⟩ v) b x v z := by
  obtain ⟨h0, h1, h2, g0, g1, g2, h5⟩ := h
  exact ⟨(World.cell?_setCell_other w _ _ v (by simp)).trans h0, World.cell?_setCell_same w _ v h1, (World.cell?_setCell_other w _ _ v (by simp)).trans h2, by simp [go_sem, g0], by simp [go_sem, g1], by simp [go_sem, g2], by simp [go_sem]; exact h5⟩
theorem B3.putC {w : World} {b : Nat} {x y z : Value} (h : B3 w b x y z) (v : Value) : B3 (w.setCell ⟨b, 2, none⟩ v) b x y v := by
  obtain ⟨h0, h1, h2, g0, g1, g2, h5⟩ := h
  exact ⟨(World.cell?_setCell_other w _ _ v (by simp)).trans h0, (World.cell?_setCell_other w _ _ v (by simp)).trans h1, World.cell?_setCell_same w _ v h2, by simp [go_sem, g0], by simp [go_sem, g1], by simp [go_sem, g2], by simp [go_sem]; exact h5⟩
set_option maxHeartbeats 2000000 in
theorem lentFc_any (n : Int) (ls ds : List Nat) (lo dO : Option Addr) (lc dc : Nat) (w : World) (hL : GRow w lo ls) (hD : GRow w dO ds) (zl : lo = none → lc = 0 ∧ ls.length = 0) (zd : dO = none → dc = 0 ∧ ds.length = 0) (nl : ls.length ≤ 17592186044416) (nd : ds.length ≤ 17592186044416) :
    Calls Try.prog 19 #[fcV n lo ls.length lc dO ds.length dc] w fun e w' => ∃ g h, e = .returned (fcV n (some ⟨g, 0, none⟩) ls.length (ls.length + 12) (some ⟨h, 0, none⟩) ds.length (ds.length + 12)) ∧ LentF w' g ls ∧ LentF w' h ds ∧ w.heap.size ≤ g ∧ w.heap.size ≤ h ∧ Below w.heap.size w w' := by
  have c1 := fun W h => lentR_any ls lo lc W h zl nl
  have c2 := fun W h => lentR_any ds dO dc W h zd nd
  have hb0 : ∀ o p, Below w.heap.size w ((w.alloc o).alloc p) := fun o p => old_two (Below.refl _ _)
  go_enter Try.func19, Try.ntmps19
  go_upto_region 1 with fail
  have MB := (B3.new w (.int .i64 n) (.slice lo ls.length lc) (.slice dO ds.length dc) 27).alloc (.cells #[.int .i64 0, .slice none 0 0, .slice none 0 0] 27)
  have RB := B3.newAt (w := w.alloc (.cells #[.int .i64 n, .slice lo ls.length lc, .slice dO ds.length dc] 27)) (n := w.heap.size + 1) (by go_simp) (.int .i64 0) (.slice none 0 0) (.slice none 0 0) 27
  have BB := hb0 (.cells #[.int .i64 n, .slice lo ls.length lc, .slice dO ds.length dc] 27) (.cells #[.int .i64 0, .slice none 0 0, .slice none 0 0] 27)
  have hsz : w.heap.size + 1 < ((w.alloc (.cells #[.int .i64 n, .slice lo ls.length lc, .slice dO ds.length dc] 27)).alloc (.cells #[.int .i64 0, .slice none 0 0, .slice none 0 0] 27)).heap.size := by go_simp
  generalize (w.alloc (.cells #[.int .i64 n, .slice lo ls.length lc, .slice dO ds.length dc] 27)).alloc (.cells #[.int .i64 0, .slice none 0 0, .slice none 0 0] 27) = W0 at *
  clear hb0
  obtain ⟨m0, m1, m2, _⟩ := id MB
  go_upto_region 2 with (go_at_call 20; refine (c1 _ (hL.below BB)).mono ?_; rintro e w1 ⟨rfl, l1, b1⟩; have MB1 := MB.below b1; have RB1 := RB.below b1; obtain ⟨x0, x1, x2, y0, y1, y2, _⟩ := id MB1; have B1 := BB.trans (b1.mono BB.size))
  have MB2 := MB1.putB (.slice (some ⟨W0.heap.size, 0, none⟩) ls.length (ls.length + 12))
  have RB2 := RB1.far (c := w.heap.size) (by omega) (o := 1) (.slice (some ⟨W0.heap.size, 0, none⟩) ls.length (ls.length + 12))
  have L2 := l1.far (c := w.heap.size) (by omega) 1 (.slice (some ⟨W0.heap.size, 0, none⟩) ls.length (ls.length + 12))
  have B2 := B1.setCell (p := ⟨w.heap.size, 1, none⟩) (Nat.le_refl _) (.slice (some ⟨W0.heap.size, 0, none⟩) ls.length (ls.length + 12))
  have hg := L2.lt
  generalize w1.setCell ⟨w.heap.size, 1, none⟩ (.slice (some ⟨W0.heap.size, 0, none⟩) ls.length (ls.length + 12)) = W1 at *
  generalize W0.heap.size = g at *
  clear m0 m1 m2 x0 x1 x2 y0 y1 y2 MB1 RB1 l1 b1 B1 MB RB BB
  obtain ⟨m0, m1, m2, _⟩ := id MB2
  go_upto_region 3 with (go_at_call 20; refine (c2 _ (hD.below B2)).mono ?_; rintro e w2 ⟨rfl, l2, b2⟩; have MB3 := MB2.below b2; have RB3 := RB2.below b2; have L3 := L2.below b2; obtain ⟨x0, x1, x2, y0, y1, y2, _⟩ := id MB3; have B3' := B2.trans (b2.mono B2.size))
  have MB4 := MB3.putC (.slice (some ⟨W1.heap.size, 0, none⟩) ds.length (ds.length + 12))
  have RB4 := RB3.far (c := w.heap.size) (by omega) (o := 2) (.slice (some ⟨W1.heap.size, 0, none⟩) ds.length (ds.length + 12))
  have L4 := L3.far (c := w.heap.size) (by omega) 2 (.slice (some ⟨W1.heap.size, 0, none⟩) ds.length (ds.length + 12))
  have D4 := l2.far (c := w.heap.size) (by omega) 2 (.slice (some ⟨W1.heap.size, 0, none⟩) ds.length (ds.length + 12))
  have B4 := B3'.setCell (p := ⟨w.heap.size, 2, none⟩) (Nat.le_refl _) (.slice (some ⟨W1.heap.size, 0, none⟩) ds.length (ds.length + 12))
  generalize w2.setCell ⟨w.heap.size, 2, none⟩ (.slice (some ⟨W1.heap.size, 0, none⟩) ds.length (ds.length + 12)) = W2 at *
  generalize W1.heap.size = h at *
  clear m0 m1 m2 x0 x1 x2 y0 y1 y2 MB2 RB2 MB3 RB3 L2 L3 l2 b2 B2 B3'
  obtain ⟨m0, m1, m2, _⟩ := id MB4
  obtain ⟨t0, t1, t2, s0, s1, s2, _⟩ := id RB4
  go_wp2
  exact bodyPost_ret (v := fcV n (some ⟨g, 0, none⟩) ls.length (ls.length + 12) (some ⟨h, 0, none⟩) ds.length (ds.length + 12)) (by simp [results, Try.results19, go_sem, t0, t1, t2]) rfl ⟨g, h, rfl, ((L4.far (by omega) _ _).far (by omega) _ _).far (by omega) _ _, ((D4.far (by omega) _ _).far (by omega) _ _).far (by omega) _ _, by omega, by omega, set_three B4 (by omega) _ _ _⟩
set_option maxHeartbeats 1000000 in
/-- Two factors that are alike. -/
theorem sfacL_any (n : Int) (ls ds ls' ds' : List Nat) (lo dO lo' do' : Option Addr) (lc dc lc' dc' : Nat) (w : World) (h1 : GRow w lo ls) (h2 : GRow w dO ds) (h3 : GRow w lo' ls') (h4 : GRow w do' ds') (f1 : FW ls) (f2 : FW ds) (f3 : FW ls') (f4 : FW ds')
    (n1 : ls.length ≤ 1125899906842624) (n2 : ds.length ≤ 1125899906842624) (n3 : ls'.length ≤ 1125899906842624) (n4 : ds'.length ≤ 1125899906842624) (e1 : sameL ls ls' = true) (e2 : sameL ds ds' = true) :
    Calls Try.prog 50 #[fcV n lo ls.length lc dO ds.length dc, fcV n lo' ls'.length lc' do' ds'.length dc'] w fun e w' => e = .returned (.bool true) ∧ Below w.heap.size w w' := by
  have hb : ∀ o p, Below w.heap.size w ((w.alloc o).alloc p) := fun o p => old_two (Below.refl _ _)
  have c1 := fun W g1 g2 => sreals_any ls ls' lo lo' lc lc' W g1 g2 f1 f3 (by omega) (by omega)
  have c2 := fun W g1 g2 => sreals_any ds ds' dO do' dc dc' W g1 g2 f2 f4 (by omega) (by omega)
  rw [e1] at c1
  rw [e2] at c2
  have b1 : (n == n) = true := by simp
  have A0 := (B3.new w (.int .i64 n) (.slice lo ls.length lc) (.slice dO ds.length dc) 27).alloc (.cells #[.int .i64 n, .slice lo' ls'.length lc', .slice do' ds'.length dc'] 27)
  have A1 := B3.newAt (w := w.alloc (.cells #[.int .i64 n, .slice lo ls.length lc, .slice dO ds.length dc] 27)) (n := w.heap.size + 1) (by go_simp) (.int .i64 n) (.slice lo' ls'.length lc') (.slice do' ds'.length dc') 27
  have g1 := h1.below (hb (.cells #[.int .i64 n, .slice lo ls.length lc, .slice dO ds.length dc] 27) (.cells #[.int .i64 n, .slice lo' ls'.length lc', .slice do' ds'.length dc'] 27))
  have g2 := h2.below (hb (.cells #[.int .i64 n, .slice lo ls.length lc, .slice dO ds.length dc] 27) (.cells #[.int .i64 n, .slice lo' ls'.length lc', .slice do' ds'.length dc'] 27))
  have g3 := h3.below (hb (.cells #[.int .i64 n, .slice lo ls.length lc, .slice dO ds.length dc] 27) (.cells #[.int .i64 n, .slice lo' ls'.length lc', .slice do' ds'.length dc'] 27))
  have g4 := h4.below (hb (.cells #[.int .i64 n, .slice lo ls.length lc, .slice dO ds.length dc] 27) (.cells #[.int .i64 n, .slice lo' ls'.length lc', .slice do' ds'.length dc'] 27))
  have BB := hb (.cells #[.int .i64 n, .slice lo ls.length lc, .slice dO ds.length dc] 27) (.cells #[.int .i64 n, .slice lo' ls'.length lc', .slice do' ds'.length dc'] 27)
  clear hb h1 h2 h3 h4
  go_enter Try.func50, Try.ntmps50
  go_upto_region 1 with fail
  generalize (w.alloc (.cells #[.int .i64 n, .slice lo ls.length lc, .slice dO ds.length dc] 27)).alloc (.cells #[.int .i64 n, .slice lo' ls'.length lc', .slice do' ds'.length dc'] 27) = W at *
  obtain ⟨a0, a1, a2, _⟩ := id A0
  obtain ⟨d0, d1, d2, _⟩ := id A1
  go_wp2_with (first
    | (go_at_call_of 31 (Value.slice lo ls.length lc); refine (c1 _ g1 g3).mono ?_; rintro e w1 ⟨rfl, b1⟩; obtain ⟨a0', a1', a2', _⟩ := A0.below b1; obtain ⟨d0', d1', d2', _⟩ := A1.below b1)
    | (go_at_call_of 31 (Value.slice dO ds.length dc); refine (c2 _ (g2.below b1) (g4.below b1)).mono ?_; rintro e w2 ⟨rfl, b2⟩))
  go_ret
  have B1 := BB.trans (b1.mono BB.size)
  exact ⟨rfl, B1.trans (b2.mono B1.size)⟩
set_option maxHeartbeats 2000000 in
theorem keptFc_any (n : Int) (ls ds : List Nat) (lo dO : Option Addr) (lc dc g h : Nat) (w : World) (hL : GRow w lo ls) (hD : GRow w dO ds) (fL : FW ls) (fD : FW ds) (lg : LentF w g ls) (lh : LentF w h ds) (nl : ls.length ≤ 17592186044416) (nd : ds.length ≤ 17592186044416) :
    Calls Try.prog 25 #[fcV n (some ⟨g, 0, none⟩) ls.length (ls.length + 12) (some ⟨h, 0, none⟩) ds.length (ds.length + 12), fcV n lo ls.length lc dO ds.length dc] w fun e w' => e = .returned (.bool true) ∧ Below w.heap.size w w' := by
  have sl : sameL ls ls = true := sameL_yes rfl (fun _ _ => sameB_me _)
  have sd : sameL ds ds = true := sameL_yes rfl (fun _ _ => sameB_me _)
  have cs := fun W h1 h2 h3 h4 => sfacL_any n ls ds ls ds (some ⟨g, 0, none⟩) (some ⟨h, 0, none⟩) lo dO (ls.length + 12) (ds.length + 12) lc dc W h1 h2 h3 h4 fL fD fL fD (by omega) (by omega) (by omega) (by omega) sl sd
  have c1 := fun W h1 h2 => keptR_any ls lo lc g W h1 fL h2 nl
  have c2 := fun W h1 h2 => keptR_any ds dO dc h W h1 fD h2 nd
  have BB : Below w.heap.size w ((w.alloc (.cells #[.int .i64 n, .slice (some ⟨g, 0, none⟩) ls.length (ls.length + 12), .slice (some ⟨h, 0, none⟩) ds.length (ds.length + 12)] 27)).alloc (.cells #[.int .i64 n, .slice lo ls.length lc, .slice dO ds.length dc] 27)) := old_two (Below.refl _ _)
  have MA := (B3.new w (.int .i64 n) (.slice (some ⟨g, 0, none⟩) ls.length (ls.length + 12)) (.slice (some ⟨h, 0, none⟩) ds.length (ds.length + 12)) 27).alloc (.cells #[.int .i64 n, .slice lo ls.length lc, .slice dO ds.length dc] 27)
  have MB := B3.newAt (w := w.alloc (.cells #[.int .i64 n, .slice (some ⟨g, 0, none⟩) ls.length (ls.length + 12), .slice (some ⟨h, 0, none⟩) ds.length (ds.length + 12)] 27)) (n := w.heap.size + 1) (by go_simp) (.int .i64 n) (.slice lo ls.length lc) (.slice dO ds.length dc) 27
  clear sl sd fL fD
  go_enter Try.func25, Try.ntmps25
  go_upto_region 1 with fail
  generalize (w.alloc (.cells #[.int .i64 n, .slice (some ⟨g, 0, none⟩) ls.length (ls.length + 12), .slice (some ⟨h, 0, none⟩) ds.length (ds.length + 12)] 27)).alloc (.cells #[.int .i64 n, .slice lo ls.length lc, .slice dO ds.length dc] 27) = W at *
  obtain ⟨a0, a1, a2, _⟩ := id MA
  obtain ⟨d0, d1, d2, _⟩ := id MB
  go_wp2_with (first
    | (go_at_call 50; refine (cs _ (lg.row.below BB) (lh.row.below BB) (hL.below BB) (hD.below BB)).mono ?_; rintro e w1 ⟨rfl, b1⟩; have B1 := BB.trans (b1.mono BB.size); obtain ⟨a0', a1', a2', _⟩ := MA.below b1; obtain ⟨d0', d1', d2', _⟩ := MB.below b1)
    | (go_at_call_of 26 (Value.slice lo ls.length lc); refine (c1 _ (hL.below B1) (lg.below B1)).mono ?_; rintro e w2 ⟨rfl, b2⟩; have B2 := B1.trans (b2.mono B1.size); have b12 := b1.trans (b2.mono b1.size); obtain ⟨a0'', a1'', a2'', _⟩ := MA.below b12; obtain ⟨d0'', d1'', d2'', _⟩ := MB.below b12)
    | (go_at_call_of 26 (Value.slice dO ds.length dc); refine (c2 _ (hD.below B2) (lh.below B2)).mono ?_; rintro e w3 ⟨rfl, b3⟩))
  go_ret
  exact ⟨rfl, B2.trans (b3.mono B2.size)⟩
end Go.Proofs.Ytclldmdhpojciaa
