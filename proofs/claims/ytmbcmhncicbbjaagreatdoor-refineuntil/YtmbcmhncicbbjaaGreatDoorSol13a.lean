/- A factor lent. -/
import Derived.Test.YtmbcmhncicbbjaaGreatDoorMx13
import Derived.Test.YtmbcmhncicbbjaaGreatDoorS1
import Derived.Test.YtmbcmhncicbbjaaGreatDoorA1
namespace Go.Proofs.YtmbcmhncicbbjaaGreatDoor
open Go.RowKit

theorem B3.putB {w : World} {b : Nat} {x y z : Value} (h : B3 w b x y z) (v : Value) : B3 (w.setCell ⟨b, 1, none⟩ v) b x v z := by
  obtain ⟨h0, h1, h2, g0, g1, g2, h5⟩ := h
  exact ⟨(World.cell?_setCell_other w _ _ v (by simp)).trans h0, World.cell?_setCell_same w _ v h1, (World.cell?_setCell_other w _ _ v (by simp)).trans h2, by simp [go_sem, g0], by simp [go_sem, g1], by simp [go_sem, g2], by simp [go_sem]; exact h5⟩
theorem B3.putC {w : World} {b : Nat} {x y z : Value} (h : B3 w b x y z) (v : Value) : B3 (w.setCell ⟨b, 2, none⟩ v) b x y v := by
  obtain ⟨h0, h1, h2, g0, g1, g2, h5⟩ := h
  exact ⟨(World.cell?_setCell_other w _ _ v (by simp)).trans h0, (World.cell?_setCell_other w _ _ v (by simp)).trans h1, World.cell?_setCell_same w _ v h2, by simp [go_sem, g0], by simp [go_sem, g1], by simp [go_sem, g2], by simp [go_sem]; exact h5⟩
set_option maxHeartbeats 2000000 in
theorem lentFc_any (n : Int) (ls ds : List Nat) (lo dO : Option Addr) (lc dc : Nat) (w : World) (hL : GRow w lo ls) (hD : GRow w dO ds) (zl : lo = none → lc = 0 ∧ ls.length = 0) (zd : dO = none → dc = 0 ∧ ds.length = 0) (nl : ls.length ≤ 17592186044416) (nd : ds.length ≤ 17592186044416) :
    Calls Tryz.prog 15 #[fcV n lo ls.length lc dO ds.length dc] w fun e w' => ∃ g h, e = .returned (fcV n (some ⟨g, 0, none⟩) ls.length (ls.length + 12) (some ⟨h, 0, none⟩) ds.length (ds.length + 12)) ∧ LentF w' g ls ∧ LentF w' h ds ∧ w.heap.size ≤ g ∧ w.heap.size ≤ h ∧ Below w.heap.size w w' := by
  have c1 := fun W h => lentR_any ls lo lc W h zl nl
  have c2 := fun W h => lentR_any ds dO dc W h zd nd
  have hb0 : ∀ o p, Below w.heap.size w ((w.alloc o).alloc p) := fun o p => old_two (Below.refl _ _)
  go_enter Tryz.func15, Tryz.ntmps15
  go_upto_region 1 with fail
  have MB := (B3.new w (.int .i64 n) (.slice lo ls.length lc) (.slice dO ds.length dc) 36).alloc (.cells #[.int .i64 0, .slice none 0 0, .slice none 0 0] 36)
  have RB := B3.newAt (w := w.alloc (.cells #[.int .i64 n, .slice lo ls.length lc, .slice dO ds.length dc] 36)) (n := w.heap.size + 1) (by go_simp) (.int .i64 0) (.slice none 0 0) (.slice none 0 0) 36
  have BB := hb0 (.cells #[.int .i64 n, .slice lo ls.length lc, .slice dO ds.length dc] 36) (.cells #[.int .i64 0, .slice none 0 0, .slice none 0 0] 36)
  have hsz : w.heap.size + 1 < ((w.alloc (.cells #[.int .i64 n, .slice lo ls.length lc, .slice dO ds.length dc] 36)).alloc (.cells #[.int .i64 0, .slice none 0 0, .slice none 0 0] 36)).heap.size := by go_simp
  generalize (w.alloc (.cells #[.int .i64 n, .slice lo ls.length lc, .slice dO ds.length dc] 36)).alloc (.cells #[.int .i64 0, .slice none 0 0, .slice none 0 0] 36) = W0 at *
  clear hb0
  obtain ⟨m0, m1, m2, _⟩ := id MB
  go_upto_region 2 with (go_at_call 9; refine (c1 _ (hL.below BB)).mono ?_; rintro e w1 ⟨rfl, l1, b1⟩; have MB1 := MB.below b1; have RB1 := RB.below b1; obtain ⟨x0, x1, x2, y0, y1, y2, _⟩ := id MB1; have B1 := BB.trans (b1.mono BB.size))
  have MB2 := MB1.putB (.slice (some ⟨W0.heap.size, 0, none⟩) ls.length (ls.length + 12))
  have RB2 := RB1.far (c := w.heap.size) (by omega) (o := 1) (.slice (some ⟨W0.heap.size, 0, none⟩) ls.length (ls.length + 12))
  have L2 := l1.far (c := w.heap.size) (by omega) 1 (.slice (some ⟨W0.heap.size, 0, none⟩) ls.length (ls.length + 12))
  have B2 := B1.setCell (p := ⟨w.heap.size, 1, none⟩) (Nat.le_refl _) (.slice (some ⟨W0.heap.size, 0, none⟩) ls.length (ls.length + 12))
  have hg := L2.lt
  generalize w1.setCell ⟨w.heap.size, 1, none⟩ (.slice (some ⟨W0.heap.size, 0, none⟩) ls.length (ls.length + 12)) = W1 at *
  generalize W0.heap.size = g at *
  clear m0 m1 m2 x0 x1 x2 y0 y1 y2 MB1 RB1 l1 b1 B1 MB RB BB
  obtain ⟨m0, m1, m2, _⟩ := id MB2
  go_upto_region 3 with (go_at_call 9; refine (c2 _ (hD.below B2)).mono ?_; rintro e w2 ⟨rfl, l2, b2⟩; have MB3 := MB2.below b2; have RB3 := RB2.below b2; have L3 := L2.below b2; obtain ⟨x0, x1, x2, y0, y1, y2, _⟩ := id MB3; have B3' := B2.trans (b2.mono B2.size))
  have MB4 := MB3.putC (.slice (some ⟨W1.heap.size, 0, none⟩) ds.length (ds.length + 12))
  have RB4 := RB3.far (c := w.heap.size) (by omega) (o := 2) (.slice (some ⟨W1.heap.size, 0, none⟩) ds.length (ds.length + 12))
  have L4 := L3.far (c := w.heap.size) (by omega) 2 (.slice (some ⟨W1.heap.size, 0, none⟩) ds.length (ds.length + 12))
  have D4 := l2.far (c := w.heap.size) (by omega) 2 (.slice (some ⟨W1.heap.size, 0, none⟩) ds.length (ds.length + 12))
  have B4 := B3'.setCell (p := ⟨w.heap.size, 2, none⟩) (Nat.le_refl _) (.slice (some ⟨W1.heap.size, 0, none⟩) ds.length (ds.length + 12))
  generalize w2.setCell ⟨w.heap.size, 2, none⟩ (.slice (some ⟨W1.heap.size, 0, none⟩) ds.length (ds.length + 12)) = W2 at *
  generalize W1.heap.size = h at *
  clear m0 m1 m2 x0 x1 x2 y0 y1 y2 MB2 RB2 MB3 RB3 L2 L3 l2 b2 B2 B3'
  obtain ⟨m0, m1, m2, _⟩ := id MB4
  obtain ⟨t0, t1, t2, s0, s1, s2, _⟩ := id RB4
  go_wp2
  exact bodyPost_ret (v := fcV n (some ⟨g, 0, none⟩) ls.length (ls.length + 12) (some ⟨h, 0, none⟩) ds.length (ds.length + 12)) (by simp [results, Tryz.results15, go_sem, t0, t1, t2]) rfl ⟨g, h, rfl, ((L4.far (by omega) _ _).far (by omega) _ _).far (by omega) _ _, ((D4.far (by omega) _ _).far (by omega) _ _).far (by omega) _ _, by omega, by omega, set_three B4 (by omega) _ _ _⟩
set_option maxHeartbeats 1000000 in
/-- Two factors that are alike. -/
theorem sfacL_any (n : Int) (ls ds ls' ds' : List Nat) (lo dO lo' do' : Option Addr) (lc dc lc' dc' : Nat) (w : World) (h1 : GRow w lo ls) (h2 : GRow w dO ds) (h3 : GRow w lo' ls') (h4 : GRow w do' ds') (f1 : FW ls) (f2 : FW ds) (f3 : FW ls') (f4 : FW ds')
    (n1 : ls.length ≤ 1125899906842624) (n2 : ds.length ≤ 1125899906842624) (n3 : ls'.length ≤ 1125899906842624) (n4 : ds'.length ≤ 1125899906842624) (e1 : sameL ls ls' = true) (e2 : sameL ds ds' = true) :
    Calls Tryz.prog 40 #[fcV n lo ls.length lc dO ds.length dc, fcV n lo' ls'.length lc' do' ds'.length dc'] w fun e w' => e = .returned (.bool true) ∧ Below w.heap.size w w' := by
  have hb : ∀ o p, Below w.heap.size w ((w.alloc o).alloc p) := fun o p => old_two (Below.refl _ _)
  have c1 := fun W g1 g2 => sreals_any ls ls' lo lo' lc lc' W g1 g2 f1 f3 (by omega) (by omega)
  have c2 := fun W g1 g2 => sreals_any ds ds' dO do' dc dc' W g1 g2 f2 f4 (by omega) (by omega)
  rw [e1] at c1
  rw [e2] at c2
  have b1 : (n == n) = true := by simp
  have A0 := (B3.new w (.int .i64 n) (.slice lo ls.length lc) (.slice dO ds.length dc) 36).alloc (.cells #[.int .i64 n, .slice lo' ls'.length lc', .slice do' ds'.length dc'] 36)
  have A1 := B3.newAt (w := w.alloc (.cells #[.int .i64 n, .slice lo ls.length lc, .slice dO ds.length dc] 36)) (n := w.heap.size + 1) (by go_simp) (.int .i64 n) (.slice lo' ls'.length lc') (.slice do' ds'.length dc') 36
  have g1 := h1.below (hb (.cells #[.int .i64 n, .slice lo ls.length lc, .slice dO ds.length dc] 36) (.cells #[.int .i64 n, .slice lo' ls'.length lc', .slice do' ds'.length dc'] 36))
  have g2 := h2.below (hb (.cells #[.int .i64 n, .slice lo ls.length lc, .slice dO ds.length dc] 36) (.cells #[.int .i64 n, .slice lo' ls'.length lc', .slice do' ds'.length dc'] 36))
  have g3 := h3.below (hb (.cells #[.int .i64 n, .slice lo ls.length lc, .slice dO ds.length dc] 36) (.cells #[.int .i64 n, .slice lo' ls'.length lc', .slice do' ds'.length dc'] 36))
  have g4 := h4.below (hb (.cells #[.int .i64 n, .slice lo ls.length lc, .slice dO ds.length dc] 36) (.cells #[.int .i64 n, .slice lo' ls'.length lc', .slice do' ds'.length dc'] 36))
  have BB := hb (.cells #[.int .i64 n, .slice lo ls.length lc, .slice dO ds.length dc] 36) (.cells #[.int .i64 n, .slice lo' ls'.length lc', .slice do' ds'.length dc'] 36)
  clear hb h1 h2 h3 h4
  go_enter Tryz.func40, Tryz.ntmps40
  go_upto_region 1 with fail
  generalize (w.alloc (.cells #[.int .i64 n, .slice lo ls.length lc, .slice dO ds.length dc] 36)).alloc (.cells #[.int .i64 n, .slice lo' ls'.length lc', .slice do' ds'.length dc'] 36) = W at *
  obtain ⟨a0, a1, a2, _⟩ := id A0
  obtain ⟨d0, d1, d2, _⟩ := id A1
  go_wp2_with (first
    | (go_at_call_of 12 (Value.slice lo ls.length lc); refine (c1 _ g1 g3).mono ?_; rintro e w1 ⟨rfl, b1⟩; obtain ⟨a0', a1', a2', _⟩ := A0.below b1; obtain ⟨d0', d1', d2', _⟩ := A1.below b1)
    | (go_at_call_of 12 (Value.slice dO ds.length dc); refine (c2 _ (g2.below b1) (g4.below b1)).mono ?_; rintro e w2 ⟨rfl, b2⟩))
  go_ret
  have B1 := BB.trans (b1.mono BB.size)
  exact ⟨rfl, B1.trans (b2.mono B1.size)⟩
set_option maxHeartbeats 2000000 in
theorem keptFc_any (n : Int) (ls ds : List Nat) (lo dO : Option Addr) (lc dc g h : Nat) (w : World) (hL : GRow w lo ls) (hD : GRow w dO ds) (fL : FW ls) (fD : FW ds) (lg : LentF w g ls) (lh : LentF w h ds) (nl : ls.length ≤ 17592186044416) (nd : ds.length ≤ 17592186044416) :
    Calls Tryz.prog 18 #[fcV n (some ⟨g, 0, none⟩) ls.length (ls.length + 12) (some ⟨h, 0, none⟩) ds.length (ds.length + 12), fcV n lo ls.length lc dO ds.length dc] w fun e w' => e = .returned (.bool true) ∧ Below w.heap.size w w' := by
  have sl : sameL ls ls = true := sameL_yes rfl (fun _ _ => sameB_me _)
  have sd : sameL ds ds = true := sameL_yes rfl (fun _ _ => sameB_me _)
  have cs := fun W h1 h2 h3 h4 => sfacL_any n ls ds ls ds (some ⟨g, 0, none⟩) (some ⟨h, 0, none⟩) lo dO (ls.length + 12) (ds.length + 12) lc dc W h1 h2 h3 h4 fL fD fL fD (by omega) (by omega) (by omega) (by omega) sl sd
  have c1 := fun W h1 h2 => keptR_any ls lo lc g W h1 fL h2 nl
  have c2 := fun W h1 h2 => keptR_any ds dO dc h W h1 fD h2 nd
  have BB : Below w.heap.size w ((w.alloc (.cells #[.int .i64 n, .slice (some ⟨g, 0, none⟩) ls.length (ls.length + 12), .slice (some ⟨h, 0, none⟩) ds.length (ds.length + 12)] 36)).alloc (.cells #[.int .i64 n, .slice lo ls.length lc, .slice dO ds.length dc] 36)) := old_two (Below.refl _ _)
  have MA := (B3.new w (.int .i64 n) (.slice (some ⟨g, 0, none⟩) ls.length (ls.length + 12)) (.slice (some ⟨h, 0, none⟩) ds.length (ds.length + 12)) 36).alloc (.cells #[.int .i64 n, .slice lo ls.length lc, .slice dO ds.length dc] 36)
  have MB := B3.newAt (w := w.alloc (.cells #[.int .i64 n, .slice (some ⟨g, 0, none⟩) ls.length (ls.length + 12), .slice (some ⟨h, 0, none⟩) ds.length (ds.length + 12)] 36)) (n := w.heap.size + 1) (by go_simp) (.int .i64 n) (.slice lo ls.length lc) (.slice dO ds.length dc) 36
  clear sl sd fL fD
  go_enter Tryz.func18, Tryz.ntmps18
  go_upto_region 1 with fail
  generalize (w.alloc (.cells #[.int .i64 n, .slice (some ⟨g, 0, none⟩) ls.length (ls.length + 12), .slice (some ⟨h, 0, none⟩) ds.length (ds.length + 12)] 36)).alloc (.cells #[.int .i64 n, .slice lo ls.length lc, .slice dO ds.length dc] 36) = W at *
  obtain ⟨a0, a1, a2, _⟩ := id MA
  obtain ⟨d0, d1, d2, _⟩ := id MB
  go_wp2_with (first
    | (go_at_call 40; refine (cs _ (lg.row.below BB) (lh.row.below BB) (hL.below BB) (hD.below BB)).mono ?_; rintro e w1 ⟨rfl, b1⟩; have B1 := BB.trans (b1.mono BB.size); obtain ⟨a0', a1', a2', _⟩ := MA.below b1; obtain ⟨d0', d1', d2', _⟩ := MB.below b1)
    | (go_at_call_of 14 (Value.slice lo ls.length lc); refine (c1 _ (hL.below B1) (lg.below B1)).mono ?_; rintro e w2 ⟨rfl, b2⟩; have B2 := B1.trans (b2.mono B1.size); have b12 := b1.trans (b2.mono b1.size); obtain ⟨a0'', a1'', a2'', _⟩ := MA.below b12; obtain ⟨d0'', d1'', d2'', _⟩ := MB.below b12)
    | (go_at_call_of 14 (Value.slice dO ds.length dc); refine (c2 _ (hD.below B2) (lh.below B2)).mono ?_; rintro e w3 ⟨rfl, b3⟩))
  go_ret
  exact ⟨rfl, B2.trans (b3.mono B2.size)⟩
end Go.Proofs.YtmbcmhncicbbjaaGreatDoor
