/- SolveTells: its walk. -/
import Derived.Test.YtclldmdhpojciaaS5
namespace Go.Proofs.Ytclldmdhpojciaa
open Go.RowKit

theorem fwA_len (n : Int) (ls : List Nat) (dn bn : Nat) (b : Nat → Option Nat) : (fwA n ls dn bn b).1.length ≤ 2304 := by
  unfold fwA
  split
  · rename_i h
    obtain ⟨N, rfl, hN, _⟩ := fit_nat h
    simp only [tab_len, Int.toNat_natCast]
    omega
  · exact Nat.zero_le _
theorem bkA_len (n : Int) (ls ds : List Nat) (bn : Nat) (b : Nat → Option Nat) : (bkA n ls ds bn b).1.length ≤ 2304 := by
  unfold bkA
  split
  · rename_i h
    obtain ⟨N, rfl, hN, _⟩ := fit_nat h
    split
    · exact Nat.zero_le _
    · simp only [tab_len, Int.toNat_natCast]
      omega
  · exact Nat.zero_le _
theorem slA_len (n : Int) (ls ds : List Nat) (bn : Nat) (b : Nat → Option Nat) : (slA n ls ds bn b).1.length ≤ 2304 := by
  unfold slA
  split
  · rename_i h
    obtain ⟨N, rfl, hN, _⟩ := fit_nat h
    split
    · exact Nat.zero_le _
    · simp only [tab_len, Int.toNat_natCast]
      omega
  · exact Nat.zero_le _
theorem ivA_len (n : Int) (ls ds : List Nat) : (ivA n ls ds).os.length ≤ 2304 := by
  unfold ivA
  split
  · rename_i h
    obtain ⟨N, rfl, hN, _⟩ := rightF_nat h
    split
    · exact Nat.zero_le _
    · simp only [tabM_len, Int.toNat_natCast]
      exact mul48 hN hN
  · exact Nat.zero_le _
theorem smatL_LN (r c : Int) {os : List (Option Nat)} {xs ys : List Nat} (hx : LN os xs) (hy : LN os ys) (ao bo : Option Addr) (cap cap2 : Nat) (w : World) (hr : GRow w ao xs) (hs : GRow w bo ys) (hl : os.length ≤ 2304) :
    Calls Try.prog 17 #[mxV r c ao xs.length cap, mxV r c bo ys.length cap2] w fun e w' => e = .returned (.bool true) ∧ Below w.heap.size w w' := by
  have h := ksame_any r c xs r c ys ao bo cap cap2 w hr hs hx.fw hy.fw (by rw [hx.1]; omega) (by rw [hy.1]; omega)
  rw [sameM_yes (hx.same hy)] at h
  exact h
/-- What stands in memory: the factor as it came, the lent one, the three lists lent. -/
structure TfS (w : World) (n : Int) (ls ds bs : List Nat) (lo dO : Option Addr) (lc dc P g h k : Nat) (W : World) : Prop where
  fb : B3 W w.heap.size (.int .i64 n) (.slice lo ls.length lc) (.slice dO ds.length dc)
  ib : B3 W P (.int .i64 n) (.slice (some ⟨g, 0, none⟩) ls.length (ls.length + 12)) (.slice (some ⟨h, 0, none⟩) ds.length (ds.length + 12))
  lg : LentF W g ls
  lh : LentF W h ds
  lk : LentF W k bs
  bel : Below w.heap.size w W
theorem TfS.below {w : World} {n : Int} {ls ds bs : List Nat} {lo dO : Option Addr} {lc dc P g h k : Nat} {W W' : World} (s : TfS w n ls ds bs lo dO lc dc P g h k W) (hb : Below W.heap.size W W') : TfS w n ls ds bs lo dO lc dc P g h k W' :=
  ⟨s.fb.below hb, s.ib.below hb, s.lg.below hb, s.lh.below hb, s.lk.below hb, s.bel.trans (hb.mono s.bel.size)⟩
set_option maxRecDepth 100000 in
set_option maxHeartbeats 4000000 in
theorem tells13_law (n : Int) (ls ds bs : List Nat) (lo dO bo : Option Addr) (lc dc bc : Nat) (w : World) (hL : GRow w lo ls) (hD : GRow w dO ds) (hB : GRow w bo bs) (fL : FW ls) (fD : FW ds) (fB : FW bs)
    (zl : lo = none → lc = 0 ∧ ls.length = 0) (zd : dO = none → dc = 0 ∧ ds.length = 0) (zb : bo = none → bc = 0 ∧ bs.length = 0) (nl : ls.length ≤ 17592186044416) (nd : ds.length ≤ 17592186044416) (nb : bs.length ≤ 17592186044416) :
    Calls Try.prog 4 #[fcV n lo ls.length lc dO ds.length dc, .slice bo bs.length bc] w fun e w' => e = .returned (.bool true) ∧ Below w.heap.size w w' := by
  have M0 := B3.new w (.int .i64 n) (.slice lo ls.length lc) (.slice dO ds.length dc) 27
  have B0 := below_one w (.cells #[.int .i64 n, .slice lo ls.length lc, .slice dO ds.length dc] 27)
  have cl := fun W h1 h2 => lentFc_any n ls ds lo dO lc dc W h1 h2 zl zd nl nd
  have cb := fun W h1 => lentR_any bs bo bc W h1 zb nb
  go_enter Try.func4, Try.ntmps4
  go_upto_region 2 with (first
    | (go_at_call 19; refine (cl _ (hL.below B0) (hD.below B0)).mono ?_; rintro e w1 ⟨g, h, rfl, l1, l2, k1, k2, b1⟩; have B1 := B0.trans (b1.mono B0.size))
    | (go_at_call 20; refine (cb _ (hB.below B1)).mono ?_; rintro e w2 ⟨rfl, l3, b2⟩; have b12 := b1.trans (b2.mono b1.size)))
  have S : TfS w n ls ds bs lo dO lc dc w2.heap.size g h w1.heap.size (w2.alloc (.cells #[.int .i64 n, .slice (some ⟨g, 0, none⟩) ls.length (ls.length + 12), .slice (some ⟨h, 0, none⟩) ds.length (ds.length + 12)] 27)) :=
    ⟨(M0.below b12).alloc _, B3.new _ _ _ _ _, (l1.below b2).below (below_one _ _), (l2.below b2).below (below_one _ _), l3.below (below_one _ _), (B1.trans (b2.mono B1.size)).trans ((below_one _ _).mono (B1.trans (b2.mono B1.size)).size)⟩
  generalize w2.alloc (.cells #[.int .i64 n, .slice (some ⟨g, 0, none⟩) ls.length (ls.length + 12), .slice (some ⟨h, 0, none⟩) ds.length (ds.length + 12)] 27) = W at *
  generalize w2.heap.size = P at *
  generalize w1.heap.size = k at *
  clear cl cb M0 B0 B1 b1 b2 b12 l1 l2 l3 k1 k2 zl zd zb
  obtain ⟨ob, hob⟩ : ∃ ob : Nat → Option Nat, ∀ i, i < bs.length → NR (ob i) (bs.getD i 0) := ⟨fun i => toO (bs.getD i 0), fun i hi => toO_NR (fB.at hi)⟩
  have c1 := fun W (S : TfS w n ls ds bs lo dO lc dc P g h k W) => sforward_any n ls bs (some ⟨g, 0, none⟩) (some ⟨h, 0, none⟩) (some ⟨k, 0, none⟩) (ls.length + 12) ds.length (ds.length + 12) (bs.length + 12) ob W S.lg.row S.lk.row fL hob
  have d1 := fun W (S : TfS w n ls ds bs lo dO lc dc P g h k W) => rforward_any n ls bs lo dO bo lc ds.length dc bc ob W (hL.below S.bel) (hB.below S.bel) fL hob
  have c2 := fun W (S : TfS w n ls ds bs lo dO lc dc P g h k W) => sback_any n ls ds bs (some ⟨g, 0, none⟩) (some ⟨h, 0, none⟩) (some ⟨k, 0, none⟩) (ls.length + 12) (ds.length + 12) (bs.length + 12) ob W S.lg.row S.lh.row S.lk.row fL fD hob
  have d2 := fun W (S : TfS w n ls ds bs lo dO lc dc P g h k W) => rback_any n ls ds bs lo dO bo lc dc bc ob W (hL.below S.bel) (hD.below S.bel) (hB.below S.bel) fL fD hob
  have c3 := fun W (S : TfS w n ls ds bs lo dO lc dc P g h k W) => ssolve_any n ls ds bs (some ⟨g, 0, none⟩) (some ⟨h, 0, none⟩) (some ⟨k, 0, none⟩) (ls.length + 12) (ds.length + 12) (bs.length + 12) ob W S.lg.row S.lh.row S.lk.row fL fD hob
  have d3 := fun W (S : TfS w n ls ds bs lo dO lc dc P g h k W) => rsolve_any n ls ds bs lo dO bo lc dc bc ob W (hL.below S.bel) (hD.below S.bel) (hB.below S.bel) fL fD hob
  have c4 := fun W (S : TfS w n ls ds bs lo dO lc dc P g h k W) => sinverse_any n ls ds (some ⟨g, 0, none⟩) (some ⟨h, 0, none⟩) (ls.length + 12) (ds.length + 12) W S.lg.row S.lh.row fL fD
  have d4 := fun W (S : TfS w n ls ds bs lo dO lc dc P g h k W) => rinverse_any n ls ds lo dO lc dc W (hL.below S.bel) (hD.below S.bel) fL fD
  have c5 := fun W (S : TfS w n ls ds bs lo dO lc dc P g h k W) => keptFc_any n ls ds lo dO lc dc g h W (hL.below S.bel) (hD.below S.bel) fL fD S.lg S.lh nl nd
  have c6 := fun W (S : TfS w n ls ds bs lo dO lc dc P g h k W) => keptR_any bs bo bc k W (hB.below S.bel) fB S.lk nb
  have n1 := fwA_len n ls ds.length bs.length ob
  have n2 := bkA_len n ls ds bs.length ob
  have n3 := slA_len n ls ds bs.length ob
  have n4 := ivA_len n ls ds
  generalize fwA n ls ds.length bs.length ob = A1 at *
  generalize bkA n ls ds bs.length ob = A2 at *
  generalize slA n ls ds bs.length ob = A3 at *
  generalize ivA n ls ds = A4 at *
  clear hob fL fD fB
  obtain ⟨a0, a1, a2, _⟩ := id S.fb
  obtain ⟨i0, i1, i2, _⟩ := id S.ib
  go_upto_region 6 with (first
    | (go_at_call 8; refine (c1 _ S).mono ?_; rintro e w1 ⟨_, rfl, xo, xc, xs, rfl, x1, x2, _, _, b1⟩; have S1 := S.below b1; obtain ⟨a0', a1', a2', _⟩ := id S1.fb)
    | (go_at_call 21; refine (d1 _ S1).mono ?_; rintro e w2 ⟨_, rfl, yo, yc, ys, rfl, y1, y2, _, _, b2⟩; have S2 := S1.below b2; have x3 := x2.below b2)
    | (go_at_call 16; refine (is13_LN _ x1 y1 _ _ _ _ _ x3 y2 n1).mono ?_; rintro e w3 ⟨rfl, b3⟩; have S3 := S2.below b3))
  clear a0 a1 a2 i0 i1 i2 a0' a1' a2' S S1 S2 x1 x2 x3 y1 y2 b1 b2 b3 c1 d1
  obtain ⟨a0, a1, a2, _⟩ := id S3.fb
  obtain ⟨i0, i1, i2, _⟩ := id S3.ib
  go_upto_region 10 with (first
    | (go_at_call 11; refine (c2 _ S3).mono ?_; rintro e w4 ⟨_, rfl, xo', xc', xs', rfl, x1, x2, _, _, b1⟩; have S4 := S3.below b1; obtain ⟨a0', a1', a2', _⟩ := id S4.fb)
    | (go_at_call 22; refine (d2 _ S4).mono ?_; rintro e w5 ⟨_, rfl, yo', yc', ys', rfl, y1, y2, _, _, b2⟩; have S5 := S4.below b2; have x3 := x2.below b2)
    | (go_at_call 16; refine (is13_LN _ x1 y1 _ _ _ _ _ x3 y2 n2).mono ?_; rintro e w6 ⟨rfl, b3⟩; have S6 := S5.below b3))
  clear a0 a1 a2 i0 i1 i2 a0' a1' a2' S3 S4 S5 x1 x2 x3 y1 y2 b1 b2 b3 c2 d2
  obtain ⟨a0, a1, a2, _⟩ := id S6.fb
  obtain ⟨i0, i1, i2, _⟩ := id S6.ib
  go_upto_region 12 with (first
    | (go_at_call 10; refine (c3 _ S6).mono ?_; rintro e w7 ⟨_, rfl, uo, uc, us, rfl, x1, x2, _, _, b1⟩; have S7 := S6.below b1; obtain ⟨a0', a1', a2', _⟩ := id S7.fb)
    | (go_at_call 23; refine (d3 _ S7).mono ?_; rintro e w8 ⟨_, rfl, vo, vc, vs, rfl, y1, y2, _, _, b2⟩; have S8 := S7.below b2; have x3 := x2.below b2))
  clear a0 a1 a2 i0 i1 i2 a0' a1' a2' S6 S7 x2 b1 b2 c3 d3
  obtain ⟨i0, i1, i2, _⟩ := id S8.ib
  go_upto_region 13 with (go_at_call 15; refine (c4 _ S8).mono ?_; rintro e w9 ⟨_, rfl, mo, mc, ms, rfl, m1, m2, _, _, b3⟩)
  have XB := B3.new w9 (.int .i64 A4.rows) (.int .i64 A4.cols) (.slice mo ms.length mc) 34
  have b4 : Below w8.heap.size w8 (w9.alloc (.cells #[.int .i64 A4.rows, .int .i64 A4.cols, .slice mo ms.length mc] 34)) := b3.trans ((below_one _ _).mono b3.size)
  replace m2 := m2.below (below_one w9 (.cells #[.int .i64 A4.rows, .int .i64 A4.cols, .slice mo ms.length mc] 34))
  have S9 := S8.below b4
  replace x3 := x3.below b4
  replace y2 := y2.below b4
  generalize w9.alloc (.cells #[.int .i64 A4.rows, .int .i64 A4.cols, .slice mo ms.length mc] 34) = W9 at *
  generalize w9.heap.size = P9 at *
  clear i0 i1 i2 S8 b3 b4 c4
  obtain ⟨a0, a1, a2, _⟩ := id S9.fb
  go_upto_region 14 with (go_at_call 24; refine (d4 _ S9).mono ?_; rintro e w10 ⟨_, rfl, ko, kc, ks, rfl, k1, k2, _, _, b3⟩)
  have YB := B3.new w10 (.int .i64 A4.rows) (.int .i64 A4.cols) (.slice ko ks.length kc) 34
  have b4 : Below W9.heap.size W9 (w10.alloc (.cells #[.int .i64 A4.rows, .int .i64 A4.cols, .slice ko ks.length kc] 34)) := b3.trans ((below_one _ _).mono b3.size)
  replace k2 := k2.below (below_one w10 (.cells #[.int .i64 A4.rows, .int .i64 A4.cols, .slice ko ks.length kc] 34))
  have S10 := S9.below b4
  replace x3 := x3.below b4
  replace y2 := y2.below b4
  replace m2 := m2.below b4
  replace XB := XB.below b4
  generalize w10.alloc (.cells #[.int .i64 A4.rows, .int .i64 A4.cols, .slice ko ks.length kc] 34) = W10 at *
  generalize w10.heap.size = P10 at *
  clear a0 a1 a2 S9 b3 b4 d4
  have e1 : (A4.err == A4.err) = true := by simp
  generalize A4.err = er at *
  generalize A4.rows = ar at *
  generalize A4.cols = ac at *
  go_wp2_with (first
    | (go_at_call 16; refine (is13_LN _ x1 y1 _ _ _ _ _ x3 y2 n3).mono ?_; rintro e v1 ⟨rfl, b1⟩; have T1 := S10.below b1; obtain ⟨p0, p1, p2, _⟩ := XB.below b1; obtain ⟨r0, r1, r2, _⟩ := YB.below b1)
    | (go_at_call 17; refine (smatL_LN _ _ m1 k1 _ _ _ _ _ (m2.below b1) (k2.below b1) n4).mono ?_; rintro e v2 ⟨rfl, b2⟩; have T2 := T1.below b2; obtain ⟨a0, a1, a2, _⟩ := id T2.fb; obtain ⟨i0, i1, i2, _⟩ := id T2.ib)
    | (go_at_call 25; refine (c5 _ T2).mono ?_; rintro e v3 ⟨rfl, b3⟩; have T3 := T2.below b3)
    | (go_at_call 26; refine (c6 _ T3).mono ?_; rintro e v4 ⟨rfl, b4⟩; have T4 := T3.below b4)
    | (go_at_call 18; refine (awake13 _).mono ?_; rintro e v5 ⟨rfl, b5⟩))
  go_ret
  exact ⟨rfl, T4.bel.trans (b5.mono T4.bel.size)⟩
theorem tells13_row (n : Int) (ls : List Nat) (lo : Option Addr) (lc : Nat) (ds : List Nat) (dO : Option Addr) (dc : Nat) (bs : List Nat) (bo : Option Addr) (bc : Nat) (w : World) (hL : GRow w lo ls) (fL : FW ls) (zl : lo = none → lc = 0 ∧ ls.length = 0) (l1 : ls.length ≤ lc) (l2 : lc ≤ 17592186044416) (hD : GRow w dO ds) (fD : FW ds) (zd : dO = none → dc = 0 ∧ ds.length = 0) (d1 : ds.length ≤ dc) (d2 : dc ≤ 17592186044416)
    (hB : GRow w bo bs) (fB : FW bs) (b1 : bs.length ≤ bc) (b2 : bc ≤ 17592186044416) (zb : bo = none → bc = 0 ∧ bs.length = 0) :
    Calls Try.prog 4 #[fcV n lo ls.length lc dO ds.length dc, .slice bo bs.length bc] w fun e w' => e = .returned (.bool true) ∧ Below w.heap.size w w' :=
  tells13_law n ls ds bs lo dO bo lc dc bc w hL hD hB fL fD fB zl zd zb (by omega) (by omega) (by omega)
end Go.Proofs.Ytclldmdhpojciaa
