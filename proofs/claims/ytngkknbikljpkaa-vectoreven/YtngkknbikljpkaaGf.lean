/- VectorEven, of any lists: the walk. -/
import Derived.Test.YtngkknbikljpkaaGe
import Derived.Test.YtngkknbikljpkaaAn
namespace Go.Proofs.Ytngkknbikljpkaa
open Go.RowKit

theorem dotF_at {xs ys : List Nat} {n : Nat} (hx : xs.length = n) (hy : ys.length = n) (hn : n ≤ 300) : dotF xs ys = dtO xs ys n := by
  unfold dotF
  rw [hx, hy, fit_same hn, if_pos rfl]
/-- Dot, of lists of n floats. -/
theorem vdot_n {n : Nat} (hn : n ≤ 300) {xs ys : List Nat} (lx : xs.length = n) (ly : ys.length = n) (ao bo : Option Addr) (cap cap2 : Nat) (hF : FW xs) (hG : FW ys) (w : World) (hr : GRow w ao xs) (hs : GRow w bo ys) :
    Calls Try.prog 5 #[.slice ao n cap, .slice bo n cap2] w fun e w' => ∃ r, e = .returned (.tuple #[.float .f64 r, .int .i64 0]) ∧ NR (dtO xs ys n) r ∧ Below w.heap.size w w' := by
  have h := vdot_any xs ys ao bo cap cap2 w hr hs hF hG (by omega) (by omega)
  rw [dotF_at lx ly hn, lx, ly, fit_same hn] at h
  exact h
theorem GaveF.n {w : World} {n : Nat} {o : Nat → Option Nat} {v : Value} {w' : World} (hn : n ≤ 300) (h : GaveF w (ifFit n n (tab n o)) v w') : ∃ ao cap rs, v = .slice ao n cap ∧ rs.length = n ∧ LN (tab n o) rs ∧ GRow w' ao rs ∧ FW rs ∧ Below w.heap.size w w' := by
  obtain ⟨ao, cap, rs, h1, h2, h3, h4, h5, h6⟩ := h
  unfold ifFit at h2
  rw [fit_same hn, if_pos rfl] at h2
  have hl : rs.length = n := by rw [h2.1, tab_len]
  exact ⟨ao, cap, rs, by rw [h1, hl], hl, h2, h3, h2.fw, h6⟩
theorem vaxpy_n {n t : Nat} (hn : n ≤ 300) (ht : t < 18446744073709551616) {xs ys : List Nat} (lx : xs.length = n) (ly : ys.length = n) (ao bo : Option Addr) (cap cap2 : Nat) (hF : FW xs) (hG : FW ys) (w : World) (hr : GRow w ao xs) (hs : GRow w bo ys) :
    Calls Try.prog 6 #[.float .f64 t, .slice ao n cap, .slice bo n cap2] w fun e w' => ∃ co cc rs, e = .returned (.tuple #[.slice co n cc, .int .i64 0]) ∧ rs.length = n ∧ LN (tab n (axO t xs ys)) rs ∧ GRow w' co rs ∧ FW rs ∧ Below w.heap.size w w' := by
  have h := vaxpy_any t xs ys ao bo cap cap2 w ht hr hs hF hG (by omega) (by omega)
  rw [lx, ly, fit_same hn] at h
  refine h.mono ?_
  rintro e w' ⟨v, rfl, hv⟩
  obtain ⟨co, cc, rs, rfl, g⟩ := hv.n hn
  exact ⟨co, cc, rs, rfl, g⟩
theorem vadd_n {n : Nat} (hn : n ≤ 300) {xs ys : List Nat} (lx : xs.length = n) (ly : ys.length = n) (ao bo : Option Addr) (cap cap2 : Nat) (hF : FW xs) (hG : FW ys) (w : World) (hr : GRow w ao xs) (hs : GRow w bo ys) :
    Calls Try.prog 7 #[.slice ao n cap, .slice bo n cap2] w fun e w' => ∃ co cc rs, e = .returned (.tuple #[.slice co n cc, .int .i64 0]) ∧ rs.length = n ∧ LN (tab n (adO xs ys)) rs ∧ GRow w' co rs ∧ FW rs ∧ Below w.heap.size w w' := by
  have h := vadd_any xs ys ao bo cap cap2 w hr hs hF hG (by omega) (by omega)
  rw [lx, ly, fit_same hn] at h
  refine h.mono ?_
  rintro e w' ⟨v, rfl, hv⟩
  obtain ⟨co, cc, rs, rfl, g⟩ := hv.n hn
  exact ⟨co, cc, rs, rfl, g⟩
theorem vsub_n {n : Nat} (hn : n ≤ 300) {xs ys : List Nat} (lx : xs.length = n) (ly : ys.length = n) (ao bo : Option Addr) (cap cap2 : Nat) (hF : FW xs) (hG : FW ys) (w : World) (hr : GRow w ao xs) (hs : GRow w bo ys) :
    Calls Try.prog 8 #[.slice ao n cap, .slice bo n cap2] w fun e w' => ∃ co cc rs, e = .returned (.tuple #[.slice co n cc, .int .i64 0]) ∧ rs.length = n ∧ LN (tab n (sbO xs ys)) rs ∧ GRow w' co rs ∧ FW rs ∧ Below w.heap.size w w' := by
  have h := vsub_any xs ys ao bo cap cap2 w hr hs hF hG (by omega) (by omega)
  rw [lx, ly, fit_same hn] at h
  refine h.mono ?_
  rintro e w' ⟨v, rfl, hv⟩
  obtain ⟨co, cc, rs, rfl, g⟩ := hv.n hn
  exact ⟨co, cc, rs, rfl, g⟩
theorem vscale_n {n t : Nat} (hn : n ≤ 300) (ht : t < 18446744073709551616) {xs : List Nat} (lx : xs.length = n) (ao : Option Addr) (cap : Nat) (hF : FW xs) (w : World) (hr : GRow w ao xs) :
    Calls Try.prog 14 #[.float .f64 t, .slice ao n cap] w fun e w' => ∃ co cc rs, e = .returned (.slice co n cc) ∧ rs.length = n ∧ LN (tab n (scO t xs)) rs ∧ GRow w' co rs ∧ FW rs ∧ Below w.heap.size w w' := by
  have h := vscale_any t xs ao cap w ht hr hF (by omega)
  rw [lx] at h
  refine h.mono ?_
  rintro e w' ⟨v, rfl, ao, cap, rs, h1, h2, h3, h4, h5, h6⟩
  have hl : rs.length = n := by rw [h2.1, tab_len]
  exact ⟨ao, cap, rs, by rw [h1, hl], hl, h2, h3, h2.fw, h6⟩
theorem vnorm_n {n : Nat} (hn : n ≤ 300) {xs : List Nat} (lx : xs.length = n) (ao : Option Addr) (cap : Nat) (hF : FW xs) (w : World) (hr : GRow w ao xs) :
    Calls Try.prog 16 #[.slice ao n cap] w fun e w' => ∃ r, e = .returned (.float .f64 r) ∧ NR (nrO xs n) r ∧ Below w.heap.size w w' := by
  have h := vnorm_any xs ao cap w hr hF (by omega)
  rw [lx] at h
  exact h
theorem vsame_n {n : Nat} (hn : n ≤ 300) {os : List (Option Nat)} {rs ss : List Nat} (l1 : rs.length = n) (l2 : ss.length = n) (hr : LN os rs) (hs : LN os ss) (ao bo : Option Addr) (cap cap2 : Nat) (w : World) (g1 : GRow w ao rs) (g2 : GRow w bo ss) :
    Calls Try.prog 10 #[.slice ao n cap, .slice bo n cap2] w fun e w' => e = .returned (.bool true) ∧ Below w.heap.size w w' := by
  have h := vsame_LN hr hs ao bo cap cap2 w g1 g2 (by rw [← hr.1]; omega)
  rw [l1, l2] at h
  exact h
theorem pwT_lt {t : Nat} (h : PwT t) : t < 18446744073709551616 ∧ finB t = true := by
  obtain ⟨j, _, h | h⟩ := h
  · exact ⟨h.1, h.2.1⟩
  · exact ⟨h.1, h.2.1⟩
/-- What the first half leaves, and the second half begins with. -/
theorem bth {w W W' : World} (h : Below w.heap.size w W) (b : Below W.heap.size W W') : Below w.heap.size w W' := h.trans (b.mono h.size)
set_option maxRecDepth 100000 in
set_option maxHeartbeats 4000000 in
theorem even_row (xs0 : List Nat) (ao : Option Addr) (cap : Nat) (ys0 : List Nat) (bo : Option Addr) (cap2 : Nat) (kk : Int) (w : World) (hr0 : GRow w ao xs0) (hF0 : FW xs0) (hn0 : xs0.length ≤ cap) (_hc : cap ≤ 17592186044416) (hs0 : GRow w bo ys0) (hG0 : FW ys0) (hm0 : ys0.length ≤ cap2) (_hd : cap2 ≤ 17592186044416) (_h1 : -9223372036854775808 ≤ kk) (_h2 : kk ≤ 9223372036854775807) :
    Calls Try.prog 3 #[.slice ao xs0.length cap, .slice bo ys0.length cap2, .int .i64 kk] w fun e w' => e = .returned (.bool true) ∧ Below w.heap.size w w' := by
  have HB0 : Below w.heap.size w w := Below.refl _ _
  go_enter Try.func3, Try.ntmps3
  go_upto_region 3 with (go_at_call 4; refine (vawake _).mono ?_; rintro e wa ⟨rfl, ba⟩)
  obtain ⟨n, hn⟩ : ∃ n, n = min (min xs0.length ys0.length) 300 := ⟨_, rfl⟩
  have n1 : n ≤ xs0.length := by omega
  have n2 : n ≤ ys0.length := by omega
  have n3 : n ≤ 300 := by omega
  have HN : Hid (n = min (min xs0.length ys0.length) 300) := hn
  clear hn
  go_cut [29, 30, 31, 32, 33, 7] (fun _ _ _ _ _ t wx => t = .int .i64 n ∧ wx = wa)
  case first =>
    go_wp2
    all_goals
      go_meet
      exact ⟨congrArg (Value.int .i64) (by have := HN.out; omega), rfl⟩
  obtain ⟨rfl, rfl⟩ := hcut
  clear HN
  have j1 : (n : Int) ≤ (cap : Int) := by omega
  have j2 : (n : Int) ≤ (cap2 : Int) := by omega
  obtain ⟨us, hus⟩ : ∃ us, us = xs0.take n := ⟨_, rfl⟩
  obtain ⟨vs, hvs⟩ : ∃ vs, vs = ys0.take n := ⟨_, rfl⟩
  have lu : Hid (us.length = n) := (show us.length = n by rw [hus, List.length_take]; omega)
  have lv : Hid (vs.length = n) := (show vs.length = n by rw [hvs, List.length_take]; omega)
  have hF : FW us := by rw [hus]; exact hF0.cut n
  have hG : FW vs := by rw [hvs]; exact hG0.cut n
  have hr : GRow w ao us := by rw [hus]; exact hr0.cut n
  have hs : GRow w bo vs := by rw [hvs]; exact hs0.cut n
  clear hr0 hs0 hF0 hG0 hn0 hm0 n1 n2 hus hvs
  have hr := hr.below ba
  have hs := hs.below ba
  have HB := bth HB0 ba
  clear ba
  go_upto_region 4 with fail
  go_cut [34, 35, 36, 37, 38, 39, 0, 1] (fun _ _ _ _ _ _ a b wx => a = .slice ao n cap ∧ b = .slice bo n cap2 ∧ GRow wx ao us ∧ GRow wx bo vs ∧ Below w.heap.size w wx)
  case first =>
    go_quiet (fail)
    go_wp2
    go_meet
    exact ⟨rfl, rfl, hr.below (below_drewN (Below.refl _ _) _), hs.below (below_drewN (Below.refl _ _) _), below_drewN HB _⟩
  clear hr hs HB
  obtain ⟨rfl, rfl, hr, hs, HB⟩ := hcut
  have cD := vdot_n n3 lu.out lv.out ao bo cap cap2 hF hG
  have cE := vdot_n n3 lv.out lu.out bo ao cap2 cap hG hF
  rw [dt_comm] at cE
  have cX := vaxpy_n n3 (t := 4607182418800017408) (by omega) lu.out lv.out ao bo cap cap2 hF hG
  have cA := vadd_n n3 lu.out lv.out ao bo cap cap2 hF hG
  have cY := vaxpy_n n3 (t := 13830554455654793216) (by omega) lu.out lv.out ao bo cap cap2 hF hG
  have cS := vsub_n n3 lv.out lu.out bo ao cap2 cap hG hF
  have e1 := ax_one_tab (ys := vs) hF
  have e2 := ax_neg_tab (ys := vs) hF
  rw [lu.out] at e1 e2
  rw [e1] at cX
  rw [e2] at cY
  clear e1 e2
  go_upto_region 6 with (go_at_call 5; refine (cD _ hr hs).mono ?_; rintro e wz ⟨p, rfl, np, bz⟩; replace hr := hr.below bz; replace hs := hs.below bz; replace HB := bth HB bz)
  go_upto_region 7 with (go_at_call 5; refine (cE _ hs hr).mono ?_; rintro e wz ⟨q, rfl, nq, bz⟩; replace hr := hr.below bz; replace hs := hs.below bz; replace HB := bth HB bz)
  go_upto_region 9 with (first
    | (go_at_call 6; refine (cX _ hr hs).mono ?_; rintro e wz ⟨o1, c1, r1, rfl, l1, m1, g1, f1, bz⟩; replace hr := hr.below bz; replace hs := hs.below bz; replace HB := bth HB bz)
    | (go_at_call 7; refine (cA _ hr hs).mono ?_; rintro e wz ⟨o2, c2, r2, rfl, l2, m2, g2, f2, bz⟩; replace hr := hr.below bz; replace hs := hs.below bz; replace HB := bth HB bz; replace g1 := g1.below bz))
  clear cD cE cX cA
  go_upto_region 11 with (first
    | (go_at_call 6; refine (cY _ hr hs).mono ?_; rintro e wz ⟨o3, c3, r3, rfl, l3, m3, g3, f3, bz⟩; replace hr := hr.below bz; replace hs := hs.below bz; replace HB := bth HB bz; replace g1 := g1.below bz; replace g2 := g2.below bz)
    | (go_at_call 8; refine (cS _ hs hr).mono ?_; rintro e wz ⟨o4, c4, r4, rfl, l4, m4, g4, f4, bz⟩; replace hr := hr.below bz; replace hs := hs.below bz; replace HB := bth HB bz; replace g1 := g1.below bz; replace g2 := g2.below bz; replace g3 := g3.below bz))
  clear cY cS
  go_upto_region 13 with (first
    | (go_at_call 9; refine (vsameNR np nq _).mono ?_; rintro e w' ⟨rfl, h'⟩; subst w')
    | (go_at_call_of 10 (Value.slice o1 n c1); refine (vsame_n n3 l1 l2 m1 m2 _ _ _ _ _ g1 g2).mono ?_; rintro e wz ⟨rfl, bz⟩; replace hr := hr.below bz; replace hs := hs.below bz; replace HB := bth HB bz; replace g3 := g3.below bz; replace g4 := g4.below bz)
    | (go_at_call 10; refine (vsame_n n3 l3 l4 m3 m4 _ _ _ _ _ g3 g4).mono ?_; rintro e wz ⟨rfl, bz⟩; replace hr := hr.below bz; replace hs := hs.below bz; replace HB := bth HB bz))
  clear nq l1 l2 l3 l4 m1 m2 m3 m4 g1 g2 g3 g4 f1 f2 f3 f4
  go_wp2
  go_loopg [20, 21, 22] n (fun g i _ _ wr => ∃ k : Nat, k ≤ n ∧ g = n - k ∧ i = .int .i64 k ∧ Hid (∀ j, j < k → Tame (us.getD j 0) ∧ Tame (vs.getD j 0)) ∧ GRow wr ao us ∧ GRow wr bo vs ∧ Below w.heap.size w wr)
  case atStart => exact ⟨0, Nat.zero_le _, rfl, rfl, fun j hj => by omega, hr, hs, HB⟩
  case round =>
    clear hr hs HB
    obtain ⟨k, hk, hg, rfl, hTm, hr, hs, HB⟩ := hrel
    have HG : Hid (gk = n - k) := hg
    clear hg
    by_cases hlt : k < n
    · as_aux_lemma =>
      have lu' := lu.out
      have lv' := lv.out
      rcases hr.below (Below.refl _ _) with h | ⟨b, off, rfl, hcc⟩
      · omega
      rcases hs.below (Below.refl _ _) with h | ⟨b2, off2, rfl, hdd⟩
      · omega
      have g1 := hcc k (by omega)
      have g2 := hdd k (by omega)
      have hx := hF.at (k := k) (by omega)
      have hy := hG.at (k := k) (by omega)
      have HS : Hid (Tame (us.getD k 0) → Tame (vs.getD k 0) → ∀ j, j < k + 1 → Tame (us.getD j 0) ∧ Tame (vs.getD j 0)) := fun t1 t2 j hj => by
        by_cases e : j = k
        · subst e; exact ⟨t1, t2⟩
        · exact hTm.out j (by omega)
      clear hcc hdd lu' lv' hTm
      have i1 : (k : Int) < (n : Int) := by omega
      generalize us.getD k 0 = x at *
      generalize vs.getD k 0 = y at *
      have ca := abs_any x hx
      have cb := abs_any y hy
      have HQ : Hid (∀ m, GRow (wr.drewN m) (some ⟨b, off, none⟩) us ∧ GRow (wr.drewN m) (some ⟨b2, off2, none⟩) vs ∧ Below w.heap.size w (wr.drewN m)) := fun m => ⟨hr.below (below_drewN (Below.refl _ _) _), hs.below (below_drewN (Below.refl _ _) _), below_drewN HB _⟩
      clear hr hs HB
      rcases tame_tests hx with ⟨x0, z1⟩ | ⟨tx, z1, z2, z3⟩ | ⟨z1, z2⟩ | ⟨z1, z2, z3⟩
      · have TX : Hid (Tame x) := ⟨hx, Or.inl x0⟩
        clear x0
        rcases tame_tests hy with ⟨y0, v1⟩ | ⟨ty, v1, v2, v3⟩ | ⟨v1, v2⟩ | ⟨v1, v2, v3⟩
        · have TY : Hid (Tame y) := ⟨hy, Or.inl y0⟩
          clear y0
          go_upto_region 16 with fail
          go_quiet ((first | (go_at_call_of 11 (Value.float FloatKind.f64 x); exact Calls.quiet_of_same (ca _)) | (go_at_call_of 11 (Value.float FloatKind.f64 y); exact Calls.quiet_of_same (cb _))))
          go_wp2
          go_roundg (n - (k + 1))
          case measure => rw [HG.out]; omega
          case rel => exact ⟨k + 1, by omega, rfl, by go_num, HS.out TX.out TY.out, HQ.out _⟩
        · have TY : Hid (Tame y) := ty
          clear ty
          go_upto_region 16 with fail
          go_quiet ((first | (go_at_call_of 11 (Value.float FloatKind.f64 x); exact Calls.quiet_of_same (ca _)) | (go_at_call_of 11 (Value.float FloatKind.f64 y); exact Calls.quiet_of_same (cb _))))
          go_wp2
          go_roundg (n - (k + 1))
          case measure => rw [HG.out]; omega
          case rel => exact ⟨k + 1, by omega, rfl, by go_num, HS.out TX.out TY.out, HQ.out _⟩
        · go_upto_region 16 with fail
          go_quiet ((first | (go_at_call_of 11 (Value.float FloatKind.f64 x); exact Calls.quiet_of_same (ca _)) | (go_at_call_of 11 (Value.float FloatKind.f64 y); exact Calls.quiet_of_same (cb _))))
          go_wp2
          go_ret
          exact ⟨rfl, (HQ.out _).2.2⟩
        · go_upto_region 16 with fail
          go_quiet ((first | (go_at_call_of 11 (Value.float FloatKind.f64 x); exact Calls.quiet_of_same (ca _)) | (go_at_call_of 11 (Value.float FloatKind.f64 y); exact Calls.quiet_of_same (cb _))))
          go_wp2
          go_ret
          exact ⟨rfl, (HQ.out _).2.2⟩
      · have TX : Hid (Tame x) := tx
        clear tx
        rcases tame_tests hy with ⟨y0, v1⟩ | ⟨ty, v1, v2, v3⟩ | ⟨v1, v2⟩ | ⟨v1, v2, v3⟩
        · have TY : Hid (Tame y) := ⟨hy, Or.inl y0⟩
          clear y0
          go_upto_region 16 with fail
          go_quiet ((first | (go_at_call_of 11 (Value.float FloatKind.f64 x); exact Calls.quiet_of_same (ca _)) | (go_at_call_of 11 (Value.float FloatKind.f64 y); exact Calls.quiet_of_same (cb _))))
          go_wp2
          go_roundg (n - (k + 1))
          case measure => rw [HG.out]; omega
          case rel => exact ⟨k + 1, by omega, rfl, by go_num, HS.out TX.out TY.out, HQ.out _⟩
        · have TY : Hid (Tame y) := ty
          clear ty
          go_upto_region 16 with fail
          go_quiet ((first | (go_at_call_of 11 (Value.float FloatKind.f64 x); exact Calls.quiet_of_same (ca _)) | (go_at_call_of 11 (Value.float FloatKind.f64 y); exact Calls.quiet_of_same (cb _))))
          go_wp2
          go_roundg (n - (k + 1))
          case measure => rw [HG.out]; omega
          case rel => exact ⟨k + 1, by omega, rfl, by go_num, HS.out TX.out TY.out, HQ.out _⟩
        · go_upto_region 16 with fail
          go_quiet ((first | (go_at_call_of 11 (Value.float FloatKind.f64 x); exact Calls.quiet_of_same (ca _)) | (go_at_call_of 11 (Value.float FloatKind.f64 y); exact Calls.quiet_of_same (cb _))))
          go_wp2
          go_ret
          exact ⟨rfl, (HQ.out _).2.2⟩
        · go_upto_region 16 with fail
          go_quiet ((first | (go_at_call_of 11 (Value.float FloatKind.f64 x); exact Calls.quiet_of_same (ca _)) | (go_at_call_of 11 (Value.float FloatKind.f64 y); exact Calls.quiet_of_same (cb _))))
          go_wp2
          go_ret
          exact ⟨rfl, (HQ.out _).2.2⟩
      · go_upto_region 16 with fail
        go_quiet ((first | (go_at_call_of 11 (Value.float FloatKind.f64 x); exact Calls.quiet_of_same (ca _)) | (go_at_call_of 11 (Value.float FloatKind.f64 y); exact Calls.quiet_of_same (cb _))))
        go_wp2
        go_ret
        exact ⟨rfl, (HQ.out _).2.2⟩
      · go_upto_region 16 with fail
        go_quiet ((first | (go_at_call_of 11 (Value.float FloatKind.f64 x); exact Calls.quiet_of_same (ca _)) | (go_at_call_of 11 (Value.float FloatKind.f64 y); exact Calls.quiet_of_same (cb _))))
        go_wp2
        go_ret
        exact ⟨rfl, (HQ.out _).2.2⟩
    · have i1 : ¬ (k : Int) < (n : Int) := by omega
      have hT2 : ∀ j, j < n → Tame (us.getD j 0) := fun j hj => (hTm.out j (by omega)).1
      have hT3 : ∀ j, j < n → Tame (vs.getD j 0) := fun j hj => (hTm.out j (by omega)).2
      clear hTm
      go_upto_region 20 with (first
        | (go_at_call 13; refine (pick41 _ _).mono ?_; rintro e w' ⟨m, rfl, a1, a2, h'⟩; subst w')
        | (go_at_call 12; refine (ldexp_one _ (by omega) (by omega) _).mono ?_; rintro e w' ⟨t, rfl, hT, h'⟩; subst w'))
      clear a1 a2
      have ht := pwT_lt hT
      go_upto_region 21 with (first
        | (go_at_call 14; refine (vscale_n n3 ht.1 lu.out ao cap hF _ hr).mono ?_; rintro e wz ⟨o5, c5, r5, rfl, l5, m5, g5, f5, bz⟩; replace hr := hr.below bz; replace hs := hs.below bz; replace HB := bth HB bz)
        | (go_at_call 5; refine (vdot_n n3 l5 lv.out o5 bo c5 cap2 f5 hG _ g5 hs).mono ?_; rintro e wz ⟨r, rfl, nr, bz⟩; replace hr := hr.below bz; replace hs := hs.below bz; replace HB := bth HB bz))
      obtain ⟨⟨p0, r0, d1, d2, d3⟩, _⟩ := even_two hT n3 hT2 hT3 m5
      rw [d2] at nr
      rw [d1] at np
      obtain ⟨pl, ep⟩ := np
      obtain ⟨rl, er⟩ := nr
      subst ep
      subst er
      clear l5 m5 g5 f5 d2
      go_upto_region 22 with (first
        | (go_at_call 14; refine (vscale_n n3 (by omega) lu.out ao cap hF _ hr).mono ?_; rintro e wz ⟨o6, c6, r6, rfl, l6, m6, g6, f6, bz⟩; replace hr := hr.below bz; replace hs := hs.below bz; replace HB := bth HB bz)
        | (go_at_call 5; refine (vdot_n n3 l6 lv.out o6 bo c6 cap2 f6 hG _ g6 hs).mono ?_; rintro e wz ⟨s, rfl, ns, bz⟩; replace hr := hr.below bz; replace hs := hs.below bz; replace HB := bth HB bz))
      obtain ⟨p1, s1, d4, d5, hNg⟩ := even_neg n3 hT2 hT3 m6
      rw [d1] at d4
      rw [d5] at ns
      obtain ⟨sl, es⟩ := ns
      subst es
      have ep : p = p1 := Option.some.inj d4
      subst ep
      have lk := ng_like hNg
      clear l6 m6 g6 f6 d5 d4 d1 hNg
      go_upto_region 23 with (first
        | (go_at_call 14; refine (vscale_n n3 (by omega) lu.out ao cap hF _ hr).mono ?_; rintro e wz ⟨o7, c7, r7, rfl, l7, m7, g7, f7, bz⟩; replace hr := hr.below bz; replace hs := hs.below bz; replace HB := bth HB bz)
        | (go_at_call 7; refine (vadd_n n3 lu.out l7 ao o7 cap c7 hF f7 _ hr g7).mono ?_; rintro e wz ⟨o8, c8, r8, rfl, l8, m8, g8, f8, bz⟩; replace hr := hr.below bz; replace hs := hs.below bz; replace HB := bth HB bz))
      have nz := none_norm hT2 m7 m8 n (Nat.le_refl _)
      clear l7 m7 g7 f7 m8
      have hm1 : ∀ w, (binOp .mul 24 (.float .f64 t) (.float .f64 p)).run Try.prog w = .ok (.float .f64 r) w := fun w => run_float_arith w .mul 24 .f64 t p r d3
      have hng := run_negf p
      have q0 : (FloatKind.f64.format.order 0 0 == some .eq) = true := by kernel_rfl
      clear d3
      go_wp2_with (first
        | (go_at_call_of 9 (Value.float FloatKind.f64 r); refine (vsameNR (o := some r) ⟨rl, rfl⟩ ⟨rl, rfl⟩ _).mono ?_; rintro e w' ⟨rfl, h'⟩; subst w')
        | (go_at_call 15; refine (vlike _ _ lk _).mono ?_; rintro e w' ⟨rfl, h'⟩; subst w')
        | (go_at_call_of 16 (Value.slice o8 n c8); refine (vnorm_n n3 l8 o8 c8 f8 _ g8).mono ?_; rintro e wz ⟨z, rfl, nz2, bz⟩; replace hr := hr.below bz; replace hs := hs.below bz; replace HB := bth HB bz; rw [nz] at nz2; obtain ⟨_, ez⟩ := nz2; subst ez)
        | (go_at_call 14; refine (vscale_n n3 ht.1 lu.out ao cap hF _ hr).mono ?_; rintro e wz ⟨o9, c9, r9, rfl, l9, m9, g9, f9, bz⟩; replace hr := hr.below bz; replace hs := hs.below bz; replace HB := bth HB bz)
        | (go_at_call_of 16 (Value.slice o9 n c9); refine (vnorm_n n3 l9 o9 c9 f9 _ g9).mono ?_; rintro e wz ⟨N9, rfl, n9, bz⟩; replace hr := hr.below bz; replace hs := hs.below bz; replace HB := bth HB bz)
        | (go_at_call_of 16 (Value.slice ao n cap); refine (vnorm_n n3 lu.out ao cap hF _ hr).mono ?_; rintro e wz ⟨NU, rfl, nu, bz⟩; replace hr := hr.below bz; replace hs := hs.below bz; replace HB := bth HB bz; obtain ⟨_, u1, v1, d6, d7, d8⟩ := even_two hT n3 hT2 hT3 m9; rw [d6] at nu; rw [d7] at n9; obtain ⟨ul, eu⟩ := nu; obtain ⟨vl, ev⟩ := n9; subst eu; subst ev; have hm2 : ∀ w, (binOp .mul 24 (.float .f64 t) (.float .f64 NU)).run Try.prog w = .ok (.float .f64 N9) w := (fun w => run_float_arith w .mul 24 .f64 t NU N9 d8))
        | (go_at_call 9; refine (vsameNR (o := some N9) ⟨vl, rfl⟩ ⟨vl, rfl⟩ _).mono ?_; rintro e w' ⟨rfl, h'⟩; subst w'))
      go_ret
      exact ⟨rfl, HB⟩
end Go.Proofs.Ytngkknbikljpkaa
