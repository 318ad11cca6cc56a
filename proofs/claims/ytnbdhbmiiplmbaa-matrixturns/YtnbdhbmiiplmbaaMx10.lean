/- MatrixTurns: its walk. -/
import Derived.Test.YtnbdhbmiiplmbaaMx8
import Derived.Test.YtnbdhbmiiplmbaaMx9
namespace Go.Proofs.Ytnbdhbmiiplmbaa
open Go.RowKit

/-- A right matrix in a box. -/
structure HM (w : World) (A R C : Nat) (ao : Option Addr) (cap : Nat) (xs : List Nat) : Prop where
  box : B3 w A (.int .i64 R) (.int .i64 C) (.slice ao xs.length cap)
  row : GRow w ao xs
  fw : FW xs
  len : xs.length = R * C
theorem HM.below {w w1 : World} {A R C : Nat} {ao : Option Addr} {cap : Nat} {xs : List Nat} (h : HM w A R C ao cap xs) (hb : Below w.heap.size w w1) : HM w1 A R C ao cap xs := ⟨h.box.below hb, h.row.below hb, h.fw, h.len⟩
theorem HM.new {w : World} {R C : Nat} {ao : Option Addr} {cap : Nat} {xs : List Nat} (hr : GRow w ao xs) (hF : FW xs) (hl : xs.length = R * C) (t : TypeId) : HM (w.alloc (.cells #[.int .i64 R, .int .i64 C, .slice ao xs.length cap] t)) w.heap.size R C ao cap xs :=
  ⟨B3.new _ _ _ _ _, hr.below (below_one _ _), hF, hl⟩
theorem HM.newAt {w : World} {n R C : Nat} {ao : Option Addr} {cap : Nat} {xs : List Nat} (hn : w.heap.size = n) (hr : GRow w ao xs) (hF : FW xs) (hl : xs.length = R * C) (t : TypeId) : HM (w.alloc (.cells #[.int .i64 R, .int .i64 C, .slice ao xs.length cap] t)) n R C ao cap xs := by subst hn; exact HM.new hr hF hl t
theorem HM.alloc {w : World} {A R C : Nat} {ao : Option Addr} {cap : Nat} {xs : List Nat} (h : HM w A R C ao cap xs) (o : Obj) : HM (w.alloc o) A R C ao cap xs := h.below (below_one _ _)
/-- A matrix handed back without an error. -/
def GaveR (w : World) (R C : Nat) (o : Nat → Nat → Option Nat) (e : Ending) (w' : World) : Prop := ∃ zo zc zs, e = .returned (.tuple #[mxV R C zo zs.length zc, .int .i64 0]) ∧ LN (tabM R C o) zs ∧ GRow w' zo zs ∧ Below w.heap.size w w'
theorem mmul_R {R C D : Nat} {xs ys : List Nat} {ao bo : Option Addr} (cap cap2 : Nat) {w : World} (hr : GRow w ao xs) (hs : GRow w bo ys) (hF : FW xs) (hG : FW ys) (hl : xs.length = R * C) (hm : ys.length = C * D) (hR : R ≤ 48) (hC : C ≤ 48) (hD : D ≤ 48) :
    Calls Try.prog 13 #[mxV R C ao xs.length cap, mxV C D bo ys.length cap2] w fun e w' => GaveR w R D (fun i j => muO C D xs ys i j C) e w' := by
  have h := mmul_any R C xs C D ys ao bo cap cap2 w hr hs hF hG
  have e1 : mlA R C xs C D ys = ⟨R, D, tabM R D (fun i j => muO C D xs ys i j C), 0⟩ := by
    unfold mlA
    rw [hl, hm, rightM_yes hR hC, rightM_yes hC hD, decide_eq_true rfl]
    rfl
  rw [e1] at h
  refine Calls.mono h ?_
  rintro e w' ⟨_, rfl, zo, zc, zs, rfl, h2, h3, _, _, h6⟩
  exact ⟨zo, zc, zs, rfl, h2, h3, h6⟩
theorem mtrans_R {R C : Nat} {xs : List Nat} {ao : Option Addr} (cap : Nat) {w : World} (hr : GRow w ao xs) (hF : FW xs) (hl : xs.length = R * C) (hR : R ≤ 48) (hC : C ≤ 48) :
    Calls Try.prog 28 #[mxV R C ao xs.length cap] w fun e w' => GaveR w C R (fun i j => enO C xs j i) e w' := by
  have h := mtrans_any R C xs ao cap w hr hF
  have e1 : trA R C xs = ⟨C, R, tabM C R (fun i j => enO C xs j i), 0⟩ := by
    unfold trA
    rw [hl, rightM_yes hR hC]
    rfl
  rw [e1] at h
  refine Calls.mono h ?_
  rintro e w' ⟨_, rfl, zo, zc, zs, rfl, h2, h3, _, _, h6⟩
  exact ⟨zo, zc, zs, rfl, h2, h3, h6⟩
theorem mapply_R {R C : Nat} {xs ys : List Nat} {ao bo : Option Addr} (cap cap2 : Nat) {w : World} (hr : GRow w ao xs) (hs : GRow w bo ys) (hF : FW xs) (hG : FW ys) (hl : xs.length = R * C) (hm : ys.length = C) (hR : R ≤ 48) (hC : C ≤ 48) :
    Calls Try.prog 37 #[mxV R C ao xs.length cap, .slice bo ys.length cap2] w fun e w' => ∃ zo zc zs, e = .returned (.tuple #[.slice zo zs.length zc, .int .i64 0]) ∧ LN (tabM R 1 (fun i j => muO C 1 xs ys i j C)) zs ∧ GRow w' zo zs ∧ Below w.heap.size w w' := by
  have h := mapply_any R C xs ys ao bo cap cap2 w hr hs hF hG
  have e1 : mlA R C xs C 1 ys = ⟨R, 1, tabM R 1 (fun i j => muO C 1 xs ys i j C), 0⟩ := by
    have h1 : rightM C 1 (C * 1) = true := rightM_yes (C := 1) hC (by omega)
    unfold mlA
    rw [hl, hm]
    rw [Nat.mul_one] at h1
    rw [rightM_yes hR hC, h1, decide_eq_true rfl]
    rfl
  unfold apA at h
  rw [e1] at h
  refine Calls.mono h ?_
  rintro e w' ⟨_, rfl, zo, zc, zs, rfl, h2, h3, _, _, h6⟩
  exact ⟨zo, zc, zs, rfl, h2, h3, h6⟩
theorem ksame_R {R C : Nat} {xs ys : List Nat} {ao bo : Option Addr} (cap cap2 : Nat) {w : World} (hr : GRow w ao xs) (hs : GRow w bo ys) (hF : FW xs) (hG : FW ys) (hn : xs.length ≤ 2304) (hm : ys.length ≤ 2304) (h : sameL xs ys = true) :
    Calls Try.prog 42 #[mxV R C ao xs.length cap, mxV R C bo ys.length cap2] w fun e w' => e = .returned (.bool true) ∧ Below w.heap.size w w' := by
  have k := ksame_any R C xs R C ys ao bo cap cap2 w hr hs hF hG (by omega) (by omega)
  rw [sameM_yes h] at k
  exact k
theorem psame_R {R C : Nat} {xs ys : List Nat} {ao bo : Option Addr} (cap cap2 : Nat) {w : World} (hr : GRow w ao xs) (hs : GRow w bo ys) (hF : FW xs) (hG : FW ys) (hn : xs.length ≤ 2304) (hm : ys.length ≤ 2304) (h : sameL xs ys = true) :
    Calls Try.prog 25 #[mxV R C ao xs.length cap, mxV R C bo ys.length cap2] w fun e w' => e = .returned (.bool true) ∧ Below w.heap.size w w' := by
  have k := msame_any R C xs R C ys ao bo cap cap2 w hr hs hF hG (by omega) (by omega)
  rw [sameM_yes h] at k
  exact k
/-- The first q numbers of column c. -/
def colL (ys : List Nat) (D c q : Nat) : List Nat := (List.range q).map fun k => ys.getD (k * D + c) 0
theorem colL_len (ys : List Nat) (D c q : Nat) : (colL ys D c q).length = q := by simp [colL]
theorem colL_at {ys : List Nat} {D c q k : Nat} (h : k < q) : (colL ys D c q).getD k 0 = ys.getD (k * D + c) 0 := by simp [colL, List.getD_eq_getElem?_getD, h]
theorem colL_succ (ys : List Nat) (D c q : Nat) : colL ys D c (q + 1) = colL ys D c q ++ [ys.getD (q * D + c) 0] := by simp [colL, List.range_succ]
theorem msreals_LN {os : List (Option Nat)} {rs ss : List Nat} (hr : LN os rs) (hs : LN os ss) {ao bo : Option Addr} (cap cap2 : Nat) {w : World} (g1 : GRow w ao rs) (g2 : GRow w bo ss) (hl : os.length ≤ 2304) :
    Calls Try.prog 39 #[.slice ao rs.length cap, .slice bo ss.length cap2] w fun e w' => e = .returned (.bool true) ∧ Below w.heap.size w w' := by
  have h := sreals_any rs ss ao bo cap cap2 w g1 g2 hr.fw hs.fw (by rw [hr.1]; omega) (by rw [hs.1]; omega)
  rw [hr.same hs] at h
  exact h
theorem colL_fw {ys : List Nat} (h : FW ys) {D c q : Nat} (hq : ∀ k, k < q → k * D + c < ys.length) : FW (colL ys D c q) := fun x hx => by
  obtain ⟨k, hk, rfl⟩ := List.mem_map.1 hx
  exact h.at (hq k (List.mem_range.1 hk))
set_option maxRecDepth 100000 in
set_option maxHeartbeats 4000000 in
theorem turns_law (n m k : Int) (l : List Nat) (lo : Option Addr) (lc : Nat) (r : List Nat) (ro : Option Addr) (rc : Nat) (w : World) (hr : GRow w lo l) (hs : GRow w ro r) (hF : FW l) (hG : FW r) (hn : l.length ≤ 17592186044416) (hm : r.length ≤ 17592186044416) :
    Calls Try.prog 6 #[.int .i64 n, .int .i64 m, .int .i64 k, .slice lo l.length lc, .slice ro r.length rc] w fun e w' => e = .returned (.bool true) ∧ Below w.heap.size w w' := by
  have c1 := fun w h => laid_any n m l lo lc w h hn
  have c2 := fun w h => laid_any m k r ro rc w h hm
  have hR := pk7_le n
  have hC := pk7_le m
  have hD := pk7_le k
  generalize pk7 n = R at *
  generalize pk7 m = C at *
  generalize pk7 k = D at *
  have fx := rndL_fw hF (R * C)
  have fy := rndL_fw hG (C * D)
  have lx := rndL_len l (R * C)
  have ly := rndL_len r (C * D)
  generalize rndL l (R * C) = xs at *
  generalize rndL r (C * D) = ys at *
  rw [← lx] at c1
  rw [← ly] at c2
  have LX : Hid (xs.length = R * C) := lx
  have LY : Hid (ys.length = C * D) := ly
  clear hF hG hn hm lx ly
  go_enter Try.func6, Try.ntmps6
  go_upto_region 2 with (first
    | (go_at_call_of 41 (Value.slice lo l.length lc); refine (c1 _ hr).mono ?_; rintro e w1 ⟨ao, ac, rfl, g1, _, _, b1⟩)
    | (go_at_call_of 41 (Value.slice ro r.length rc); refine (c2 _ (hs.below b1)).mono ?_; rintro e w2 ⟨bo, bc, rfl, g2, _, _, b2⟩))
  have ha : HM ((w2.alloc (.cells #[.int .i64 R, .int .i64 C, .slice ao xs.length ac] 24)).alloc (.cells #[.int .i64 C, .int .i64 D, .slice bo ys.length bc] 24)) w2.heap.size R C ao ac xs := (HM.new (g1.below b2) fx LX.out _).alloc _
  have hb : HM ((w2.alloc (.cells #[.int .i64 R, .int .i64 C, .slice ao xs.length ac] 24)).alloc (.cells #[.int .i64 C, .int .i64 D, .slice bo ys.length bc] 24)) (w2.heap.size + 1) C D bo bc ys := HM.newAt (by go_simp) (g2.below (below_one _ _)) fy LY.out _
  have B2 := b1.trans (b2.mono b1.size)
  have HB : Below w.heap.size w ((w2.alloc (.cells #[.int .i64 R, .int .i64 C, .slice ao xs.length ac] 24)).alloc (.cells #[.int .i64 C, .int .i64 D, .slice bo ys.length bc] 24)) := (B2.alloc B2.size _).alloc (by have := B2.size; simp; omega) _
  clear g1 g2 b1 b2 B2 c1 c2 fx fy LX LY
  generalize (w2.alloc (.cells #[.int .i64 R, .int .i64 C, .slice ao xs.length ac] 24)).alloc (.cells #[.int .i64 C, .int .i64 D, .slice bo ys.length bc] 24) = W at *
  generalize w2.heap.size + 1 = B at *
  generalize w2.heap.size = A at *
  obtain ⟨a0, a1, a2, _⟩ := id ha.box
  obtain ⟨b0, b1, b2, _⟩ := id hb.box
  go_upto_region 3 with (go_at_call 13; refine (mmul_R _ _ ha.row hb.row ha.fw hb.fw ha.len hb.len (by omega) (by omega) (by omega)).mono ?_; rintro e vp ⟨po, pc, ps, rfl, np, gp, bq⟩)
  have hp := HM.new (R := R) (C := D) (cap := pc) gp np.fw (by rw [np.1, tabM_len]) 24
  have hz := bq.alloc bq.size (.cells #[.int .i64 R, .int .i64 D, .slice po ps.length pc] 24)
  replace ha := ha.below hz
  replace hb := hb.below hz
  replace HB := HB.trans (hz.mono HB.size)
  clear hz bq gp a0 a1 a2 b0 b1 b2
  generalize vp.alloc (.cells #[.int .i64 R, .int .i64 D, .slice po ps.length pc] 24) = Wp at *
  generalize vp.heap.size = P at *
  obtain ⟨p0, p1, p2, _⟩ := id hp.box
  go_upto_region 4 with (go_at_call 28; refine (mtrans_R _ hp.row hp.fw hp.len (by omega) (by omega)).mono ?_; rintro e vq ⟨qo, qc, qs, rfl, nq, gq, bq⟩)
  have hq := HM.new (R := D) (C := R) (cap := qc) gq nq.fw (by rw [nq.1, tabM_len]) 24
  have hz := bq.alloc bq.size (.cells #[.int .i64 D, .int .i64 R, .slice qo qs.length qc] 24)
  replace ha := ha.below hz
  replace hb := hb.below hz
  replace hp := hp.below hz
  replace HB := HB.trans (hz.mono HB.size)
  clear hz bq gq p0 p1 p2
  generalize vq.alloc (.cells #[.int .i64 D, .int .i64 R, .slice qo qs.length qc] 24) = Wq at *
  generalize vq.heap.size = T at *
  obtain ⟨a0, a1, a2, _⟩ := id ha.box
  go_upto_region 5 with (go_at_call 28; refine (mtrans_R _ ha.row ha.fw ha.len (by omega) (by omega)).mono ?_; rintro e vs ⟨so, sc, ss, rfl, ns, gs, bq⟩)
  have hs := HM.new (R := C) (C := R) (cap := sc) gs ns.fw (by rw [ns.1, tabM_len]) 24
  have hz := bq.alloc bq.size (.cells #[.int .i64 C, .int .i64 R, .slice so ss.length sc] 24)
  replace ha := ha.below hz
  replace hb := hb.below hz
  replace hp := hp.below hz
  replace hq := hq.below hz
  replace HB := HB.trans (hz.mono HB.size)
  clear hz bq gs a0 a1 a2
  generalize vs.alloc (.cells #[.int .i64 C, .int .i64 R, .slice so ss.length sc] 24) = Ws at *
  generalize vs.heap.size = S at *
  obtain ⟨b0, b1, b2, _⟩ := id hb.box
  go_upto_region 6 with (go_at_call 28; refine (mtrans_R _ hb.row hb.fw hb.len (by omega) (by omega)).mono ?_; rintro e vu ⟨uo, uc, us, rfl, nu, gu, bq⟩)
  have hu := HM.new (R := D) (C := C) (cap := uc) gu nu.fw (by rw [nu.1, tabM_len]) 24
  have hz := bq.alloc bq.size (.cells #[.int .i64 D, .int .i64 C, .slice uo us.length uc] 24)
  replace ha := ha.below hz
  replace hb := hb.below hz
  replace hp := hp.below hz
  replace hq := hq.below hz
  replace hs := hs.below hz
  replace HB := HB.trans (hz.mono HB.size)
  clear hz bq gu b0 b1 b2
  generalize vu.alloc (.cells #[.int .i64 D, .int .i64 C, .slice uo us.length uc] 24) = Wu at *
  generalize vu.heap.size = U at *
  obtain ⟨u0, u1, u2, _⟩ := id hu.box
  obtain ⟨s0, s1, s2, _⟩ := id hs.box
  go_upto_region 7 with (go_at_call 13; refine (mmul_R _ _ hu.row hs.row hu.fw hs.fw hu.len hs.len (by omega) (by omega) (by omega)).mono ?_; rintro e vv ⟨vo, vc, vs, rfl, nv, gv, bq⟩)
  have hv := HM.new (R := D) (C := R) (cap := vc) gv nv.fw (by rw [nv.1, tabM_len]) 24
  have hz := bq.alloc bq.size (.cells #[.int .i64 D, .int .i64 R, .slice vo vs.length vc] 24)
  replace ha := ha.below hz
  replace hb := hb.below hz
  replace hp := hp.below hz
  replace hq := hq.below hz
  replace hs := hs.below hz
  replace hu := hu.below hz
  replace HB := HB.trans (hz.mono HB.size)
  clear hz bq gv u0 u1 u2 s0 s1 s2
  generalize vv.alloc (.cells #[.int .i64 D, .int .i64 R, .slice vo vs.length vc] 24) = Wv at *
  generalize vv.heap.size = V at *
  obtain ⟨s0, s1, s2, _⟩ := id hs.box
  go_upto_region 8 with (go_at_call 28; refine (mtrans_R _ hs.row hs.fw hs.len (by omega) (by omega)).mono ?_; rintro e vy ⟨yo, yc, ys_, rfl, ny, gy, bq⟩)
  have hy := HM.new (R := R) (C := C) (cap := yc) gy ny.fw (by rw [ny.1, tabM_len]) 24
  have hz := bq.alloc bq.size (.cells #[.int .i64 R, .int .i64 C, .slice yo ys_.length yc] 24)
  replace ha := ha.below hz
  replace hb := hb.below hz
  replace hp := hp.below hz
  replace hq := hq.below hz
  replace hs := hs.below hz
  replace hu := hu.below hz
  replace hv := hv.below hz
  replace HB := HB.trans (hz.mono HB.size)
  clear hz bq gy s0 s1 s2
  generalize vy.alloc (.cells #[.int .i64 R, .int .i64 C, .slice yo ys_.length yc] 24) = Wy at *
  generalize vy.heap.size = Y at *
  have e1 := turns_same np nq nu ns nv
  have e2 := twice_same ha.fw ha.len ns ny
  have q36 : ∀ {i j : Nat}, i ≤ 6 → j ≤ 6 → i * j ≤ 2304 := fun h1 h2 => Nat.le_trans (Nat.mul_le_mul h1 h2) (by decide)
  have lt := (show qs.length ≤ 2304 by rw [hq.len]; exact q36 hD hR)
  have lv := (show vs.length ≤ 2304 by rw [hv.len]; exact q36 hD hR)
  have lw := (show ys_.length ≤ 2304 by rw [hy.len]; exact q36 hR hC)
  have lxx := (show xs.length ≤ 2304 by rw [ha.len]; exact q36 hR hC)
  obtain ⟨q0, q1, q2, _⟩ := id hq.box
  obtain ⟨v0, v1, v2, _⟩ := id hv.box
  obtain ⟨y0, y1, y2, _⟩ := id hy.box
  obtain ⟨a0, a1, a2, _⟩ := id ha.box
  go_upto_region 10 with (first
    | (go_at_call_of 42 (Value.agg #[Value.int IntKind.i64 (D : Int), Value.int IntKind.i64 (R : Int), Value.slice qo qs.length qc]); refine (ksame_R _ _ hq.row hv.row hq.fw hv.fw lt lv e1).mono ?_; rintro e wz1 ⟨rfl, bz⟩; replace ha := ha.below bz; replace hb := hb.below bz; replace hp := hp.below bz; replace hu := hu.below bz; replace hq := hq.below bz; replace hv := hv.below bz; replace hy := hy.below bz; replace HB := HB.trans (bz.mono HB.size); obtain ⟨q0, q1, q2, _⟩ := id hq.box; obtain ⟨v0, v1, v2, _⟩ := id hv.box; obtain ⟨y0, y1, y2, _⟩ := id hy.box; obtain ⟨a0, a1, a2, _⟩ := id ha.box)
    | (go_at_call_of 42 (Value.agg #[Value.int IntKind.i64 (R : Int), Value.int IntKind.i64 (C : Int), Value.slice yo ys_.length yc]); refine (ksame_R _ _ hy.row ha.row hy.fw ha.fw lw lxx e2).mono ?_; rintro e wz2 ⟨rfl, bz⟩; replace ha := ha.below bz; replace hb := hb.below bz; replace hp := hp.below bz; replace hu := hu.below bz; replace hq := hq.below bz; replace hv := hv.below bz; replace hy := hy.below bz; replace HB := HB.trans (bz.mono HB.size); obtain ⟨q0, q1, q2, _⟩ := id hq.box; obtain ⟨v0, v1, v2, _⟩ := id hv.box; obtain ⟨y0, y1, y2, _⟩ := id hy.box; obtain ⟨a0, a1, a2, _⟩ := id ha.box)
    | (go_at_call 25; refine (psame_R _ _ hq.row hv.row hq.fw hv.fw lt lv e1).mono ?_; rintro e wz3 ⟨rfl, bz⟩; replace ha := ha.below bz; replace hb := hb.below bz; replace hp := hp.below bz; replace hu := hu.below bz; replace hq := hq.below bz; replace hv := hv.below bz; replace hy := hy.below bz; replace HB := HB.trans (bz.mono HB.size); obtain ⟨q0, q1, q2, _⟩ := id hq.box; obtain ⟨v0, v1, v2, _⟩ := id hv.box; obtain ⟨y0, y1, y2, _⟩ := id hy.box; obtain ⟨a0, a1, a2, _⟩ := id ha.box))
  clear hq hv hy e1 e2 nq nv ny bz a0 a1 a2 q0 q1 q2 v0 v1 v2 y0 y1 y2 lt lv lw
  obtain ⟨i0, hi, hz0, hz1, hz2⟩ := info_parts Try.infoF
  have hps : ps.length = R * D := by rw [np.1, tabM_len]
  have HPS : Hid (ps.length = R * D) := hps
  clear hps
  go_wp2
  go_loopg [25] D (fun g i wr => ∃ c : Nat, c ≤ D ∧ g = D - c ∧ i = .int .i64 c ∧ (HM wr A R C ao ac xs ∧ HM wr B C D bo bc ys ∧ HM wr P R D po pc ps ∧ HM wr U D C uo uc us) ∧ Below w.heap.size w wr)
  case atStart => exact ⟨0, Nat.zero_le _, rfl, rfl, ⟨ha, hb, hp, hu⟩, HB⟩
  case round =>
    clear ha hb hp hu HB
    obtain ⟨c, hc, hg, rfl, ⟨ha, hb, hp, hu⟩, HB⟩ := hrel
    have HG : Hid (gk = D - c) := hg
    clear hg
    have b0 := hb.box.1
    have b1 := hb.box.2.1
    generalize wr = wk at *
    by_cases hlt : c < D
    · have j1 : (c : Int) < (D : Int) := by omega
      go_wp2
      go_loopg [26, 28] C (fun g x i wv => ∃ q : Nat, q ≤ C ∧ g = C - q ∧ i = .int .i64 q ∧ wv.ownsRow wk.heap.size 31 1 x q (fv (colL ys D c q)) ∧ Below wk.heap.size wk wv)
      case atStart => exact ⟨0, Nat.zero_le _, rfl, rfl, World.ownsRow_nil _ _ _ _, Below.refl _ _⟩
      case round =>
        obtain ⟨q, hq, hg, rfl, hown, hbv⟩ := hrel
        have HG2 : Hid (gk = C - q) := hg
        clear hg b0 b1
        obtain ⟨b0, b1, b2, _⟩ := id (hb.below hbv).box
        by_cases hlt2 : q < C
        · have j2 : (q : Int) < (C : Int) := by omega
          obtain ⟨x, hx⟩ : ∃ x, ys.getD (q * D + c) 0 = x := ⟨_, rfl⟩
          have HL : Hid (fv (colL ys D c (q + 1)) = fv (colL ys D c q) ++ [.float .f64 x]) := (show _ = _ by rw [colL_succ, hx, fv_snoc])
          have hin : q * D + c < ys.length := by rw [hb.len]; exact at_lt hlt2 hlt
          have hm4 := q36 (Nat.le_trans hq hC) hD
          obtain ⟨e, he⟩ : ∃ e, q * D = e := ⟨_, rfl⟩
          have eI : (q : Int) * (D : Int) = (e : Int) := by rw [mulI, he]
          rw [he] at hin hx hm4
          rcases (hb.below hbv).row with h | ⟨bb, off, rfl, hcc⟩
          · omega
          have g1 := hcc (e + c) hin
          rw [hx] at g1
          have hinI : (e : Int) + (c : Int) < (ys.length : Int) := by omega
          have hbs := hbv.size
          have HW : ∀ o, wk.heap.size ≤ (wr.alloc o).heap.size := fun o => by simp; omega
          have g2 : wr.cell? ⟨bb, off + (e + c), none⟩ = some (.float .f64 x) := g1
          have n1 : ((e : Int) + (c : Int)).toNat = e + c := by omega
          clear hx hcc he g1
          go_wp2_with (at_builtin; refine wpList_append_own _ rfl _ _ 22 rfl wk.heap.size 31 i0 (.float .f64 0) 1 8 Try.underlying22 hi hz0 hz1 hz2 rfl (by decide) _ _ _ rfl (hown.alloc _) _ 1 1 [.float .f64 x] rfl rfl (World.news_of_block (cs := #[.float .f64 x]) (t := 31) (fr := (0, 0)) (heap_alloc_new _ _)) (by simp [Value.oneCell']) (by unfold maxLen; omega) (by omega) (HW _) ?_; intro v' w2 hown1 hgrow _)
          have hb2 : Below wk.heap.size wk w2 := (hbv.alloc hbv.size _).grown hgrow (HW _) (fun k hk => (hown.lt k hk).1)
          have hown2 : w2.ownsRow wk.heap.size 31 1 v' (q + 1) (fv (colL ys D c (q + 1))) := by rw [HL.out]; exact hown1
          clear hown1 hown hgrow HW g2
          go_roundg (C - (q + 1))
          case measure => rw [HG2.out]; omega
          case rel => exact ⟨q + 1, by omega, rfl, by go_num, hown2, hb2⟩
        · have eq : q = C := by omega
          subst eq
          have j2 : ¬ (q : Int) < (q : Int) := by omega
          have hcf : FW (colL ys D c q) := colL_fw hb.fw (fun k hk => by rw [hb.len]; exact at_lt hk hlt)
          have hcl := colL_len ys D c q
          have hcv : ∀ k, k < q → (colL ys D c q).getD k 0 = ys.getD (k * D + c) 0 := fun k hk => colL_at hk
          generalize colL ys D c q = cs at *
          have HCL : Hid (cs.length = q) := hcl
          have HCV : Hid (∀ k, k < q → cs.getD k 0 = ys.getD (k * D + c) 0) := hcv
          obtain ⟨xo, xcp, rfl, gx, _, _⟩ := owned_grow (xs := cs) (by rw [hcl]; exact hown)
          clear hcl hcv hown
          replace ha := ha.below hbv
          replace hb := hb.below hbv
          replace hp := hp.below hbv
          replace hu := hu.below hbv
          replace HB := HB.trans (hbv.mono HB.size)
          have a0 := ha.box.1
          clear hbv
          generalize wr = wl at *
          go_wp2
          go_loopg [27, 29] R (fun g x i wv => ∃ i0 : Nat, i0 ≤ R ∧ g = R - i0 ∧ i = .int .i64 i0 ∧ wv.ownsRow wl.heap.size 31 1 x i0 (fv (colL ps D c i0)) ∧ Below wl.heap.size wl wv)
          case atStart => exact ⟨0, Nat.zero_le _, rfl, rfl, World.ownsRow_nil _ _ _ _, Below.refl _ _⟩
          case round =>
            obtain ⟨t, ht, hg, rfl, hown, hbv⟩ := hrel
            have HG3 : Hid (gk = R - t) := hg
            clear hg a0
            obtain ⟨a0, a1, a2, _⟩ := id (ha.below hbv).box
            obtain ⟨b0, b1, b2, _⟩ := id (hb.below hbv).box
            obtain ⟨p0, p1, p2, _⟩ := id (hp.below hbv).box
            by_cases hlt3 : t < R
            · have j3 : (t : Int) < (R : Int) := by omega
              obtain ⟨x, hx⟩ : ∃ x, ps.getD (t * D + c) 0 = x := ⟨_, rfl⟩
              have HL : Hid (fv (colL ps D c (t + 1)) = fv (colL ps D c t) ++ [.float .f64 x]) := (show _ = _ by rw [colL_succ, hx, fv_snoc])
              have hin : t * D + c < ps.length := by rw [hp.len]; exact at_lt hlt3 hlt
              have hm4 := q36 (Nat.le_trans ht hR) hD
              obtain ⟨e, he⟩ : ∃ e, t * D = e := ⟨_, rfl⟩
              have eI : (t : Int) * (D : Int) = (e : Int) := by rw [mulI, he]
              rw [he] at hin hx hm4
              rcases (hp.below hbv).row with h | ⟨bb, off, rfl, hcc⟩
              · omega
              have g1 := hcc (e + c) hin
              rw [hx] at g1
              have hinI : (e : Int) + (c : Int) < (ps.length : Int) := by omega
              have hbs := hbv.size
              have HW : ∀ o, wl.heap.size ≤ (wr.alloc o).heap.size := fun o => by simp; omega
              have n1 : ((e : Int) + (c : Int)).toNat = e + c := by omega
              clear hx hcc he
              go_wp2_with (at_builtin; refine wpList_append_own _ rfl _ _ 22 rfl wl.heap.size 31 i0 (.float .f64 0) 1 8 Try.underlying22 hi hz0 hz1 hz2 rfl (by decide) _ _ _ rfl (hown.alloc _) _ 1 1 [.float .f64 x] rfl rfl (World.news_of_block (cs := #[.float .f64 x]) (t := 31) (fr := (0, 0)) (heap_alloc_new _ _)) (by simp [Value.oneCell']) (by unfold maxLen; omega) (by omega) (HW _) ?_; intro v' w2 hown1 hgrow _)
              have hb2 : Below wl.heap.size wl w2 := (hbv.alloc hbv.size _).grown hgrow (HW _) (fun k hk => (hown.lt k hk).1)
              have hown2 : w2.ownsRow wl.heap.size 31 1 v' (t + 1) (fv (colL ps D c (t + 1))) := by rw [HL.out]; exact hown1
              clear hown1 hown hgrow HW g1
              go_roundg (R - (t + 1))
              case measure => rw [HG3.out]; omega
              case rel => exact ⟨t + 1, by omega, rfl, by go_num, hown2, hb2⟩
            · have et : t = R := by omega
              subst et
              have j3 : ¬ (t : Int) < (t : Int) := by omega
              have nwant : LN (tabM t 1 (fun i j => muO q 1 xs cs i j q)) (colL ps D c t) := column_same hlt HCV.out np (colL_len _ _ _ _) (fun i hi => colL_at hi)
              have lwant := colL_len ps D c t
              generalize colL ps D c t = wants at *
              obtain ⟨wo, wcp, rfl, gw, _, _⟩ := owned_grow (xs := wants) (by rw [lwant]; exact hown)
              clear lwant hown
              replace ha := ha.below hbv
              replace hb := hb.below hbv
              replace hp := hp.below hbv
              replace hu := hu.below hbv
              replace HB := HB.trans (hbv.mono HB.size)
              replace gx := gx.below hbv
              have lo1 : (tabM t 1 (fun i j => muO q 1 xs cs i j q)).length ≤ 2304 := by rw [tabM_len]; omega
              go_wp2_with (first
                | (go_at_call 37; refine (mapply_R _ _ ha.row gx ha.fw hcf ha.len HCL.out (by omega) (by omega)).mono ?_; rintro e wz ⟨zo, zc, zs, rfl, nz, gz, bz⟩; replace ha := ha.below bz; replace hb := hb.below bz; replace hp := hp.below bz; replace hu := hu.below bz; replace HB := HB.trans (bz.mono HB.size); replace gw := gw.below bz)
                | (go_at_call 39; refine (msreals_LN nz nwant _ _ gz gw lo1).mono ?_; rintro e wy ⟨rfl, by1⟩; replace ha := ha.below by1; replace hb := hb.below by1; replace hp := hp.below by1; replace hu := hu.below by1; replace HB := HB.trans (by1.mono HB.size)))
              go_roundg (D - (c + 1))
              case measure => rw [HG.out]; omega
              case rel => exact ⟨c + 1, by omega, rfl, by go_num, ⟨ha, hb, hp, hu⟩, HB⟩
    · have ec : c = D := by omega
      subst ec
      have j1 : ¬ (c : Int) < (c : Int) := by omega
      have lus : us.length ≤ 2304 := by rw [hu.len]; exact q36 hD hC
      have lps : ps.length ≤ 2304 := by rw [hp.len]; exact q36 hR hD
      obtain ⟨a0, a1, a2, _⟩ := id ha.box
      obtain ⟨u0, u1, u2, _⟩ := id hu.box
      obtain ⟨p0, p1, p2, _⟩ := id hp.box
      by_cases hRc : R = c
      · subst hRc
        have f1 : ((R : Int) == (R : Int)) = true := by simp
        have ks := fun w h1 h2 => ksame_any R C us R C xs uo ao uc ac w h1 h2 hu.fw ha.fw (by omega) (by omega)
        have es : sameM R C us R C xs = sameL us xs := by unfold sameM alikeM; simp
        rw [es] at ks
        cases hsm : sameL us xs
        · rw [hsm] at ks
          clear hsm es
          go_wp2_with (first | (go_at_call 42; refine (ks _ hu.row ha.row).mono ?_; rintro e wy ⟨rfl, by1⟩; replace ha := ha.below by1; replace hp := hp.below by1; replace HB := HB.trans (by1.mono HB.size); obtain ⟨a0, a1, a2, _⟩ := id ha.box; obtain ⟨p0, p1, p2, _⟩ := id hp.box) | (go_at_call 20; refine (mawake _).mono ?_; rintro e wz ⟨rfl, bz⟩; replace HB := HB.trans (bz.mono HB.size)))
          go_ret
          exact ⟨rfl, HB⟩
        · rw [hsm] at ks
          by_cases hRC : R = C
          · have f2 : ((R : Int) == (C : Int)) = true := by simp [hRC]
            have ky := fun w h => msym_any R R ps po pc w h hp.fw (by omega)
            rw [own_sym (by omega) nu hsm np] at ky
            clear hsm es hRC
            go_wp2_with (first | (go_at_call 42; refine (ks _ hu.row ha.row).mono ?_; rintro e wy ⟨rfl, by1⟩; replace ha := ha.below by1; replace hp := hp.below by1; replace HB := HB.trans (by1.mono HB.size); obtain ⟨a0, a1, a2, _⟩ := id ha.box; obtain ⟨p0, p1, p2, _⟩ := id hp.box) | (go_at_call 18; refine (ky _ hp.row).mono ?_; rintro e wx ⟨rfl, bx1⟩; replace HB := HB.trans (bx1.mono HB.size)) | (go_at_call 20; refine (mawake _).mono ?_; rintro e wz ⟨rfl, bz⟩; replace HB := HB.trans (bz.mono HB.size)))
            go_ret
            exact ⟨rfl, HB⟩
          · have f2 : ((R : Int) == (C : Int)) = false := by simp; omega
            clear hsm es hRC
            go_wp2_with (first | (go_at_call 42; refine (ks _ hu.row ha.row).mono ?_; rintro e wy ⟨rfl, by1⟩; replace ha := ha.below by1; replace hp := hp.below by1; replace HB := HB.trans (by1.mono HB.size); obtain ⟨a0, a1, a2, _⟩ := id ha.box; obtain ⟨p0, p1, p2, _⟩ := id hp.box) | (go_at_call 20; refine (mawake _).mono ?_; rintro e wz ⟨rfl, bz⟩; replace HB := HB.trans (bz.mono HB.size)))
            go_ret
            exact ⟨rfl, HB⟩
      · have f1 : ((R : Int) == (c : Int)) = false := by simp; omega
        clear hRc
        go_wp2_with (go_at_call 20; refine (mawake _).mono ?_; rintro e wz ⟨rfl, bz⟩; replace HB := HB.trans (bz.mono HB.size))
        go_ret
        exact ⟨rfl, HB⟩
theorem turns_row (n m k : Int) (l : List Nat) (lo : Option Addr) (lc : Nat) (r : List Nat) (ro : Option Addr) (rc : Nat) (w : World) (hr : GRow w lo l) (hF : FW l) (hn : l.length ≤ lc) (hc : lc ≤ 17592186044416) (hs : GRow w ro r) (hG : FW r) (hm : r.length ≤ rc) (hd : rc ≤ 17592186044416) :
    Calls Try.prog 6 #[.int .i64 n, .int .i64 m, .int .i64 k, .slice lo l.length lc, .slice ro r.length rc] w fun e w' => e = .returned (.bool true) ∧ Below w.heap.size w w' :=
  turns_law n m k l lo lc r ro rc w hr hs hF hG (by omega) (by omega)
end Go.Proofs.Ytnbdhbmiiplmbaa
