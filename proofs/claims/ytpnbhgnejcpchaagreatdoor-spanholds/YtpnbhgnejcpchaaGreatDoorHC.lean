/- SpanHolds, whatever two spans and floats it is given. -/
import Derived.Test.YtpnbhgnejcpchaaGreatDoorHB
import Derived.Test.YtpnbhgnejcpchaaGreatDoorWB
import Derived.Test.YtpnbhgnejcpchaaGreatDoorZj
namespace Go.Proofs.YtpnbhgnejcpchaaGreatDoor
open Go.RowKit

abbrev dyA (D : Dy) (ao : Option Addr) (cap : Nat) : Value := .agg #[.bool D.neg, .slice ao D.mag.length cap, .int .i64 D.exp]
theorem sp0_eql (w : World) : (binOp .eql 24 (.agg #[.float .f64 0, .float .f64 0]) (.agg #[.float .f64 0, .float .f64 0])).run Tryz.prog w = .ok (.bool true) w := by
  kernel_rfl
/-- The exact product of two finite floats' numbers. -/
theorem prod_fd {x y : Nat} (fx : finB x = true) (fy : finB y = true) {D E : Dy} (h : Fd D (vI x * 2 ^ twP)) (g : Fd E (vI y * 2 ^ twP)) : ∃ P, mulD D E = (P, 0) ∧ Fd P (vI x * vI y) := by
  obtain ⟨V, hV, v1⟩ := vI_bd fx
  obtain ⟨V', hV', v2⟩ := vI_bd fy
  have hb : bl (vI x * vI y).natAbs ≤ 16384 := bl_sm (n := V + V') (by
    rw [Int.natAbs_mul, Nat.pow_add]
    exact Nat.mul_lt_mul'' v1 v2) (by omega)
  exact ⟨_, fd_mul h g hb, fd_dz hb⟩
set_option maxRecDepth 100000 in
set_option maxHeartbeats 4000000 in
theorem quot_zero (a0 a1 b0 b1 : Nat) (X Y : Dy) (xo yo : Option Addr) (xc yc : Nat) (hD : ∀ w, TabW w → Calls Tryz.prog 21 #[spV a0 a1, spV b0 b1] w fun e w' => e = .returned (.tuple #[spV 0 0, .int .i64 7]) ∧ Below w.heap.size w w') (t1 : leF b0 0 = true) (t2 : geF b1 0 = true) (w : World) (hT : TabW w) :
    Calls Tryz.prog 18 #[spV a0 a1, spV b0 b1, dyA X xo xc, dyA Y yo yc] w fun e w' => e = .returned (.bool true) ∧ Below w.heap.size w w' := by
  have hst := run_storef Tryz.prog
  have heq := sp0_eql
  have e1 : (FloatKind.f64.format.order b0 0 == some .lt || FloatKind.f64.format.order b0 0 == some .eq) = true := t1
  have e2 : (FloatKind.f64.format.order b1 0 == some .gt || FloatKind.f64.format.order b1 0 == some .eq) = true := t2
  go_enter Tryz.func18, Tryz.ntmps18
  go_wp2_with (go_at_call 21; refine (hD _ (tabW_alloc (tabW_alloc (tabW_alloc (tabW_alloc hT _) _) _) _)).mono ?_; rintro e w1 ⟨rfl, bq⟩; obtain ⟨c0, c1, _⟩ := (((Bx.new1 _ _ _ _ _).alloc _).alloc _).below bq; have Z := old4b bq)
  go_ret
  exact ⟨rfl, Z.alloc Z.size _⟩
set_option maxRecDepth 100000 in
set_option maxHeartbeats 8000000 in
theorem quot_walk (a0 a1 b0 b1 s0 s1 : Nat) (X Y : Dy) (xo yo : Option Addr) (xc yc : Nat) (vx vy : Int) (hs0 : s0 < 18446744073709551616) (hs1 : s1 < 18446744073709551616) (FX : Fd X (vx * 2 ^ twP)) (FY : Fd Y (vy * 2 ^ twP))
    (hD : ∀ w, TabW w → Calls Tryz.prog 21 #[spV a0 a1, spV b0 b1] w fun e w' => e = .returned (.tuple #[spV s0 s1, .int .i64 0]) ∧ Below w.heap.size w w')
    (hR : ∀ w, Calls Tryz.prog 5 #[spV s0 s1] w fun e w' => e = .returned (.bool true) ∧ Below w.heap.size w w')
    (sg : Bool) (g1 : (FloatKind.f64.format.order b0 0 == some .gt) = !sg) (g2 : (FloatKind.f64.format.order b0 0 == some .lt) = sg) (g3 : (FloatKind.f64.format.order b0 0 == some .eq) = false) (g4 : sg = true → (FloatKind.f64.format.order b1 0 == some .gt) = false ∧ (FloatKind.f64.format.order b1 0 == some .eq) = false)
    (p0 : finB s0 = true → ∃ P, (∀ D, Fd D (vI s0 * 2 ^ twP) → mulD D Y = (P, 0)) ∧ Fd P (vI s0 * vy) ∧ (if sg then vx * 2 ^ twP ≤ vI s0 * vy else vI s0 * vy ≤ vx * 2 ^ twP))
    (p1 : finB s1 = true → ∃ P, (∀ D, Fd D (vI s1 * 2 ^ twP) → mulD D Y = (P, 0)) ∧ Fd P (vI s1 * vy) ∧ (if sg then vI s1 * vy ≤ vx * 2 ^ twP else vx * 2 ^ twP ≤ vI s1 * vy))
    (w : World) (hT : TabW w) (rx : LRow w xo X.mag) (ry : LRow w yo Y.mag) :
    Calls Tryz.prog 18 #[spV a0 a1, spV b0 b1, dyA X xo xc, dyA Y yo yc] w fun e w' => e = .returned (.bool true) ∧ Below w.heap.size w w' := by
  have hst := run_storef Tryz.prog
  go_enter Tryz.func18, Tryz.ntmps18
  go_upto_region 2 with (go_at_call 21; refine (hD _ (tabW_alloc (tabW_alloc (tabW_alloc (tabW_alloc hT _) _) _) _)).mono ?_; rintro e w1 ⟨rfl, bq⟩)
  have KB := (((Bx.new1 w (.float .f64 b0) (.float .f64 b1) (.cells #[.float .f64 a0, .float .f64 a1] 24) 24).alloc (.cells #[.bool X.neg, .slice xo X.mag.length xc, .int .i64 X.exp] 35)).alloc (.cells #[.bool Y.neg, .slice yo Y.mag.length yc, .int .i64 Y.exp] 35)).below bq
  have sz2 : ((w.alloc (.cells #[.float .f64 a0, .float .f64 a1] 24)).alloc (.cells #[.float .f64 b0, .float .f64 b1] 24)).heap.size = w.heap.size + 1 + 1 := by simp
  have sz3 : (((w.alloc (.cells #[.float .f64 a0, .float .f64 a1] 24)).alloc (.cells #[.float .f64 b0, .float .f64 b1] 24)).alloc (.cells #[.bool X.neg, .slice xo X.mag.length xc, .int .i64 X.exp] 35)).heap.size = w.heap.size + 1 + 1 + 1 := by simp
  have HX := ((Hd.new (d := X) (cap := xc) ((rx.alloc (.cells #[.float .f64 a0, .float .f64 a1] 24)).alloc (.cells #[.float .f64 b0, .float .f64 b1] 24))).below ((Below.refl _ _).alloc (Nat.le_refl _) (.cells #[.bool Y.neg, .slice yo Y.mag.length yc, .int .i64 Y.exp] 35))).below bq
  have HY := (Hd.new (d := Y) (cap := yc) (((ry.alloc (.cells #[.float .f64 a0, .float .f64 a1] 24)).alloc (.cells #[.float .f64 b0, .float .f64 b1] 24)).alloc (.cells #[.bool X.neg, .slice xo X.mag.length xc, .int .i64 X.exp] 35))).below bq
  rw [sz2] at HX
  rw [sz3] at HY
  have Z := old4b bq
  have KS := Bx.new w1 (.float .f64 s0) (.float .f64 s1) 24
  replace KB := KB.alloc (.cells #[.float .f64 s0, .float .f64 s1] 24)
  replace HX := HX.below ((Below.refl _ _).alloc (Nat.le_refl _) (.cells #[.float .f64 s0, .float .f64 s1] 24))
  replace HY := HY.below ((Below.refl _ _).alloc (Nat.le_refl _) (.cells #[.float .f64 s0, .float .f64 s1] 24))
  replace Z := Z.alloc Z.size (.cells #[.float .f64 s0, .float .f64 s1] 24)
  clear bq sz2 sz3
  generalize w1.alloc (.cells #[.float .f64 s0, .float .f64 s1] 24) = W at *
  generalize w1.heap.size = gs at *
  clear w1 rx ry
  obtain ⟨n1, hn1⟩ : ∃ n, w.heap.size + 1 = n := ⟨_, rfl⟩
  obtain ⟨n2, hn2⟩ : ∃ n, w.heap.size + 1 + 1 = n := ⟨_, rfl⟩
  obtain ⟨n3, hn3⟩ : ∃ n, w.heap.size + 1 + 1 + 1 = n := ⟨_, rfl⟩
  rw [hn3] at HY ⊢
  rw [hn2] at HX ⊢
  rw [hn1] at KB ⊢
  clear hn1 hn2 hn3
  have TW := tabW_below hT Z
  have kb0 := KB.1
  have kb1 := KB.2.1
  have ks0 := KS.1
  have ks1 := KS.2.1
  have hR2 : ∀ w', Below W.heap.size W w' → Below w.heap.size w w' := fun w' h => Z.trans (h.mono Z.size)
  have HSG : Hid (sg = sg) := rfl
  cases sg
  · skip
    simp only [Bool.not_false, Bool.false_eq_true, if_false] at g1 g2 p0 p1
    clear g4
    go_upto_region 6 with (go_at_call 5; refine (hR _).mono ?_; rintro e Wk ⟨rfl, b2⟩)
    replace KB := KB.below b2
    replace KS := KS.below b2
    replace HX := HX.below b2
    replace HY := HY.below b2
    have Z2 := hR2 _ b2
    have T2 := tabW_below TW b2
    clear kb0 kb1 ks0 ks1 b2 hR2 Z TW hD hR
    go_cut [11, 12] from 13 (fun s t wx => s = .bool true ∧ t = .bool true ∧ wx = Wk)
    case first =>
      go_wp2
      go_meet
      exact ⟨rfl, rfl, rfl⟩
    case rest =>
      obtain ⟨rfl, rfl, rfl⟩ := hcut
      go_upto_region 7 with fail
      cases f0 : finB s0
      · have cf := fun w => fin_no s0 hs0 f0 w
        have kb0 := KB.1
        have kb1 := KB.2.1
        have ks0 := KS.1
        have ks1 := KS.2.1
        go_upto_region 10 with (go_at_call 24; refine (cf _).mono ?_; rintro e w' ⟨rfl, hww⟩; subst hww)
        have Zd : Below w.heap.size w wc.drew := Z2.drew
        replace KB := KB.drew
        replace KS := KS.drew
        replace HX := HX.below (Below.refl _ _).drew
        replace HY := HY.below (Below.refl _ _).drew
        have Td := tabW_below T2 (Below.refl _ _).drew
        clear kb0 kb1 ks0 ks1 cf p0
        generalize wc.drew = wd at *
        cases f1 : finB s1
        · have cf := fun w => fin_no s1 hs1 f1 w
          have kb0 := KB.1
          have kb1 := KB.2.1
          have ks0 := KS.1
          have ks1 := KS.2.1
          go_wp2_with (go_at_call 24; refine (cf _).mono ?_; rintro e w' ⟨rfl, hww⟩; subst hww)
          go_ret
          exact ⟨rfl, Zd.drew⟩
        · have cf := fun w => fin_yes s1 hs1 f1 w
          obtain ⟨E, eE, FE⟩ := fd_of f1
          obtain ⟨Q, hQ, FQ, lQ⟩ := p1 f1
          have cn := fun w h => number_any s1 E hs1 eE w h
          have cp := fun ao bo cap bcap w h1 h2 h3 => mul_any E Y ao bo cap bcap w h1 h2 FE.2.1 FY.2.1 h3
          rw [hQ E FE] at cp
          have lc := fun ao bo cap bcap w h1 h2 => least_C FX FQ ao bo cap bcap w h1 h2
          rw [decide_eq_true lQ] at lc
          clear hQ eE lQ
          have kb0 := KB.1
          have kb1 := KB.2.1
          have ks0 := KS.1
          have ks1 := KS.2.1
          go_upto_region 11 with (go_at_call 24; refine (cf _).mono ?_; rintro e w' ⟨rfl, hww⟩; subst hww)
          clear kb0 kb1 ks0 ks1
          obtain ⟨VAL, hVAL⟩ : ∃ V : Nat → Value, V = (fun j => match j with | 0 => .pointer (some ⟨gs, 1, none⟩) | 1 => .float .f64 s1 | 3 => dyA Y yo yc | 7 => .int .i64 0 | 10 => .int .i64 0 | _ => undef) := ⟨_, rfl⟩
          have V0 : VAL 0 = .pointer (some ⟨gs, 1, none⟩) := congrFun hVAL 0
          have V1 : VAL 1 = .float .f64 s1 := congrFun hVAL 1
          have V3 : VAL 3 = dyA Y yo yc := congrFun hVAL 3
          have V7 : VAL 7 = .int .i64 0 := congrFun hVAL 7
          have V10 : VAL 10 = .int .i64 0 := congrFun hVAL 10
          have V9 : VAL 9 = undef := congrFun hVAL 9
          refine region_rgD (by kernel_rfl) (fun v => ⟨#[spV a0 a1, spV b0 b1, dyA X xo xc, dyA Y yo yc, .pointer (some ⟨w.heap.size, 0, none⟩), .pointer (some ⟨n1, 0, none⟩), .pointer (some ⟨n2, 0, none⟩), .pointer (some ⟨n3, 0, none⟩), .bool false, .pointer (some ⟨gs, 0, none⟩), .int .i64 0, .bool true, .bool true, u13, u14, v 8, v 10, u17, u18, u19, u20, u21, u22, u23, u24, u25, u26, u27, u28, u29, u30, u31, u32, u33, u34, u35, u36, u37, u38, u39, u40, u41, u42, u43, u44, .pointer (some ⟨gs, 0, none⟩), .float .f64 s0, .bool false, u48, u49, u50, u51, u52, u53, u54, u55, u56, u57, u58, u59, u60, u61, u62, u63, u64, u65, u66, u67, u68, u69, u70, u71, u72, u73, .pointer (some ⟨gs, 1, none⟩), .float .f64 s1, .bool true, v 5, v 0, v 1, v 2, v 3, v 4, v 6, v 7, u85, u86, u87, u88, u89, u90, u91, u92, u93, u94, u95, u96, u97, u98, u99, u100, u101, u102, u103, u104, u105, u106], []⟩) 8 9 Q (fun j => match j with | 2 => some (E, false) | 4 => some (Q, true) | 5 => some (Q, true) | 6 => some (Q, false) | _ => none) VAL (fun j => match j with | 8 => u15 | 10 => u16 | 5 => u77 | 0 => u78 | 1 => u79 | 2 => u80 | 3 => u81 | 4 => u82 | 6 => u83 | 7 => u84 | _ => undef) rfl ?_ ?_
          · intro L v g w' i hL hS hi
            obtain ⟨h1, h2, h3⟩ := mem_ready hi
            have h1 : i < 11 := h1
            try dsimp only
            have hno := off_not (by rw [hL]; exact h1) h2
            have m := hS.m
            have hcs : i = 0 ∨ i = 1 ∨ i = 2 ∨ i = 3 ∨ i = 4 ∨ i = 5 ∨ i = 6 ∨ i = 7 ∨ i = 8 ∨ i = 9 ∨ i = 10 := by omega
            rcases hcs with rfl | rfl | rfl | rfl | rfl | rfl | rfl | rfl | rfl | rfl | rfl
            · refine wpOp_of (fun K hK => ?_)
              unfold wpOp
              go_simp
              refine Or.inl ?_
              exact hK _ _ ⟨put9 v 0 (.pointer (some ⟨gs, 1, none⟩)), g, (by simp [put9]), hS.step hL hi rfl (by decide) (by decide) V0.symm⟩
            · have e0 : v 0 = .pointer (some ⟨gs, 1, none⟩) := (hS.d 0 rfl (by decide) (ready_dep hi 0 (by kernel_rfl))).trans V0
              have q0 := (KS.below m).2.1
              refine wpOp_of (fun K hK => ?_)
              unfold wpOp
              simp only [e0]
              go_simp
              refine Or.inl ?_
              exact hK _ _ ⟨put9 v 1 (.float .f64 s1), g, (by simp [put9, e0]), hS.step hL hi rfl (by decide) (by decide) V1.symm⟩
            · have e1 : v 1 = .float .f64 s1 := (hS.d 1 rfl (by decide) (ready_dep hi 1 (by kernel_rfl))).trans V1
              refine wpOp_of (fun K hK => ?_)
              unfold wpOp
              simp only [e1]
              go_simp
              refine Or.inl ?_
              refine (cn _ (tabW_below Td m)).mono ?_
              rintro e w1 ⟨an, nc, rfl, rn, fn, bn⟩
              exact hK _ _ ⟨put9 v 2 (dyU E an nc false), g, (by simp [put9, dyU, e1]), hS.stepD hL hi rfl (by decide) (by decide) bn rn (fun on b off ea h0 => by have k1 : w'.heap.size ≤ b := fn _ ea; have k2 := (hS.p on).2.2; omega)⟩
            · have HY' := HY.below m
              have q0 := HY'.c0
              have q1 := HY'.c1
              have q2 := HY'.c2
              refine wpOp_of (fun K hK => ?_)
              unfold wpOp
              go_simp
              refine Or.inl ?_
              exact hK _ _ ⟨put9 v 3 (dyA Y yo yc), g, (by simp [put9]), hS.step hL hi rfl (by decide) (by decide) V3.symm⟩
            · obtain ⟨a2, c2, E2, R2, N2⟩ := hS.r 2 E false rfl (ready_dep hi 2 (by kernel_rfl))
              have e2 : v 2 = .agg #[.bool E.neg, .slice a2 E.mag.length c2, .int .i64 E.exp] := E2
              have e3 : v 3 = dyA Y yo yc := (hS.d 3 rfl (by decide) (ready_dep hi 3 (by kernel_rfl))).trans V3
              refine wpOp_of (fun K hK => ?_)
              unfold wpOp
              simp only [e2, e3]
              go_simp
              refine Or.inl ?_
              refine (cp _ _ _ _ _ R2 (HY.below m).row (tabW_below Td m)).mono ?_
              rintro e w1 ⟨an, nc, rfl, rn, fn, bn⟩
              exact hK _ _ ⟨put9 v 4 (dyU Q an nc true), g, (by simp [put9, dyU, e2, e3]), hS.stepD hL hi rfl (by decide) (by decide) bn rn (fun on b off ea h0 => by have k1 : w'.heap.size ≤ b := fn _ ea; have k2 := (hS.p on).2.2; omega)⟩
            · obtain ⟨a4, c4, E4, R4, N4⟩ := hS.r 4 Q true rfl (ready_dep hi 4 (by kernel_rfl))
              have e4 : v 4 = .tuple #[.agg #[.bool Q.neg, .slice a4 Q.mag.length c4, .int .i64 Q.exp], .int .i64 0] := E4
              refine wpOp_of (fun K hK => ?_)
              unfold wpOp
              simp only [e4]
              go_simp
              refine Or.inl ?_
              exact hK _ _ ⟨put9 v 5 (dyU Q a4 c4 true), g, (by simp [put9, dyU, e4]), hS.stepD hL hi rfl (by decide) (by decide) (Below.refl _ _) R4 N4⟩
            · obtain ⟨a5, c5, E5, R5, N5⟩ := hS.r 5 Q true rfl (ready_dep hi 5 (by kernel_rfl))
              have e5 : v 5 = .tuple #[.agg #[.bool Q.neg, .slice a5 Q.mag.length c5, .int .i64 Q.exp], .int .i64 0] := E5
              refine wpOp_of (fun K hK => ?_)
              unfold wpOp
              simp only [e5]
              go_simp
              refine Or.inl ?_
              exact hK _ _ ⟨put9 v 6 (dyU Q a5 c5 false), g, (by simp [put9, dyU, e5]), hS.stepD hL hi rfl (by decide) (by decide) (Below.refl _ _) R5 N5⟩
            · obtain ⟨a5, c5, E5, R5, N5⟩ := hS.r 5 Q true rfl (ready_dep hi 5 (by kernel_rfl))
              have e5 : v 5 = .tuple #[.agg #[.bool Q.neg, .slice a5 Q.mag.length c5, .int .i64 Q.exp], .int .i64 0] := E5
              refine wpOp_of (fun K hK => ?_)
              unfold wpOp
              simp only [e5]
              go_simp
              refine Or.inl ?_
              exact hK _ _ ⟨put9 v 7 (.int .i64 0), g, (by simp [put9, e5]), hS.step hL hi rfl (by decide) (by decide) V7.symm⟩
            · refine wpOp_of (fun K hK => ?_)
              unfold wpOp
              go_simp
              refine Or.inl ?_
              exact hK _ _ ⟨put9 v 8 (.pointer (some ⟨w'.heap.size, 0, none⟩)), _, (by simp [put9]), hS.make hL hi hno rfl (by decide) (by kernel_rfl)⟩
            · obtain ⟨a6, c6, E6, R6, N6⟩ := hS.r 6 Q false rfl (ready_dep hi 6 (by kernel_rfl))
              have e6 : v 6 = .agg #[.bool Q.neg, .slice a6 Q.mag.length c6, .int .i64 Q.exp] := E6
              have e8 := (hS.p (ready_dep hi 8 (by kernel_rfl))).1
              obtain ⟨hz, f0, f1, f2⟩ := hS.n (ready_dep hi 8 (by kernel_rfl)) hno
              have q0 := hz.c0
              have q1 := hz.c1
              have q2 := hz.c2
              refine wpOp_of (fun K hK => ?_)
              unfold wpOp
              simp only [e6, e8]
              go_simp
              refine Or.inl ?_
              exact hK _ _ ⟨put9 v 9 undef, g, (by simp [put9, e6, e8]), hS.store (cap := c6) hL hi hno rfl (by decide) (by kernel_rfl) R6 (N6 (ready_dep hi 8 (by kernel_rfl))) V9.symm⟩
            · have e7 : v 7 = .int .i64 0 := (hS.d 7 rfl (by decide) (ready_dep hi 7 (by kernel_rfl))).trans V7
              refine wpOp_of (fun K hK => ?_)
              unfold wpOp
              simp only [e7]
              go_simp
              refine Or.inl ?_
              exact hK _ _ ⟨put9 v 10 (.int .i64 0), g, (by simp [put9, e7]), hS.step hL hi rfl (by decide) (by decide) V10.symm⟩
          · intro L v g w' hL hS hr3
            have on := all_done hL hr3 (by kernel_rfl)
            have m := hS.m
            obtain ⟨pa, pc, HP⟩ := hS.y (on 9 (by decide))
            have eP := (hS.p (on 8 (by decide))).1
            obtain ⟨a2, c2, E2, _⟩ := hS.r 2 E false rfl (on 2 (by decide))
            obtain ⟨a4, c4, E4, _⟩ := hS.r 4 Q true rfl (on 4 (by decide))
            obtain ⟨a5, c5, E5, _⟩ := hS.r 5 Q true rfl (on 5 (by decide))
            obtain ⟨a6, c6, E6, _⟩ := hS.r 6 Q false rfl (on 6 (by decide))
            try dsimp only
            rw [hS.d 0 rfl (by decide) (on 0 (by decide)), V0]
            rw [hS.d 1 rfl (by decide) (on 1 (by decide)), V1]
            rw [hS.d 3 rfl (by decide) (on 3 (by decide)), V3]
            rw [hS.d 7 rfl (by decide) (on 7 (by decide)), V7]
            rw [hS.d 10 rfl (by decide) (on 10 (by decide)), V10]
            rw [eP, E2, E4, E5, E6]
            clear hS on hr3 eP E2 E4 E5 E6 hVAL V0 V1 V3 V7 V10 V9
            replace KB := KB.below m
            replace KS := KS.below m
            replace HX := HX.below m
            have kb0 := KB.1
            have kb1 := KB.2.1
            have x0 := HX.c0
            have x1 := HX.c1
            have x2 := HX.c2
            have q0 := HP.c0
            have q1 := HP.c1
            have q2 := HP.c2
            replace Zd := Zd.trans (m.mono Zd.size)
            go_wp2_with (go_at_call 38; refine (lc _ _ _ _ _ HX.row HP.row).mono ?_; rintro e w7 ⟨rfl, b7⟩)
            go_ret
            exact ⟨rfl, Zd.trans (b7.mono Zd.size)⟩
      · have cf := fun w => fin_yes s0 hs0 f0 w
        obtain ⟨E, eE, FE⟩ := fd_of f0
        obtain ⟨P, hP, FP, lP⟩ := p0 f0
        have cn := fun w h => number_any s0 E hs0 eE w h
        have cp := fun ao bo cap bcap w h1 h2 h3 => mul_any E Y ao bo cap bcap w h1 h2 FE.2.1 FY.2.1 h3
        rw [hP E FE] at cp
        have lc := fun ao bo cap bcap w h1 h2 => least_C FP FX ao bo cap bcap w h1 h2
        rw [decide_eq_true lP] at lc
        clear hP eE lP
        have kb0 := KB.1
        have kb1 := KB.2.1
        have ks0 := KS.1
        have ks1 := KS.2.1
        have Td := T2
        go_upto_region 8 with (go_at_call 24; refine (cf _).mono ?_; rintro e w' ⟨rfl, hww⟩; subst hww)
        clear kb0 kb1 ks0 ks1
        obtain ⟨VAL, hVAL⟩ : ∃ V : Nat → Value, V = (fun j => match j with | 0 => .pointer (some ⟨gs, 0, none⟩) | 1 => .float .f64 s0 | 3 => dyA Y yo yc | 7 => .int .i64 0 | 10 => .int .i64 0 | _ => undef) := ⟨_, rfl⟩
        have V0 : VAL 0 = .pointer (some ⟨gs, 0, none⟩) := congrFun hVAL 0
        have V1 : VAL 1 = .float .f64 s0 := congrFun hVAL 1
        have V3 : VAL 3 = dyA Y yo yc := congrFun hVAL 3
        have V7 : VAL 7 = .int .i64 0 := congrFun hVAL 7
        have V10 : VAL 10 = .int .i64 0 := congrFun hVAL 10
        have V9 : VAL 9 = undef := congrFun hVAL 9
        refine region_rgD (by kernel_rfl) (fun v => ⟨#[spV a0 a1, spV b0 b1, dyA X xo xc, dyA Y yo yc, .pointer (some ⟨w.heap.size, 0, none⟩), .pointer (some ⟨n1, 0, none⟩), .pointer (some ⟨n2, 0, none⟩), .pointer (some ⟨n3, 0, none⟩), .bool false, .pointer (some ⟨gs, 0, none⟩), .int .i64 0, .bool true, .bool true, v 8, v 10, u15, u16, u17, u18, u19, u20, u21, u22, u23, u24, u25, u26, u27, u28, u29, u30, u31, u32, u33, u34, u35, u36, u37, u38, u39, u40, u41, u42, u43, u44, .pointer (some ⟨gs, 0, none⟩), .float .f64 s0, .bool true, v 5, v 0, v 1, v 2, v 3, v 4, v 6, v 7, u56, u57, u58, u59, u60, u61, u62, u63, u64, u65, u66, u67, u68, u69, u70, u71, u72, u73, u74, u75, u76, u77, u78, u79, u80, u81, u82, u83, u84, u85, u86, u87, u88, u89, u90, u91, u92, u93, u94, u95, u96, u97, u98, u99, u100, u101, u102, u103, u104, u105, u106], []⟩) 8 9 P (fun j => match j with | 2 => some (E, false) | 4 => some (P, true) | 5 => some (P, true) | 6 => some (P, false) | _ => none) VAL (fun j => match j with | 8 => u13 | 10 => u14 | 5 => u48 | 0 => u49 | 1 => u50 | 2 => u51 | 3 => u52 | 4 => u53 | 6 => u54 | 7 => u55 | _ => undef) rfl ?_ ?_
        · intro L v g w' i hL hS hi
          obtain ⟨h1, h2, h3⟩ := mem_ready hi
          have h1 : i < 11 := h1
          try dsimp only
          have hno := off_not (by rw [hL]; exact h1) h2
          have m := hS.m
          have hcs : i = 0 ∨ i = 1 ∨ i = 2 ∨ i = 3 ∨ i = 4 ∨ i = 5 ∨ i = 6 ∨ i = 7 ∨ i = 8 ∨ i = 9 ∨ i = 10 := by omega
          rcases hcs with rfl | rfl | rfl | rfl | rfl | rfl | rfl | rfl | rfl | rfl | rfl
          · refine wpOp_of (fun K hK => ?_)
            unfold wpOp
            go_simp
            refine Or.inl ?_
            exact hK _ _ ⟨put9 v 0 (.pointer (some ⟨gs, 0, none⟩)), g, (by simp [put9]), hS.step hL hi rfl (by decide) (by decide) V0.symm⟩
          · have e0 : v 0 = .pointer (some ⟨gs, 0, none⟩) := (hS.d 0 rfl (by decide) (ready_dep hi 0 (by kernel_rfl))).trans V0
            have q0 := (KS.below m).1
            refine wpOp_of (fun K hK => ?_)
            unfold wpOp
            simp only [e0]
            go_simp
            refine Or.inl ?_
            exact hK _ _ ⟨put9 v 1 (.float .f64 s0), g, (by simp [put9, e0]), hS.step hL hi rfl (by decide) (by decide) V1.symm⟩
          · have e1 : v 1 = .float .f64 s0 := (hS.d 1 rfl (by decide) (ready_dep hi 1 (by kernel_rfl))).trans V1
            refine wpOp_of (fun K hK => ?_)
            unfold wpOp
            simp only [e1]
            go_simp
            refine Or.inl ?_
            refine (cn _ (tabW_below Td m)).mono ?_
            rintro e w1 ⟨an, nc, rfl, rn, fn, bn⟩
            exact hK _ _ ⟨put9 v 2 (dyU E an nc false), g, (by simp [put9, dyU, e1]), hS.stepD hL hi rfl (by decide) (by decide) bn rn (fun on b off ea h0 => by have k1 : w'.heap.size ≤ b := fn _ ea; have k2 := (hS.p on).2.2; omega)⟩
          · have HY' := HY.below m
            have q0 := HY'.c0
            have q1 := HY'.c1
            have q2 := HY'.c2
            refine wpOp_of (fun K hK => ?_)
            unfold wpOp
            go_simp
            refine Or.inl ?_
            exact hK _ _ ⟨put9 v 3 (dyA Y yo yc), g, (by simp [put9]), hS.step hL hi rfl (by decide) (by decide) V3.symm⟩
          · obtain ⟨a2, c2, E2, R2, N2⟩ := hS.r 2 E false rfl (ready_dep hi 2 (by kernel_rfl))
            have e2 : v 2 = .agg #[.bool E.neg, .slice a2 E.mag.length c2, .int .i64 E.exp] := E2
            have e3 : v 3 = dyA Y yo yc := (hS.d 3 rfl (by decide) (ready_dep hi 3 (by kernel_rfl))).trans V3
            refine wpOp_of (fun K hK => ?_)
            unfold wpOp
            simp only [e2, e3]
            go_simp
            refine Or.inl ?_
            refine (cp _ _ _ _ _ R2 (HY.below m).row (tabW_below Td m)).mono ?_
            rintro e w1 ⟨an, nc, rfl, rn, fn, bn⟩
            exact hK _ _ ⟨put9 v 4 (dyU P an nc true), g, (by simp [put9, dyU, e2, e3]), hS.stepD hL hi rfl (by decide) (by decide) bn rn (fun on b off ea h0 => by have k1 : w'.heap.size ≤ b := fn _ ea; have k2 := (hS.p on).2.2; omega)⟩
          · obtain ⟨a4, c4, E4, R4, N4⟩ := hS.r 4 P true rfl (ready_dep hi 4 (by kernel_rfl))
            have e4 : v 4 = .tuple #[.agg #[.bool P.neg, .slice a4 P.mag.length c4, .int .i64 P.exp], .int .i64 0] := E4
            refine wpOp_of (fun K hK => ?_)
            unfold wpOp
            simp only [e4]
            go_simp
            refine Or.inl ?_
            exact hK _ _ ⟨put9 v 5 (dyU P a4 c4 true), g, (by simp [put9, dyU, e4]), hS.stepD hL hi rfl (by decide) (by decide) (Below.refl _ _) R4 N4⟩
          · obtain ⟨a5, c5, E5, R5, N5⟩ := hS.r 5 P true rfl (ready_dep hi 5 (by kernel_rfl))
            have e5 : v 5 = .tuple #[.agg #[.bool P.neg, .slice a5 P.mag.length c5, .int .i64 P.exp], .int .i64 0] := E5
            refine wpOp_of (fun K hK => ?_)
            unfold wpOp
            simp only [e5]
            go_simp
            refine Or.inl ?_
            exact hK _ _ ⟨put9 v 6 (dyU P a5 c5 false), g, (by simp [put9, dyU, e5]), hS.stepD hL hi rfl (by decide) (by decide) (Below.refl _ _) R5 N5⟩
          · obtain ⟨a5, c5, E5, R5, N5⟩ := hS.r 5 P true rfl (ready_dep hi 5 (by kernel_rfl))
            have e5 : v 5 = .tuple #[.agg #[.bool P.neg, .slice a5 P.mag.length c5, .int .i64 P.exp], .int .i64 0] := E5
            refine wpOp_of (fun K hK => ?_)
            unfold wpOp
            simp only [e5]
            go_simp
            refine Or.inl ?_
            exact hK _ _ ⟨put9 v 7 (.int .i64 0), g, (by simp [put9, e5]), hS.step hL hi rfl (by decide) (by decide) V7.symm⟩
          · refine wpOp_of (fun K hK => ?_)
            unfold wpOp
            go_simp
            refine Or.inl ?_
            exact hK _ _ ⟨put9 v 8 (.pointer (some ⟨w'.heap.size, 0, none⟩)), _, (by simp [put9]), hS.make hL hi hno rfl (by decide) (by kernel_rfl)⟩
          · obtain ⟨a6, c6, E6, R6, N6⟩ := hS.r 6 P false rfl (ready_dep hi 6 (by kernel_rfl))
            have e6 : v 6 = .agg #[.bool P.neg, .slice a6 P.mag.length c6, .int .i64 P.exp] := E6
            have e8 := (hS.p (ready_dep hi 8 (by kernel_rfl))).1
            obtain ⟨hz, f0, f1, f2⟩ := hS.n (ready_dep hi 8 (by kernel_rfl)) hno
            have q0 := hz.c0
            have q1 := hz.c1
            have q2 := hz.c2
            refine wpOp_of (fun K hK => ?_)
            unfold wpOp
            simp only [e6, e8]
            go_simp
            refine Or.inl ?_
            exact hK _ _ ⟨put9 v 9 undef, g, (by simp [put9, e6, e8]), hS.store (cap := c6) hL hi hno rfl (by decide) (by kernel_rfl) R6 (N6 (ready_dep hi 8 (by kernel_rfl))) V9.symm⟩
          · have e7 : v 7 = .int .i64 0 := (hS.d 7 rfl (by decide) (ready_dep hi 7 (by kernel_rfl))).trans V7
            refine wpOp_of (fun K hK => ?_)
            unfold wpOp
            simp only [e7]
            go_simp
            refine Or.inl ?_
            exact hK _ _ ⟨put9 v 10 (.int .i64 0), g, (by simp [put9, e7]), hS.step hL hi rfl (by decide) (by decide) V10.symm⟩
        · intro L v g w' hL hS hr3
          have on := all_done hL hr3 (by kernel_rfl)
          have m := hS.m
          obtain ⟨pa, pc, HP⟩ := hS.y (on 9 (by decide))
          have eP := (hS.p (on 8 (by decide))).1
          obtain ⟨a2, c2, E2, _⟩ := hS.r 2 E false rfl (on 2 (by decide))
          obtain ⟨a4, c4, E4, _⟩ := hS.r 4 P true rfl (on 4 (by decide))
          obtain ⟨a5, c5, E5, _⟩ := hS.r 5 P true rfl (on 5 (by decide))
          obtain ⟨a6, c6, E6, _⟩ := hS.r 6 P false rfl (on 6 (by decide))
          try dsimp only
          rw [hS.d 0 rfl (by decide) (on 0 (by decide)), V0]
          rw [hS.d 1 rfl (by decide) (on 1 (by decide)), V1]
          rw [hS.d 3 rfl (by decide) (on 3 (by decide)), V3]
          rw [hS.d 7 rfl (by decide) (on 7 (by decide)), V7]
          rw [hS.d 10 rfl (by decide) (on 10 (by decide)), V10]
          rw [eP, E2, E4, E5, E6]
          clear hS on hr3 eP E2 E4 E5 E6 hVAL V0 V1 V3 V7 V10 V9
          replace KB := KB.below m
          replace KS := KS.below m
          replace HX := HX.below m
          replace HY := HY.below m
          have kb0 := KB.1
          have kb1 := KB.2.1
          have x0 := HX.c0
          have x1 := HX.c1
          have x2 := HX.c2
          have q0 := HP.c0
          have q1 := HP.c1
          have q2 := HP.c2
          have Zd := Z2.trans (m.mono Z2.size)
          replace Td := tabW_below Td m
          go_upto_region 9 with fail
          go_cut [11] from 13 (fun s wx => s = .bool true ∧ Below w'.heap.size w' wx)
          case first =>
            go_wp2_with (go_at_call 38; refine (lc _ _ _ _ _ HP.row HX.row).mono ?_; rintro e w7 ⟨rfl, b7⟩)
            go_meet
            exact ⟨rfl, b7⟩
          case rest =>
            obtain ⟨rfl, b8⟩ := hcut
            replace KB := KB.below b8
            replace KS := KS.below b8
            replace HX := HX.below b8
            replace HY := HY.below b8
            replace Td := tabW_below Td b8
            replace Zd := Zd.trans (b8.mono Zd.size)
            clear kb0 kb1 x0 x1 x2 q0 q1 q2 HP lc cp cn cf b8 m FP FE
            generalize wc = wd at *
            go_upto_region 10 with fail
            cases f1 : finB s1
            · have cf := fun w => fin_no s1 hs1 f1 w
              have kb0 := KB.1
              have kb1 := KB.2.1
              have ks0 := KS.1
              have ks1 := KS.2.1
              go_wp2_with (go_at_call 24; refine (cf _).mono ?_; rintro e w' ⟨rfl, hww⟩; subst hww)
              go_ret
              exact ⟨rfl, Zd.drew⟩
            · have cf := fun w => fin_yes s1 hs1 f1 w
              obtain ⟨E, eE, FE⟩ := fd_of f1
              obtain ⟨Q, hQ, FQ, lQ⟩ := p1 f1
              have cn := fun w h => number_any s1 E hs1 eE w h
              have cp := fun ao bo cap bcap w h1 h2 h3 => mul_any E Y ao bo cap bcap w h1 h2 FE.2.1 FY.2.1 h3
              rw [hQ E FE] at cp
              have lc := fun ao bo cap bcap w h1 h2 => least_C FX FQ ao bo cap bcap w h1 h2
              rw [decide_eq_true lQ] at lc
              clear hQ eE lQ
              have kb0 := KB.1
              have kb1 := KB.2.1
              have ks0 := KS.1
              have ks1 := KS.2.1
              go_upto_region 11 with (go_at_call 24; refine (cf _).mono ?_; rintro e w' ⟨rfl, hww⟩; subst hww)
              clear kb0 kb1 ks0 ks1
              obtain ⟨VAL, hVAL⟩ : ∃ V : Nat → Value, V = (fun j => match j with | 0 => .pointer (some ⟨gs, 1, none⟩) | 1 => .float .f64 s1 | 3 => dyA Y yo yc | 7 => .int .i64 0 | 10 => .int .i64 0 | _ => undef) := ⟨_, rfl⟩
              have V0 : VAL 0 = .pointer (some ⟨gs, 1, none⟩) := congrFun hVAL 0
              have V1 : VAL 1 = .float .f64 s1 := congrFun hVAL 1
              have V3 : VAL 3 = dyA Y yo yc := congrFun hVAL 3
              have V7 : VAL 7 = .int .i64 0 := congrFun hVAL 7
              have V10 : VAL 10 = .int .i64 0 := congrFun hVAL 10
              have V9 : VAL 9 = undef := congrFun hVAL 9
              refine region_rgD (by kernel_rfl) (fun v => ⟨#[spV a0 a1, spV b0 b1, dyA X xo xc, dyA Y yo yc, .pointer (some ⟨w.heap.size, 0, none⟩), .pointer (some ⟨n1, 0, none⟩), .pointer (some ⟨n2, 0, none⟩), .pointer (some ⟨n3, 0, none⟩), .bool false, .pointer (some ⟨gs, 0, none⟩), .int .i64 0, .bool true, .bool true, u13, u14, v 8, v 10, u17, u18, u19, u20, u21, u22, u23, u24, u25, u26, u27, u28, u29, u30, u31, u32, u33, u34, u35, u36, u37, u38, u39, u40, u41, u42, u43, u44, u45, u46, u47, u48, u49, u50, u51, u52, u53, u54, u55, u56, u57, u58, u59, u60, u61, u62, u63, u64, u65, u66, u67, u68, u69, u70, u71, u72, u73, .pointer (some ⟨gs, 1, none⟩), .float .f64 s1, .bool true, v 5, v 0, v 1, v 2, v 3, v 4, v 6, v 7, u85, u86, u87, u88, u89, u90, u91, u92, u93, u94, u95, u96, u97, u98, u99, u100, u101, u102, u103, u104, u105, u106], []⟩) 8 9 Q (fun j => match j with | 2 => some (E, false) | 4 => some (Q, true) | 5 => some (Q, true) | 6 => some (Q, false) | _ => none) VAL (fun j => match j with | 8 => u15 | 10 => u16 | 5 => u77 | 0 => u78 | 1 => u79 | 2 => u80 | 3 => u81 | 4 => u82 | 6 => u83 | 7 => u84 | _ => undef) rfl ?_ ?_
              · intro L v g w' i hL hS hi
                obtain ⟨h1, h2, h3⟩ := mem_ready hi
                have h1 : i < 11 := h1
                try dsimp only
                have hno := off_not (by rw [hL]; exact h1) h2
                have m := hS.m
                have hcs : i = 0 ∨ i = 1 ∨ i = 2 ∨ i = 3 ∨ i = 4 ∨ i = 5 ∨ i = 6 ∨ i = 7 ∨ i = 8 ∨ i = 9 ∨ i = 10 := by omega
                rcases hcs with rfl | rfl | rfl | rfl | rfl | rfl | rfl | rfl | rfl | rfl | rfl
                · refine wpOp_of (fun K hK => ?_)
                  unfold wpOp
                  go_simp
                  refine Or.inl ?_
                  exact hK _ _ ⟨put9 v 0 (.pointer (some ⟨gs, 1, none⟩)), g, (by simp [put9]), hS.step hL hi rfl (by decide) (by decide) V0.symm⟩
                · have e0 : v 0 = .pointer (some ⟨gs, 1, none⟩) := (hS.d 0 rfl (by decide) (ready_dep hi 0 (by kernel_rfl))).trans V0
                  have q0 := (KS.below m).2.1
                  refine wpOp_of (fun K hK => ?_)
                  unfold wpOp
                  simp only [e0]
                  go_simp
                  refine Or.inl ?_
                  exact hK _ _ ⟨put9 v 1 (.float .f64 s1), g, (by simp [put9, e0]), hS.step hL hi rfl (by decide) (by decide) V1.symm⟩
                · have e1 : v 1 = .float .f64 s1 := (hS.d 1 rfl (by decide) (ready_dep hi 1 (by kernel_rfl))).trans V1
                  refine wpOp_of (fun K hK => ?_)
                  unfold wpOp
                  simp only [e1]
                  go_simp
                  refine Or.inl ?_
                  refine (cn _ (tabW_below Td m)).mono ?_
                  rintro e w1 ⟨an, nc, rfl, rn, fn, bn⟩
                  exact hK _ _ ⟨put9 v 2 (dyU E an nc false), g, (by simp [put9, dyU, e1]), hS.stepD hL hi rfl (by decide) (by decide) bn rn (fun on b off ea h0 => by have k1 : w'.heap.size ≤ b := fn _ ea; have k2 := (hS.p on).2.2; omega)⟩
                · have HY' := HY.below m
                  have q0 := HY'.c0
                  have q1 := HY'.c1
                  have q2 := HY'.c2
                  refine wpOp_of (fun K hK => ?_)
                  unfold wpOp
                  go_simp
                  refine Or.inl ?_
                  exact hK _ _ ⟨put9 v 3 (dyA Y yo yc), g, (by simp [put9]), hS.step hL hi rfl (by decide) (by decide) V3.symm⟩
                · obtain ⟨a2, c2, E2, R2, N2⟩ := hS.r 2 E false rfl (ready_dep hi 2 (by kernel_rfl))
                  have e2 : v 2 = .agg #[.bool E.neg, .slice a2 E.mag.length c2, .int .i64 E.exp] := E2
                  have e3 : v 3 = dyA Y yo yc := (hS.d 3 rfl (by decide) (ready_dep hi 3 (by kernel_rfl))).trans V3
                  refine wpOp_of (fun K hK => ?_)
                  unfold wpOp
                  simp only [e2, e3]
                  go_simp
                  refine Or.inl ?_
                  refine (cp _ _ _ _ _ R2 (HY.below m).row (tabW_below Td m)).mono ?_
                  rintro e w1 ⟨an, nc, rfl, rn, fn, bn⟩
                  exact hK _ _ ⟨put9 v 4 (dyU Q an nc true), g, (by simp [put9, dyU, e2, e3]), hS.stepD hL hi rfl (by decide) (by decide) bn rn (fun on b off ea h0 => by have k1 : w'.heap.size ≤ b := fn _ ea; have k2 := (hS.p on).2.2; omega)⟩
                · obtain ⟨a4, c4, E4, R4, N4⟩ := hS.r 4 Q true rfl (ready_dep hi 4 (by kernel_rfl))
                  have e4 : v 4 = .tuple #[.agg #[.bool Q.neg, .slice a4 Q.mag.length c4, .int .i64 Q.exp], .int .i64 0] := E4
                  refine wpOp_of (fun K hK => ?_)
                  unfold wpOp
                  simp only [e4]
                  go_simp
                  refine Or.inl ?_
                  exact hK _ _ ⟨put9 v 5 (dyU Q a4 c4 true), g, (by simp [put9, dyU, e4]), hS.stepD hL hi rfl (by decide) (by decide) (Below.refl _ _) R4 N4⟩
                · obtain ⟨a5, c5, E5, R5, N5⟩ := hS.r 5 Q true rfl (ready_dep hi 5 (by kernel_rfl))
                  have e5 : v 5 = .tuple #[.agg #[.bool Q.neg, .slice a5 Q.mag.length c5, .int .i64 Q.exp], .int .i64 0] := E5
                  refine wpOp_of (fun K hK => ?_)
                  unfold wpOp
                  simp only [e5]
                  go_simp
                  refine Or.inl ?_
                  exact hK _ _ ⟨put9 v 6 (dyU Q a5 c5 false), g, (by simp [put9, dyU, e5]), hS.stepD hL hi rfl (by decide) (by decide) (Below.refl _ _) R5 N5⟩
                · obtain ⟨a5, c5, E5, R5, N5⟩ := hS.r 5 Q true rfl (ready_dep hi 5 (by kernel_rfl))
                  have e5 : v 5 = .tuple #[.agg #[.bool Q.neg, .slice a5 Q.mag.length c5, .int .i64 Q.exp], .int .i64 0] := E5
                  refine wpOp_of (fun K hK => ?_)
                  unfold wpOp
                  simp only [e5]
                  go_simp
                  refine Or.inl ?_
                  exact hK _ _ ⟨put9 v 7 (.int .i64 0), g, (by simp [put9, e5]), hS.step hL hi rfl (by decide) (by decide) V7.symm⟩
                · refine wpOp_of (fun K hK => ?_)
                  unfold wpOp
                  go_simp
                  refine Or.inl ?_
                  exact hK _ _ ⟨put9 v 8 (.pointer (some ⟨w'.heap.size, 0, none⟩)), _, (by simp [put9]), hS.make hL hi hno rfl (by decide) (by kernel_rfl)⟩
                · obtain ⟨a6, c6, E6, R6, N6⟩ := hS.r 6 Q false rfl (ready_dep hi 6 (by kernel_rfl))
                  have e6 : v 6 = .agg #[.bool Q.neg, .slice a6 Q.mag.length c6, .int .i64 Q.exp] := E6
                  have e8 := (hS.p (ready_dep hi 8 (by kernel_rfl))).1
                  obtain ⟨hz, f0, f1, f2⟩ := hS.n (ready_dep hi 8 (by kernel_rfl)) hno
                  have q0 := hz.c0
                  have q1 := hz.c1
                  have q2 := hz.c2
                  refine wpOp_of (fun K hK => ?_)
                  unfold wpOp
                  simp only [e6, e8]
                  go_simp
                  refine Or.inl ?_
                  exact hK _ _ ⟨put9 v 9 undef, g, (by simp [put9, e6, e8]), hS.store (cap := c6) hL hi hno rfl (by decide) (by kernel_rfl) R6 (N6 (ready_dep hi 8 (by kernel_rfl))) V9.symm⟩
                · have e7 : v 7 = .int .i64 0 := (hS.d 7 rfl (by decide) (ready_dep hi 7 (by kernel_rfl))).trans V7
                  refine wpOp_of (fun K hK => ?_)
                  unfold wpOp
                  simp only [e7]
                  go_simp
                  refine Or.inl ?_
                  exact hK _ _ ⟨put9 v 10 (.int .i64 0), g, (by simp [put9, e7]), hS.step hL hi rfl (by decide) (by decide) V10.symm⟩
              · intro L v g w' hL hS hr3
                have on := all_done hL hr3 (by kernel_rfl)
                have m := hS.m
                obtain ⟨pa, pc, HP⟩ := hS.y (on 9 (by decide))
                have eP := (hS.p (on 8 (by decide))).1
                obtain ⟨a2, c2, E2, _⟩ := hS.r 2 E false rfl (on 2 (by decide))
                obtain ⟨a4, c4, E4, _⟩ := hS.r 4 Q true rfl (on 4 (by decide))
                obtain ⟨a5, c5, E5, _⟩ := hS.r 5 Q true rfl (on 5 (by decide))
                obtain ⟨a6, c6, E6, _⟩ := hS.r 6 Q false rfl (on 6 (by decide))
                try dsimp only
                rw [hS.d 0 rfl (by decide) (on 0 (by decide)), V0]
                rw [hS.d 1 rfl (by decide) (on 1 (by decide)), V1]
                rw [hS.d 3 rfl (by decide) (on 3 (by decide)), V3]
                rw [hS.d 7 rfl (by decide) (on 7 (by decide)), V7]
                rw [hS.d 10 rfl (by decide) (on 10 (by decide)), V10]
                rw [eP, E2, E4, E5, E6]
                clear hS on hr3 eP E2 E4 E5 E6 hVAL V0 V1 V3 V7 V10 V9
                replace KB := KB.below m
                replace KS := KS.below m
                replace HX := HX.below m
                have kb0 := KB.1
                have kb1 := KB.2.1
                have x0 := HX.c0
                have x1 := HX.c1
                have x2 := HX.c2
                have q0 := HP.c0
                have q1 := HP.c1
                have q2 := HP.c2
                replace Zd := Zd.trans (m.mono Zd.size)
                go_wp2_with (go_at_call 38; refine (lc _ _ _ _ _ HX.row HP.row).mono ?_; rintro e w7 ⟨rfl, b7⟩)
                go_ret
                exact ⟨rfl, Zd.trans (b7.mono Zd.size)⟩
  · skip
    simp only [Bool.not_true, if_true] at g1 g2 p0 p1
    obtain ⟨g5, g6⟩ := g4 rfl
    go_upto_region 6 with (go_at_call 5; refine (hR _).mono ?_; rintro e Wk ⟨rfl, b2⟩)
    replace KB := KB.below b2
    replace KS := KS.below b2
    replace HX := HX.below b2
    replace HY := HY.below b2
    have Z2 := hR2 _ b2
    have T2 := tabW_below TW b2
    clear kb0 kb1 ks0 ks1 b2 hR2 Z TW hD hR
    go_cut [11, 12] from 13 (fun s t wx => s = .bool true ∧ t = .bool true ∧ wx = Wk)
    case first =>
      go_wp2
      go_meet
      exact ⟨rfl, rfl, rfl⟩
    case rest =>
      obtain ⟨rfl, rfl, rfl⟩ := hcut
      go_upto_region 7 with fail
      cases f0 : finB s0
      · have cf := fun w => fin_no s0 hs0 f0 w
        have kb0 := KB.1
        have kb1 := KB.2.1
        have ks0 := KS.1
        have ks1 := KS.2.1
        go_upto_region 10 with (go_at_call 24; refine (cf _).mono ?_; rintro e w' ⟨rfl, hww⟩; subst hww)
        have Zd : Below w.heap.size w wc.drew := Z2.drew
        replace KB := KB.drew
        replace KS := KS.drew
        replace HX := HX.below (Below.refl _ _).drew
        replace HY := HY.below (Below.refl _ _).drew
        have Td := tabW_below T2 (Below.refl _ _).drew
        clear kb0 kb1 ks0 ks1 cf p0
        generalize wc.drew = wd at *
        cases f1 : finB s1
        · have cf := fun w => fin_no s1 hs1 f1 w
          have kb0 := KB.1
          have kb1 := KB.2.1
          have ks0 := KS.1
          have ks1 := KS.2.1
          go_wp2_with (go_at_call 24; refine (cf _).mono ?_; rintro e w' ⟨rfl, hww⟩; subst hww)
          go_ret
          exact ⟨rfl, Zd.drew⟩
        · have cf := fun w => fin_yes s1 hs1 f1 w
          obtain ⟨E, eE, FE⟩ := fd_of f1
          obtain ⟨Q, hQ, FQ, lQ⟩ := p1 f1
          have cn := fun w h => number_any s1 E hs1 eE w h
          have cp := fun ao bo cap bcap w h1 h2 h3 => mul_any E Y ao bo cap bcap w h1 h2 FE.2.1 FY.2.1 h3
          rw [hQ E FE] at cp
          have lc := fun ao bo cap bcap w h1 h2 => least_C FQ FX ao bo cap bcap w h1 h2
          rw [decide_eq_true lQ] at lc
          clear hQ eE lQ
          have kb0 := KB.1
          have kb1 := KB.2.1
          have ks0 := KS.1
          have ks1 := KS.2.1
          go_upto_region 11 with (go_at_call 24; refine (cf _).mono ?_; rintro e w' ⟨rfl, hww⟩; subst hww)
          clear kb0 kb1 ks0 ks1
          obtain ⟨VAL, hVAL⟩ : ∃ V : Nat → Value, V = (fun j => match j with | 0 => .pointer (some ⟨gs, 1, none⟩) | 1 => .float .f64 s1 | 3 => dyA Y yo yc | 7 => .int .i64 0 | 10 => .int .i64 0 | _ => undef) := ⟨_, rfl⟩
          have V0 : VAL 0 = .pointer (some ⟨gs, 1, none⟩) := congrFun hVAL 0
          have V1 : VAL 1 = .float .f64 s1 := congrFun hVAL 1
          have V3 : VAL 3 = dyA Y yo yc := congrFun hVAL 3
          have V7 : VAL 7 = .int .i64 0 := congrFun hVAL 7
          have V10 : VAL 10 = .int .i64 0 := congrFun hVAL 10
          have V9 : VAL 9 = undef := congrFun hVAL 9
          refine region_rgD (by kernel_rfl) (fun v => ⟨#[spV a0 a1, spV b0 b1, dyA X xo xc, dyA Y yo yc, .pointer (some ⟨w.heap.size, 0, none⟩), .pointer (some ⟨n1, 0, none⟩), .pointer (some ⟨n2, 0, none⟩), .pointer (some ⟨n3, 0, none⟩), .bool false, .pointer (some ⟨gs, 0, none⟩), .int .i64 0, .bool true, .bool true, u13, u14, v 8, v 10, u17, u18, u19, u20, u21, u22, u23, u24, u25, u26, u27, u28, u29, u30, u31, u32, u33, u34, u35, u36, u37, u38, u39, u40, u41, u42, u43, u44, .pointer (some ⟨gs, 0, none⟩), .float .f64 s0, .bool false, u48, u49, u50, u51, u52, u53, u54, u55, u56, u57, u58, u59, u60, u61, u62, u63, u64, u65, u66, u67, u68, u69, u70, u71, u72, u73, .pointer (some ⟨gs, 1, none⟩), .float .f64 s1, .bool true, v 5, v 0, v 1, v 2, v 3, v 4, v 6, v 7, u85, u86, u87, u88, u89, u90, u91, u92, u93, u94, u95, u96, u97, u98, u99, u100, u101, u102, u103, u104, u105, u106], []⟩) 8 9 Q (fun j => match j with | 2 => some (E, false) | 4 => some (Q, true) | 5 => some (Q, true) | 6 => some (Q, false) | _ => none) VAL (fun j => match j with | 8 => u15 | 10 => u16 | 5 => u77 | 0 => u78 | 1 => u79 | 2 => u80 | 3 => u81 | 4 => u82 | 6 => u83 | 7 => u84 | _ => undef) rfl ?_ ?_
          · intro L v g w' i hL hS hi
            obtain ⟨h1, h2, h3⟩ := mem_ready hi
            have h1 : i < 11 := h1
            try dsimp only
            have hno := off_not (by rw [hL]; exact h1) h2
            have m := hS.m
            have hcs : i = 0 ∨ i = 1 ∨ i = 2 ∨ i = 3 ∨ i = 4 ∨ i = 5 ∨ i = 6 ∨ i = 7 ∨ i = 8 ∨ i = 9 ∨ i = 10 := by omega
            rcases hcs with rfl | rfl | rfl | rfl | rfl | rfl | rfl | rfl | rfl | rfl | rfl
            · refine wpOp_of (fun K hK => ?_)
              unfold wpOp
              go_simp
              refine Or.inl ?_
              exact hK _ _ ⟨put9 v 0 (.pointer (some ⟨gs, 1, none⟩)), g, (by simp [put9]), hS.step hL hi rfl (by decide) (by decide) V0.symm⟩
            · have e0 : v 0 = .pointer (some ⟨gs, 1, none⟩) := (hS.d 0 rfl (by decide) (ready_dep hi 0 (by kernel_rfl))).trans V0
              have q0 := (KS.below m).2.1
              refine wpOp_of (fun K hK => ?_)
              unfold wpOp
              simp only [e0]
              go_simp
              refine Or.inl ?_
              exact hK _ _ ⟨put9 v 1 (.float .f64 s1), g, (by simp [put9, e0]), hS.step hL hi rfl (by decide) (by decide) V1.symm⟩
            · have e1 : v 1 = .float .f64 s1 := (hS.d 1 rfl (by decide) (ready_dep hi 1 (by kernel_rfl))).trans V1
              refine wpOp_of (fun K hK => ?_)
              unfold wpOp
              simp only [e1]
              go_simp
              refine Or.inl ?_
              refine (cn _ (tabW_below Td m)).mono ?_
              rintro e w1 ⟨an, nc, rfl, rn, fn, bn⟩
              exact hK _ _ ⟨put9 v 2 (dyU E an nc false), g, (by simp [put9, dyU, e1]), hS.stepD hL hi rfl (by decide) (by decide) bn rn (fun on b off ea h0 => by have k1 : w'.heap.size ≤ b := fn _ ea; have k2 := (hS.p on).2.2; omega)⟩
            · have HY' := HY.below m
              have q0 := HY'.c0
              have q1 := HY'.c1
              have q2 := HY'.c2
              refine wpOp_of (fun K hK => ?_)
              unfold wpOp
              go_simp
              refine Or.inl ?_
              exact hK _ _ ⟨put9 v 3 (dyA Y yo yc), g, (by simp [put9]), hS.step hL hi rfl (by decide) (by decide) V3.symm⟩
            · obtain ⟨a2, c2, E2, R2, N2⟩ := hS.r 2 E false rfl (ready_dep hi 2 (by kernel_rfl))
              have e2 : v 2 = .agg #[.bool E.neg, .slice a2 E.mag.length c2, .int .i64 E.exp] := E2
              have e3 : v 3 = dyA Y yo yc := (hS.d 3 rfl (by decide) (ready_dep hi 3 (by kernel_rfl))).trans V3
              refine wpOp_of (fun K hK => ?_)
              unfold wpOp
              simp only [e2, e3]
              go_simp
              refine Or.inl ?_
              refine (cp _ _ _ _ _ R2 (HY.below m).row (tabW_below Td m)).mono ?_
              rintro e w1 ⟨an, nc, rfl, rn, fn, bn⟩
              exact hK _ _ ⟨put9 v 4 (dyU Q an nc true), g, (by simp [put9, dyU, e2, e3]), hS.stepD hL hi rfl (by decide) (by decide) bn rn (fun on b off ea h0 => by have k1 : w'.heap.size ≤ b := fn _ ea; have k2 := (hS.p on).2.2; omega)⟩
            · obtain ⟨a4, c4, E4, R4, N4⟩ := hS.r 4 Q true rfl (ready_dep hi 4 (by kernel_rfl))
              have e4 : v 4 = .tuple #[.agg #[.bool Q.neg, .slice a4 Q.mag.length c4, .int .i64 Q.exp], .int .i64 0] := E4
              refine wpOp_of (fun K hK => ?_)
              unfold wpOp
              simp only [e4]
              go_simp
              refine Or.inl ?_
              exact hK _ _ ⟨put9 v 5 (dyU Q a4 c4 true), g, (by simp [put9, dyU, e4]), hS.stepD hL hi rfl (by decide) (by decide) (Below.refl _ _) R4 N4⟩
            · obtain ⟨a5, c5, E5, R5, N5⟩ := hS.r 5 Q true rfl (ready_dep hi 5 (by kernel_rfl))
              have e5 : v 5 = .tuple #[.agg #[.bool Q.neg, .slice a5 Q.mag.length c5, .int .i64 Q.exp], .int .i64 0] := E5
              refine wpOp_of (fun K hK => ?_)
              unfold wpOp
              simp only [e5]
              go_simp
              refine Or.inl ?_
              exact hK _ _ ⟨put9 v 6 (dyU Q a5 c5 false), g, (by simp [put9, dyU, e5]), hS.stepD hL hi rfl (by decide) (by decide) (Below.refl _ _) R5 N5⟩
            · obtain ⟨a5, c5, E5, R5, N5⟩ := hS.r 5 Q true rfl (ready_dep hi 5 (by kernel_rfl))
              have e5 : v 5 = .tuple #[.agg #[.bool Q.neg, .slice a5 Q.mag.length c5, .int .i64 Q.exp], .int .i64 0] := E5
              refine wpOp_of (fun K hK => ?_)
              unfold wpOp
              simp only [e5]
              go_simp
              refine Or.inl ?_
              exact hK _ _ ⟨put9 v 7 (.int .i64 0), g, (by simp [put9, e5]), hS.step hL hi rfl (by decide) (by decide) V7.symm⟩
            · refine wpOp_of (fun K hK => ?_)
              unfold wpOp
              go_simp
              refine Or.inl ?_
              exact hK _ _ ⟨put9 v 8 (.pointer (some ⟨w'.heap.size, 0, none⟩)), _, (by simp [put9]), hS.make hL hi hno rfl (by decide) (by kernel_rfl)⟩
            · obtain ⟨a6, c6, E6, R6, N6⟩ := hS.r 6 Q false rfl (ready_dep hi 6 (by kernel_rfl))
              have e6 : v 6 = .agg #[.bool Q.neg, .slice a6 Q.mag.length c6, .int .i64 Q.exp] := E6
              have e8 := (hS.p (ready_dep hi 8 (by kernel_rfl))).1
              obtain ⟨hz, f0, f1, f2⟩ := hS.n (ready_dep hi 8 (by kernel_rfl)) hno
              have q0 := hz.c0
              have q1 := hz.c1
              have q2 := hz.c2
              refine wpOp_of (fun K hK => ?_)
              unfold wpOp
              simp only [e6, e8]
              go_simp
              refine Or.inl ?_
              exact hK _ _ ⟨put9 v 9 undef, g, (by simp [put9, e6, e8]), hS.store (cap := c6) hL hi hno rfl (by decide) (by kernel_rfl) R6 (N6 (ready_dep hi 8 (by kernel_rfl))) V9.symm⟩
            · have e7 : v 7 = .int .i64 0 := (hS.d 7 rfl (by decide) (ready_dep hi 7 (by kernel_rfl))).trans V7
              refine wpOp_of (fun K hK => ?_)
              unfold wpOp
              simp only [e7]
              go_simp
              refine Or.inl ?_
              exact hK _ _ ⟨put9 v 10 (.int .i64 0), g, (by simp [put9, e7]), hS.step hL hi rfl (by decide) (by decide) V10.symm⟩
          · intro L v g w' hL hS hr3
            have on := all_done hL hr3 (by kernel_rfl)
            have m := hS.m
            obtain ⟨pa, pc, HP⟩ := hS.y (on 9 (by decide))
            have eP := (hS.p (on 8 (by decide))).1
            obtain ⟨a2, c2, E2, _⟩ := hS.r 2 E false rfl (on 2 (by decide))
            obtain ⟨a4, c4, E4, _⟩ := hS.r 4 Q true rfl (on 4 (by decide))
            obtain ⟨a5, c5, E5, _⟩ := hS.r 5 Q true rfl (on 5 (by decide))
            obtain ⟨a6, c6, E6, _⟩ := hS.r 6 Q false rfl (on 6 (by decide))
            try dsimp only
            rw [hS.d 0 rfl (by decide) (on 0 (by decide)), V0]
            rw [hS.d 1 rfl (by decide) (on 1 (by decide)), V1]
            rw [hS.d 3 rfl (by decide) (on 3 (by decide)), V3]
            rw [hS.d 7 rfl (by decide) (on 7 (by decide)), V7]
            rw [hS.d 10 rfl (by decide) (on 10 (by decide)), V10]
            rw [eP, E2, E4, E5, E6]
            clear hS on hr3 eP E2 E4 E5 E6 hVAL V0 V1 V3 V7 V10 V9
            replace KB := KB.below m
            replace KS := KS.below m
            replace HX := HX.below m
            have kb0 := KB.1
            have kb1 := KB.2.1
            have x0 := HX.c0
            have x1 := HX.c1
            have x2 := HX.c2
            have q0 := HP.c0
            have q1 := HP.c1
            have q2 := HP.c2
            replace Zd := Zd.trans (m.mono Zd.size)
            go_wp2_with (go_at_call 38; refine (lc _ _ _ _ _ HP.row HX.row).mono ?_; rintro e w7 ⟨rfl, b7⟩)
            go_ret
            exact ⟨rfl, Zd.trans (b7.mono Zd.size)⟩
      · have cf := fun w => fin_yes s0 hs0 f0 w
        obtain ⟨E, eE, FE⟩ := fd_of f0
        obtain ⟨P, hP, FP, lP⟩ := p0 f0
        have cn := fun w h => number_any s0 E hs0 eE w h
        have cp := fun ao bo cap bcap w h1 h2 h3 => mul_any E Y ao bo cap bcap w h1 h2 FE.2.1 FY.2.1 h3
        rw [hP E FE] at cp
        have lc := fun ao bo cap bcap w h1 h2 => least_C FX FP ao bo cap bcap w h1 h2
        rw [decide_eq_true lP] at lc
        clear hP eE lP
        have kb0 := KB.1
        have kb1 := KB.2.1
        have ks0 := KS.1
        have ks1 := KS.2.1
        have Td := T2
        go_upto_region 8 with (go_at_call 24; refine (cf _).mono ?_; rintro e w' ⟨rfl, hww⟩; subst hww)
        clear kb0 kb1 ks0 ks1
        obtain ⟨VAL, hVAL⟩ : ∃ V : Nat → Value, V = (fun j => match j with | 0 => .pointer (some ⟨gs, 0, none⟩) | 1 => .float .f64 s0 | 3 => dyA Y yo yc | 7 => .int .i64 0 | 10 => .int .i64 0 | _ => undef) := ⟨_, rfl⟩
        have V0 : VAL 0 = .pointer (some ⟨gs, 0, none⟩) := congrFun hVAL 0
        have V1 : VAL 1 = .float .f64 s0 := congrFun hVAL 1
        have V3 : VAL 3 = dyA Y yo yc := congrFun hVAL 3
        have V7 : VAL 7 = .int .i64 0 := congrFun hVAL 7
        have V10 : VAL 10 = .int .i64 0 := congrFun hVAL 10
        have V9 : VAL 9 = undef := congrFun hVAL 9
        refine region_rgD (by kernel_rfl) (fun v => ⟨#[spV a0 a1, spV b0 b1, dyA X xo xc, dyA Y yo yc, .pointer (some ⟨w.heap.size, 0, none⟩), .pointer (some ⟨n1, 0, none⟩), .pointer (some ⟨n2, 0, none⟩), .pointer (some ⟨n3, 0, none⟩), .bool false, .pointer (some ⟨gs, 0, none⟩), .int .i64 0, .bool true, .bool true, v 8, v 10, u15, u16, u17, u18, u19, u20, u21, u22, u23, u24, u25, u26, u27, u28, u29, u30, u31, u32, u33, u34, u35, u36, u37, u38, u39, u40, u41, u42, u43, u44, .pointer (some ⟨gs, 0, none⟩), .float .f64 s0, .bool true, v 5, v 0, v 1, v 2, v 3, v 4, v 6, v 7, u56, u57, u58, u59, u60, u61, u62, u63, u64, u65, u66, u67, u68, u69, u70, u71, u72, u73, u74, u75, u76, u77, u78, u79, u80, u81, u82, u83, u84, u85, u86, u87, u88, u89, u90, u91, u92, u93, u94, u95, u96, u97, u98, u99, u100, u101, u102, u103, u104, u105, u106], []⟩) 8 9 P (fun j => match j with | 2 => some (E, false) | 4 => some (P, true) | 5 => some (P, true) | 6 => some (P, false) | _ => none) VAL (fun j => match j with | 8 => u13 | 10 => u14 | 5 => u48 | 0 => u49 | 1 => u50 | 2 => u51 | 3 => u52 | 4 => u53 | 6 => u54 | 7 => u55 | _ => undef) rfl ?_ ?_
        · intro L v g w' i hL hS hi
          obtain ⟨h1, h2, h3⟩ := mem_ready hi
          have h1 : i < 11 := h1
          try dsimp only
          have hno := off_not (by rw [hL]; exact h1) h2
          have m := hS.m
          have hcs : i = 0 ∨ i = 1 ∨ i = 2 ∨ i = 3 ∨ i = 4 ∨ i = 5 ∨ i = 6 ∨ i = 7 ∨ i = 8 ∨ i = 9 ∨ i = 10 := by omega
          rcases hcs with rfl | rfl | rfl | rfl | rfl | rfl | rfl | rfl | rfl | rfl | rfl
          · refine wpOp_of (fun K hK => ?_)
            unfold wpOp
            go_simp
            refine Or.inl ?_
            exact hK _ _ ⟨put9 v 0 (.pointer (some ⟨gs, 0, none⟩)), g, (by simp [put9]), hS.step hL hi rfl (by decide) (by decide) V0.symm⟩
          · have e0 : v 0 = .pointer (some ⟨gs, 0, none⟩) := (hS.d 0 rfl (by decide) (ready_dep hi 0 (by kernel_rfl))).trans V0
            have q0 := (KS.below m).1
            refine wpOp_of (fun K hK => ?_)
            unfold wpOp
            simp only [e0]
            go_simp
            refine Or.inl ?_
            exact hK _ _ ⟨put9 v 1 (.float .f64 s0), g, (by simp [put9, e0]), hS.step hL hi rfl (by decide) (by decide) V1.symm⟩
          · have e1 : v 1 = .float .f64 s0 := (hS.d 1 rfl (by decide) (ready_dep hi 1 (by kernel_rfl))).trans V1
            refine wpOp_of (fun K hK => ?_)
            unfold wpOp
            simp only [e1]
            go_simp
            refine Or.inl ?_
            refine (cn _ (tabW_below Td m)).mono ?_
            rintro e w1 ⟨an, nc, rfl, rn, fn, bn⟩
            exact hK _ _ ⟨put9 v 2 (dyU E an nc false), g, (by simp [put9, dyU, e1]), hS.stepD hL hi rfl (by decide) (by decide) bn rn (fun on b off ea h0 => by have k1 : w'.heap.size ≤ b := fn _ ea; have k2 := (hS.p on).2.2; omega)⟩
          · have HY' := HY.below m
            have q0 := HY'.c0
            have q1 := HY'.c1
            have q2 := HY'.c2
            refine wpOp_of (fun K hK => ?_)
            unfold wpOp
            go_simp
            refine Or.inl ?_
            exact hK _ _ ⟨put9 v 3 (dyA Y yo yc), g, (by simp [put9]), hS.step hL hi rfl (by decide) (by decide) V3.symm⟩
          · obtain ⟨a2, c2, E2, R2, N2⟩ := hS.r 2 E false rfl (ready_dep hi 2 (by kernel_rfl))
            have e2 : v 2 = .agg #[.bool E.neg, .slice a2 E.mag.length c2, .int .i64 E.exp] := E2
            have e3 : v 3 = dyA Y yo yc := (hS.d 3 rfl (by decide) (ready_dep hi 3 (by kernel_rfl))).trans V3
            refine wpOp_of (fun K hK => ?_)
            unfold wpOp
            simp only [e2, e3]
            go_simp
            refine Or.inl ?_
            refine (cp _ _ _ _ _ R2 (HY.below m).row (tabW_below Td m)).mono ?_
            rintro e w1 ⟨an, nc, rfl, rn, fn, bn⟩
            exact hK _ _ ⟨put9 v 4 (dyU P an nc true), g, (by simp [put9, dyU, e2, e3]), hS.stepD hL hi rfl (by decide) (by decide) bn rn (fun on b off ea h0 => by have k1 : w'.heap.size ≤ b := fn _ ea; have k2 := (hS.p on).2.2; omega)⟩
          · obtain ⟨a4, c4, E4, R4, N4⟩ := hS.r 4 P true rfl (ready_dep hi 4 (by kernel_rfl))
            have e4 : v 4 = .tuple #[.agg #[.bool P.neg, .slice a4 P.mag.length c4, .int .i64 P.exp], .int .i64 0] := E4
            refine wpOp_of (fun K hK => ?_)
            unfold wpOp
            simp only [e4]
            go_simp
            refine Or.inl ?_
            exact hK _ _ ⟨put9 v 5 (dyU P a4 c4 true), g, (by simp [put9, dyU, e4]), hS.stepD hL hi rfl (by decide) (by decide) (Below.refl _ _) R4 N4⟩
          · obtain ⟨a5, c5, E5, R5, N5⟩ := hS.r 5 P true rfl (ready_dep hi 5 (by kernel_rfl))
            have e5 : v 5 = .tuple #[.agg #[.bool P.neg, .slice a5 P.mag.length c5, .int .i64 P.exp], .int .i64 0] := E5
            refine wpOp_of (fun K hK => ?_)
            unfold wpOp
            simp only [e5]
            go_simp
            refine Or.inl ?_
            exact hK _ _ ⟨put9 v 6 (dyU P a5 c5 false), g, (by simp [put9, dyU, e5]), hS.stepD hL hi rfl (by decide) (by decide) (Below.refl _ _) R5 N5⟩
          · obtain ⟨a5, c5, E5, R5, N5⟩ := hS.r 5 P true rfl (ready_dep hi 5 (by kernel_rfl))
            have e5 : v 5 = .tuple #[.agg #[.bool P.neg, .slice a5 P.mag.length c5, .int .i64 P.exp], .int .i64 0] := E5
            refine wpOp_of (fun K hK => ?_)
            unfold wpOp
            simp only [e5]
            go_simp
            refine Or.inl ?_
            exact hK _ _ ⟨put9 v 7 (.int .i64 0), g, (by simp [put9, e5]), hS.step hL hi rfl (by decide) (by decide) V7.symm⟩
          · refine wpOp_of (fun K hK => ?_)
            unfold wpOp
            go_simp
            refine Or.inl ?_
            exact hK _ _ ⟨put9 v 8 (.pointer (some ⟨w'.heap.size, 0, none⟩)), _, (by simp [put9]), hS.make hL hi hno rfl (by decide) (by kernel_rfl)⟩
          · obtain ⟨a6, c6, E6, R6, N6⟩ := hS.r 6 P false rfl (ready_dep hi 6 (by kernel_rfl))
            have e6 : v 6 = .agg #[.bool P.neg, .slice a6 P.mag.length c6, .int .i64 P.exp] := E6
            have e8 := (hS.p (ready_dep hi 8 (by kernel_rfl))).1
            obtain ⟨hz, f0, f1, f2⟩ := hS.n (ready_dep hi 8 (by kernel_rfl)) hno
            have q0 := hz.c0
            have q1 := hz.c1
            have q2 := hz.c2
            refine wpOp_of (fun K hK => ?_)
            unfold wpOp
            simp only [e6, e8]
            go_simp
            refine Or.inl ?_
            exact hK _ _ ⟨put9 v 9 undef, g, (by simp [put9, e6, e8]), hS.store (cap := c6) hL hi hno rfl (by decide) (by kernel_rfl) R6 (N6 (ready_dep hi 8 (by kernel_rfl))) V9.symm⟩
          · have e7 : v 7 = .int .i64 0 := (hS.d 7 rfl (by decide) (ready_dep hi 7 (by kernel_rfl))).trans V7
            refine wpOp_of (fun K hK => ?_)
            unfold wpOp
            simp only [e7]
            go_simp
            refine Or.inl ?_
            exact hK _ _ ⟨put9 v 10 (.int .i64 0), g, (by simp [put9, e7]), hS.step hL hi rfl (by decide) (by decide) V10.symm⟩
        · intro L v g w' hL hS hr3
          have on := all_done hL hr3 (by kernel_rfl)
          have m := hS.m
          obtain ⟨pa, pc, HP⟩ := hS.y (on 9 (by decide))
          have eP := (hS.p (on 8 (by decide))).1
          obtain ⟨a2, c2, E2, _⟩ := hS.r 2 E false rfl (on 2 (by decide))
          obtain ⟨a4, c4, E4, _⟩ := hS.r 4 P true rfl (on 4 (by decide))
          obtain ⟨a5, c5, E5, _⟩ := hS.r 5 P true rfl (on 5 (by decide))
          obtain ⟨a6, c6, E6, _⟩ := hS.r 6 P false rfl (on 6 (by decide))
          try dsimp only
          rw [hS.d 0 rfl (by decide) (on 0 (by decide)), V0]
          rw [hS.d 1 rfl (by decide) (on 1 (by decide)), V1]
          rw [hS.d 3 rfl (by decide) (on 3 (by decide)), V3]
          rw [hS.d 7 rfl (by decide) (on 7 (by decide)), V7]
          rw [hS.d 10 rfl (by decide) (on 10 (by decide)), V10]
          rw [eP, E2, E4, E5, E6]
          clear hS on hr3 eP E2 E4 E5 E6 hVAL V0 V1 V3 V7 V10 V9
          replace KB := KB.below m
          replace KS := KS.below m
          replace HX := HX.below m
          replace HY := HY.below m
          have kb0 := KB.1
          have kb1 := KB.2.1
          have x0 := HX.c0
          have x1 := HX.c1
          have x2 := HX.c2
          have q0 := HP.c0
          have q1 := HP.c1
          have q2 := HP.c2
          have Zd := Z2.trans (m.mono Z2.size)
          replace Td := tabW_below Td m
          go_upto_region 9 with fail
          go_cut [11] from 13 (fun s wx => s = .bool true ∧ Below w'.heap.size w' wx)
          case first =>
            go_wp2_with (go_at_call 38; refine (lc _ _ _ _ _ HX.row HP.row).mono ?_; rintro e w7 ⟨rfl, b7⟩)
            go_meet
            exact ⟨rfl, b7⟩
          case rest =>
            obtain ⟨rfl, b8⟩ := hcut
            replace KB := KB.below b8
            replace KS := KS.below b8
            replace HX := HX.below b8
            replace HY := HY.below b8
            replace Td := tabW_below Td b8
            replace Zd := Zd.trans (b8.mono Zd.size)
            clear kb0 kb1 x0 x1 x2 q0 q1 q2 HP lc cp cn cf b8 m FP FE
            generalize wc = wd at *
            go_upto_region 10 with fail
            cases f1 : finB s1
            · have cf := fun w => fin_no s1 hs1 f1 w
              have kb0 := KB.1
              have kb1 := KB.2.1
              have ks0 := KS.1
              have ks1 := KS.2.1
              go_wp2_with (go_at_call 24; refine (cf _).mono ?_; rintro e w' ⟨rfl, hww⟩; subst hww)
              go_ret
              exact ⟨rfl, Zd.drew⟩
            · have cf := fun w => fin_yes s1 hs1 f1 w
              obtain ⟨E, eE, FE⟩ := fd_of f1
              obtain ⟨Q, hQ, FQ, lQ⟩ := p1 f1
              have cn := fun w h => number_any s1 E hs1 eE w h
              have cp := fun ao bo cap bcap w h1 h2 h3 => mul_any E Y ao bo cap bcap w h1 h2 FE.2.1 FY.2.1 h3
              rw [hQ E FE] at cp
              have lc := fun ao bo cap bcap w h1 h2 => least_C FQ FX ao bo cap bcap w h1 h2
              rw [decide_eq_true lQ] at lc
              clear hQ eE lQ
              have kb0 := KB.1
              have kb1 := KB.2.1
              have ks0 := KS.1
              have ks1 := KS.2.1
              go_upto_region 11 with (go_at_call 24; refine (cf _).mono ?_; rintro e w' ⟨rfl, hww⟩; subst hww)
              clear kb0 kb1 ks0 ks1
              obtain ⟨VAL, hVAL⟩ : ∃ V : Nat → Value, V = (fun j => match j with | 0 => .pointer (some ⟨gs, 1, none⟩) | 1 => .float .f64 s1 | 3 => dyA Y yo yc | 7 => .int .i64 0 | 10 => .int .i64 0 | _ => undef) := ⟨_, rfl⟩
              have V0 : VAL 0 = .pointer (some ⟨gs, 1, none⟩) := congrFun hVAL 0
              have V1 : VAL 1 = .float .f64 s1 := congrFun hVAL 1
              have V3 : VAL 3 = dyA Y yo yc := congrFun hVAL 3
              have V7 : VAL 7 = .int .i64 0 := congrFun hVAL 7
              have V10 : VAL 10 = .int .i64 0 := congrFun hVAL 10
              have V9 : VAL 9 = undef := congrFun hVAL 9
              refine region_rgD (by kernel_rfl) (fun v => ⟨#[spV a0 a1, spV b0 b1, dyA X xo xc, dyA Y yo yc, .pointer (some ⟨w.heap.size, 0, none⟩), .pointer (some ⟨n1, 0, none⟩), .pointer (some ⟨n2, 0, none⟩), .pointer (some ⟨n3, 0, none⟩), .bool false, .pointer (some ⟨gs, 0, none⟩), .int .i64 0, .bool true, .bool true, u13, u14, v 8, v 10, u17, u18, u19, u20, u21, u22, u23, u24, u25, u26, u27, u28, u29, u30, u31, u32, u33, u34, u35, u36, u37, u38, u39, u40, u41, u42, u43, u44, u45, u46, u47, u48, u49, u50, u51, u52, u53, u54, u55, u56, u57, u58, u59, u60, u61, u62, u63, u64, u65, u66, u67, u68, u69, u70, u71, u72, u73, .pointer (some ⟨gs, 1, none⟩), .float .f64 s1, .bool true, v 5, v 0, v 1, v 2, v 3, v 4, v 6, v 7, u85, u86, u87, u88, u89, u90, u91, u92, u93, u94, u95, u96, u97, u98, u99, u100, u101, u102, u103, u104, u105, u106], []⟩) 8 9 Q (fun j => match j with | 2 => some (E, false) | 4 => some (Q, true) | 5 => some (Q, true) | 6 => some (Q, false) | _ => none) VAL (fun j => match j with | 8 => u15 | 10 => u16 | 5 => u77 | 0 => u78 | 1 => u79 | 2 => u80 | 3 => u81 | 4 => u82 | 6 => u83 | 7 => u84 | _ => undef) rfl ?_ ?_
              · intro L v g w' i hL hS hi
                obtain ⟨h1, h2, h3⟩ := mem_ready hi
                have h1 : i < 11 := h1
                try dsimp only
                have hno := off_not (by rw [hL]; exact h1) h2
                have m := hS.m
                have hcs : i = 0 ∨ i = 1 ∨ i = 2 ∨ i = 3 ∨ i = 4 ∨ i = 5 ∨ i = 6 ∨ i = 7 ∨ i = 8 ∨ i = 9 ∨ i = 10 := by omega
                rcases hcs with rfl | rfl | rfl | rfl | rfl | rfl | rfl | rfl | rfl | rfl | rfl
                · refine wpOp_of (fun K hK => ?_)
                  unfold wpOp
                  go_simp
                  refine Or.inl ?_
                  exact hK _ _ ⟨put9 v 0 (.pointer (some ⟨gs, 1, none⟩)), g, (by simp [put9]), hS.step hL hi rfl (by decide) (by decide) V0.symm⟩
                · have e0 : v 0 = .pointer (some ⟨gs, 1, none⟩) := (hS.d 0 rfl (by decide) (ready_dep hi 0 (by kernel_rfl))).trans V0
                  have q0 := (KS.below m).2.1
                  refine wpOp_of (fun K hK => ?_)
                  unfold wpOp
                  simp only [e0]
                  go_simp
                  refine Or.inl ?_
                  exact hK _ _ ⟨put9 v 1 (.float .f64 s1), g, (by simp [put9, e0]), hS.step hL hi rfl (by decide) (by decide) V1.symm⟩
                · have e1 : v 1 = .float .f64 s1 := (hS.d 1 rfl (by decide) (ready_dep hi 1 (by kernel_rfl))).trans V1
                  refine wpOp_of (fun K hK => ?_)
                  unfold wpOp
                  simp only [e1]
                  go_simp
                  refine Or.inl ?_
                  refine (cn _ (tabW_below Td m)).mono ?_
                  rintro e w1 ⟨an, nc, rfl, rn, fn, bn⟩
                  exact hK _ _ ⟨put9 v 2 (dyU E an nc false), g, (by simp [put9, dyU, e1]), hS.stepD hL hi rfl (by decide) (by decide) bn rn (fun on b off ea h0 => by have k1 : w'.heap.size ≤ b := fn _ ea; have k2 := (hS.p on).2.2; omega)⟩
                · have HY' := HY.below m
                  have q0 := HY'.c0
                  have q1 := HY'.c1
                  have q2 := HY'.c2
                  refine wpOp_of (fun K hK => ?_)
                  unfold wpOp
                  go_simp
                  refine Or.inl ?_
                  exact hK _ _ ⟨put9 v 3 (dyA Y yo yc), g, (by simp [put9]), hS.step hL hi rfl (by decide) (by decide) V3.symm⟩
                · obtain ⟨a2, c2, E2, R2, N2⟩ := hS.r 2 E false rfl (ready_dep hi 2 (by kernel_rfl))
                  have e2 : v 2 = .agg #[.bool E.neg, .slice a2 E.mag.length c2, .int .i64 E.exp] := E2
                  have e3 : v 3 = dyA Y yo yc := (hS.d 3 rfl (by decide) (ready_dep hi 3 (by kernel_rfl))).trans V3
                  refine wpOp_of (fun K hK => ?_)
                  unfold wpOp
                  simp only [e2, e3]
                  go_simp
                  refine Or.inl ?_
                  refine (cp _ _ _ _ _ R2 (HY.below m).row (tabW_below Td m)).mono ?_
                  rintro e w1 ⟨an, nc, rfl, rn, fn, bn⟩
                  exact hK _ _ ⟨put9 v 4 (dyU Q an nc true), g, (by simp [put9, dyU, e2, e3]), hS.stepD hL hi rfl (by decide) (by decide) bn rn (fun on b off ea h0 => by have k1 : w'.heap.size ≤ b := fn _ ea; have k2 := (hS.p on).2.2; omega)⟩
                · obtain ⟨a4, c4, E4, R4, N4⟩ := hS.r 4 Q true rfl (ready_dep hi 4 (by kernel_rfl))
                  have e4 : v 4 = .tuple #[.agg #[.bool Q.neg, .slice a4 Q.mag.length c4, .int .i64 Q.exp], .int .i64 0] := E4
                  refine wpOp_of (fun K hK => ?_)
                  unfold wpOp
                  simp only [e4]
                  go_simp
                  refine Or.inl ?_
                  exact hK _ _ ⟨put9 v 5 (dyU Q a4 c4 true), g, (by simp [put9, dyU, e4]), hS.stepD hL hi rfl (by decide) (by decide) (Below.refl _ _) R4 N4⟩
                · obtain ⟨a5, c5, E5, R5, N5⟩ := hS.r 5 Q true rfl (ready_dep hi 5 (by kernel_rfl))
                  have e5 : v 5 = .tuple #[.agg #[.bool Q.neg, .slice a5 Q.mag.length c5, .int .i64 Q.exp], .int .i64 0] := E5
                  refine wpOp_of (fun K hK => ?_)
                  unfold wpOp
                  simp only [e5]
                  go_simp
                  refine Or.inl ?_
                  exact hK _ _ ⟨put9 v 6 (dyU Q a5 c5 false), g, (by simp [put9, dyU, e5]), hS.stepD hL hi rfl (by decide) (by decide) (Below.refl _ _) R5 N5⟩
                · obtain ⟨a5, c5, E5, R5, N5⟩ := hS.r 5 Q true rfl (ready_dep hi 5 (by kernel_rfl))
                  have e5 : v 5 = .tuple #[.agg #[.bool Q.neg, .slice a5 Q.mag.length c5, .int .i64 Q.exp], .int .i64 0] := E5
                  refine wpOp_of (fun K hK => ?_)
                  unfold wpOp
                  simp only [e5]
                  go_simp
                  refine Or.inl ?_
                  exact hK _ _ ⟨put9 v 7 (.int .i64 0), g, (by simp [put9, e5]), hS.step hL hi rfl (by decide) (by decide) V7.symm⟩
                · refine wpOp_of (fun K hK => ?_)
                  unfold wpOp
                  go_simp
                  refine Or.inl ?_
                  exact hK _ _ ⟨put9 v 8 (.pointer (some ⟨w'.heap.size, 0, none⟩)), _, (by simp [put9]), hS.make hL hi hno rfl (by decide) (by kernel_rfl)⟩
                · obtain ⟨a6, c6, E6, R6, N6⟩ := hS.r 6 Q false rfl (ready_dep hi 6 (by kernel_rfl))
                  have e6 : v 6 = .agg #[.bool Q.neg, .slice a6 Q.mag.length c6, .int .i64 Q.exp] := E6
                  have e8 := (hS.p (ready_dep hi 8 (by kernel_rfl))).1
                  obtain ⟨hz, f0, f1, f2⟩ := hS.n (ready_dep hi 8 (by kernel_rfl)) hno
                  have q0 := hz.c0
                  have q1 := hz.c1
                  have q2 := hz.c2
                  refine wpOp_of (fun K hK => ?_)
                  unfold wpOp
                  simp only [e6, e8]
                  go_simp
                  refine Or.inl ?_
                  exact hK _ _ ⟨put9 v 9 undef, g, (by simp [put9, e6, e8]), hS.store (cap := c6) hL hi hno rfl (by decide) (by kernel_rfl) R6 (N6 (ready_dep hi 8 (by kernel_rfl))) V9.symm⟩
                · have e7 : v 7 = .int .i64 0 := (hS.d 7 rfl (by decide) (ready_dep hi 7 (by kernel_rfl))).trans V7
                  refine wpOp_of (fun K hK => ?_)
                  unfold wpOp
                  simp only [e7]
                  go_simp
                  refine Or.inl ?_
                  exact hK _ _ ⟨put9 v 10 (.int .i64 0), g, (by simp [put9, e7]), hS.step hL hi rfl (by decide) (by decide) V10.symm⟩
              · intro L v g w' hL hS hr3
                have on := all_done hL hr3 (by kernel_rfl)
                have m := hS.m
                obtain ⟨pa, pc, HP⟩ := hS.y (on 9 (by decide))
                have eP := (hS.p (on 8 (by decide))).1
                obtain ⟨a2, c2, E2, _⟩ := hS.r 2 E false rfl (on 2 (by decide))
                obtain ⟨a4, c4, E4, _⟩ := hS.r 4 Q true rfl (on 4 (by decide))
                obtain ⟨a5, c5, E5, _⟩ := hS.r 5 Q true rfl (on 5 (by decide))
                obtain ⟨a6, c6, E6, _⟩ := hS.r 6 Q false rfl (on 6 (by decide))
                try dsimp only
                rw [hS.d 0 rfl (by decide) (on 0 (by decide)), V0]
                rw [hS.d 1 rfl (by decide) (on 1 (by decide)), V1]
                rw [hS.d 3 rfl (by decide) (on 3 (by decide)), V3]
                rw [hS.d 7 rfl (by decide) (on 7 (by decide)), V7]
                rw [hS.d 10 rfl (by decide) (on 10 (by decide)), V10]
                rw [eP, E2, E4, E5, E6]
                clear hS on hr3 eP E2 E4 E5 E6 hVAL V0 V1 V3 V7 V10 V9
                replace KB := KB.below m
                replace KS := KS.below m
                replace HX := HX.below m
                have kb0 := KB.1
                have kb1 := KB.2.1
                have x0 := HX.c0
                have x1 := HX.c1
                have x2 := HX.c2
                have q0 := HP.c0
                have q1 := HP.c1
                have q2 := HP.c2
                replace Zd := Zd.trans (m.mono Zd.size)
                go_wp2_with (go_at_call 38; refine (lc _ _ _ _ _ HP.row HX.row).mono ?_; rintro e w7 ⟨rfl, b7⟩)
                go_ret
                exact ⟨rfl, Zd.trans (b7.mono Zd.size)⟩
end Go.Proofs.YtpnbhgnejcpchaaGreatDoor

namespace Go.Proofs.YtpnbhgnejcpchaaGreatDoor
open Go.RowKit

set_option maxRecDepth 100000 in
set_option maxHeartbeats 2000000 in
theorem root_less (a0 a1 : Nat) (X : Dy) (xo : Option Addr) (xc : Nat) (hD : ∀ w, TabW w → Calls Tryz.prog 39 #[spV a0 a1] w fun e w' => e = .returned (.tuple #[spV 0 0, .int .i64 2]) ∧ Below w.heap.size w w') (g0 : (FloatKind.f64.format.order a0 0 == some .lt) = true) (w : World) (hT : TabW w) :
    Calls Tryz.prog 19 #[spV a0 a1, dyA X xo xc] w fun e w' => e = .returned (.bool true) ∧ Below w.heap.size w w' := by
  have hst := run_storef Tryz.prog
  have heq := sp0_eql
  go_enter Tryz.func19, Tryz.ntmps19
  go_wp2_with (go_at_call 39; refine (hD _ (tabW_alloc (tabW_alloc hT _) _)).mono ?_; rintro e w1 ⟨rfl, bq⟩; obtain ⟨c0, c1, _⟩ := ((Bx.new _ _ _ _).alloc _).below bq; have Z := old2 bq)
  go_ret
  exact ⟨rfl, Z.alloc Z.size _⟩
set_option maxRecDepth 100000 in
set_option maxHeartbeats 8000000 in
theorem root_walk (a0 a1 s0 s1 : Nat) (X : Dy) (xo : Option Addr) (xc : Nat) (vx : Int) (hs0 : s0 < 18446744073709551616) (hs1 : s1 < 18446744073709551616) (FX : Fd X (vx * 2 ^ twP))
    (hD : ∀ w, TabW w → Calls Tryz.prog 39 #[spV a0 a1] w fun e w' => e = .returned (.tuple #[spV s0 s1, .int .i64 0]) ∧ Below w.heap.size w w')
    (hR : ∀ w, Calls Tryz.prog 5 #[spV s0 s1] w fun e w' => e = .returned (.bool true) ∧ Below w.heap.size w w')
    (g0 : (FloatKind.f64.format.order a0 0 == some .lt) = false) (g1 : (FloatKind.f64.format.order s0 0 == some .lt) = false) (f0 : finB s0 = true)
    (p0 : ∃ P, (∀ D, Fd D (vI s0 * 2 ^ twP) → mulD D D = (P, 0)) ∧ Fd P (vI s0 * vI s0) ∧ vI s0 * vI s0 ≤ vx * 2 ^ twP)
    (p1 : finB s1 = true → ∃ P, (∀ D, Fd D (vI s1 * 2 ^ twP) → mulD D D = (P, 0)) ∧ Fd P (vI s1 * vI s1) ∧ vx * 2 ^ twP ≤ vI s1 * vI s1)
    (w : World) (hT : TabW w) (rx : LRow w xo X.mag) :
    Calls Tryz.prog 19 #[spV a0 a1, dyA X xo xc] w fun e w' => e = .returned (.bool true) ∧ Below w.heap.size w w' := by
  have hst := run_storef Tryz.prog
  obtain ⟨E, eE, FE⟩ := fd_of f0
  obtain ⟨P, hP, FP, lP⟩ := p0
  have cn := fun w h => number_any s0 E hs0 eE w h
  have cp := fun ao bo cap bcap w h1 h2 h3 => mul_any E E ao bo cap bcap w h1 h2 FE.2.1 FE.2.1 h3
  rw [hP E FE] at cp
  have lc := fun ao bo cap bcap w h1 h2 => least_C FP FX ao bo cap bcap w h1 h2
  rw [decide_eq_true lP] at lc
  clear hP eE lP
  go_enter Tryz.func19, Tryz.ntmps19
  go_upto_region 2 with (go_at_call 39; refine (hD _ (tabW_alloc (tabW_alloc hT _) _)).mono ?_; rintro e w1 ⟨rfl, bq⟩)
  have KA := ((Bx.new w (.float .f64 a0) (.float .f64 a1) 24).alloc (.cells #[.bool X.neg, .slice xo X.mag.length xc, .int .i64 X.exp] 35)).below bq
  have sz2 : (w.alloc (.cells #[.float .f64 a0, .float .f64 a1] 24)).heap.size = w.heap.size + 1 := by simp
  have HX := (Hd.new (d := X) (cap := xc) (rx.alloc (.cells #[.float .f64 a0, .float .f64 a1] 24))).below bq
  rw [sz2] at HX
  have Z := old2 bq
  have KS := Bx.new w1 (.float .f64 s0) (.float .f64 s1) 24
  replace KA := KA.alloc (.cells #[.float .f64 s0, .float .f64 s1] 24)
  replace HX := HX.below ((Below.refl _ _).alloc (Nat.le_refl _) (.cells #[.float .f64 s0, .float .f64 s1] 24))
  replace Z := Z.alloc Z.size (.cells #[.float .f64 s0, .float .f64 s1] 24)
  clear bq sz2
  generalize w1.alloc (.cells #[.float .f64 s0, .float .f64 s1] 24) = W at *
  generalize w1.heap.size = gs at *
  clear w1 rx
  obtain ⟨n1, hn1⟩ : ∃ n, w.heap.size + 1 = n := ⟨_, rfl⟩
  rw [hn1] at HX ⊢
  clear hn1
  have TW := tabW_below hT Z
  have ka0 := KA.1
  have ka1 := KA.2.1
  have ks0 := KS.1
  have ks1 := KS.2.1
  go_upto_region 6 with (go_at_call 5; refine (hR _).mono ?_; rintro e Wk ⟨rfl, b2⟩; have ks0 := (KS.below b2).1; have ks1 := (KS.below b2).2.1)
  replace KS := KS.below b2
  replace HX := HX.below b2
  have Z2 := Z.trans (b2.mono Z.size)
  have Td := tabW_below TW b2
  clear ka0 ka1 ks0 ks1 b2 Z TW hD hR KA
  obtain ⟨VAL, hVAL⟩ : ∃ V : Nat → Value, V = (fun j => match j with | 0 => .pointer (some ⟨gs, 0, none⟩) | 1 => .float .f64 s0 | 3 => .pointer (some ⟨gs, 0, none⟩) | 4 => .float .f64 s0 | 9 => .int .i64 0 | 12 => .int .i64 0 | _ => undef) := ⟨_, rfl⟩
  have V0 : VAL 0 = .pointer (some ⟨gs, 0, none⟩) := congrFun hVAL 0
  have V1 : VAL 1 = .float .f64 s0 := congrFun hVAL 1
  have V3 : VAL 3 = .pointer (some ⟨gs, 0, none⟩) := congrFun hVAL 3
  have V4 : VAL 4 = .float .f64 s0 := congrFun hVAL 4
  have V9 : VAL 9 = .int .i64 0 := congrFun hVAL 9
  have V12 : VAL 12 = .int .i64 0 := congrFun hVAL 12
  have V11 : VAL 11 = undef := congrFun hVAL 11
  refine region_rgD (by kernel_rfl) (fun v => ⟨#[spV a0 a1, dyA X xo xc, .pointer (some ⟨w.heap.size, 0, none⟩), .pointer (some ⟨n1, 0, none⟩), .bool false, .pointer (some ⟨gs, 0, none⟩), .int .i64 0, v 10, v 12, undef, undef, .tuple #[spV s0 s1, .int .i64 0], .agg #[.float .f64 a0, .float .f64 a1], .tuple #[spV s0 s1, .int .i64 0], spV s0 s1, .int .i64 0, .pointer (some ⟨w.heap.size, 0, none⟩), .float .f64 a0, .bool false, undef, undef, undef, undef, undef, undef, undef, .int .i64 0, .bool false, .bool false, .agg #[.float .f64 s0, .float .f64 s1], .bool true, .bool false, .bool false, .bool false, .pointer (some ⟨gs, 0, none⟩), .float .f64 s0, .bool false, .bool false, v 7, v 0, v 1, v 2, v 3, v 4, v 5, v 6, v 8, v 9, undef, undef, undef, undef, undef, undef, undef, undef, undef, undef, undef, undef, undef, undef, undef, undef, undef, undef, undef, undef, undef, undef, undef, undef, undef], []⟩) 10 11 P (fun j => match j with | 2 => some (E, false) | 5 => some (E, false) | 6 => some (P, true) | 7 => some (P, true) | 8 => some (P, false) | _ => none) VAL (fun j => match j with | 0 => undef | 1 => undef | 2 => undef | 3 => undef | 4 => undef | 5 => undef | 6 => undef | 7 => undef | 8 => undef | 9 => undef | 10 => undef | 12 => undef | _ => undef) rfl ?_ ?_
  · intro L v g w' i hL hS hi
    obtain ⟨h1, h2, h3⟩ := mem_ready hi
    have h1 : i < 13 := h1
    try dsimp only
    have hno := off_not (by rw [hL]; exact h1) h2
    have m := hS.m
    have hcs : i = 0 ∨ i = 1 ∨ i = 2 ∨ i = 3 ∨ i = 4 ∨ i = 5 ∨ i = 6 ∨ i = 7 ∨ i = 8 ∨ i = 9 ∨ i = 10 ∨ i = 11 ∨ i = 12 := by omega
    rcases hcs with rfl | rfl | rfl | rfl | rfl | rfl | rfl | rfl | rfl | rfl | rfl | rfl | rfl
    · refine wpOp_of (fun K hK => ?_)
      unfold wpOp
      go_simp
      refine Or.inl ?_
      exact hK _ _ ⟨put9 v 0 (.pointer (some ⟨gs, 0, none⟩)), g, (by simp [put9]), hS.step hL hi rfl (by decide) (by decide) V0.symm⟩
    · have e0 : v 0 = .pointer (some ⟨gs, 0, none⟩) := (hS.d 0 rfl (by decide) (ready_dep hi 0 (by kernel_rfl))).trans V0
      have q0 := (KS.below m).1
      refine wpOp_of (fun K hK => ?_)
      unfold wpOp
      simp only [e0]
      go_simp
      refine Or.inl ?_
      exact hK _ _ ⟨put9 v 1 (.float .f64 s0), g, (by simp [put9, e0]), hS.step hL hi rfl (by decide) (by decide) V1.symm⟩
    · have e1 : v 1 = .float .f64 s0 := (hS.d 1 rfl (by decide) (ready_dep hi 1 (by kernel_rfl))).trans V1
      refine wpOp_of (fun K hK => ?_)
      unfold wpOp
      simp only [e1]
      go_simp
      refine Or.inl ?_
      refine (cn _ (tabW_below Td m)).mono ?_
      rintro e w1 ⟨an, nc, rfl, rn, fn, bn⟩
      exact hK _ _ ⟨put9 v 2 (dyU E an nc false), g, (by simp [put9, dyU, e1]), hS.stepD hL hi rfl (by decide) (by decide) bn rn (fun on b off ea h0 => by have k1 : w'.heap.size ≤ b := fn _ ea; have k2 := (hS.p on).2.2; omega)⟩
    · refine wpOp_of (fun K hK => ?_)
      unfold wpOp
      go_simp
      refine Or.inl ?_
      exact hK _ _ ⟨put9 v 3 (.pointer (some ⟨gs, 0, none⟩)), g, (by simp [put9]), hS.step hL hi rfl (by decide) (by decide) V3.symm⟩
    · have e3 : v 3 = .pointer (some ⟨gs, 0, none⟩) := (hS.d 3 rfl (by decide) (ready_dep hi 3 (by kernel_rfl))).trans V3
      have q0 := (KS.below m).1
      refine wpOp_of (fun K hK => ?_)
      unfold wpOp
      simp only [e3]
      go_simp
      refine Or.inl ?_
      exact hK _ _ ⟨put9 v 4 (.float .f64 s0), g, (by simp [put9, e3]), hS.step hL hi rfl (by decide) (by decide) V4.symm⟩
    · have e4 : v 4 = .float .f64 s0 := (hS.d 4 rfl (by decide) (ready_dep hi 4 (by kernel_rfl))).trans V4
      refine wpOp_of (fun K hK => ?_)
      unfold wpOp
      simp only [e4]
      go_simp
      refine Or.inl ?_
      refine (cn _ (tabW_below Td m)).mono ?_
      rintro e w1 ⟨an, nc, rfl, rn, fn, bn⟩
      exact hK _ _ ⟨put9 v 5 (dyU E an nc false), g, (by simp [put9, dyU, e4]), hS.stepD hL hi rfl (by decide) (by decide) bn rn (fun on b off ea h0 => by have k1 : w'.heap.size ≤ b := fn _ ea; have k2 := (hS.p on).2.2; omega)⟩
    · obtain ⟨a2, c2, E2, R2, N2⟩ := hS.r 2 E false rfl (ready_dep hi 2 (by kernel_rfl))
      have e2 : v 2 = .agg #[.bool E.neg, .slice a2 E.mag.length c2, .int .i64 E.exp] := E2
      obtain ⟨a5, c5, E5, R5, N5⟩ := hS.r 5 E false rfl (ready_dep hi 5 (by kernel_rfl))
      have e5 : v 5 = .agg #[.bool E.neg, .slice a5 E.mag.length c5, .int .i64 E.exp] := E5
      refine wpOp_of (fun K hK => ?_)
      unfold wpOp
      simp only [e2, e5]
      go_simp
      refine Or.inl ?_
      refine (cp _ _ _ _ _ R2 R5 (tabW_below Td m)).mono ?_
      rintro e w1 ⟨an, nc, rfl, rn, fn, bn⟩
      exact hK _ _ ⟨put9 v 6 (dyU P an nc true), g, (by simp [put9, dyU, e2, e5]), hS.stepD hL hi rfl (by decide) (by decide) bn rn (fun on b off ea h0 => by have k1 : w'.heap.size ≤ b := fn _ ea; have k2 := (hS.p on).2.2; omega)⟩
    · obtain ⟨a6, c6, E6, R6, N6⟩ := hS.r 6 P true rfl (ready_dep hi 6 (by kernel_rfl))
      have e6 : v 6 = .tuple #[.agg #[.bool P.neg, .slice a6 P.mag.length c6, .int .i64 P.exp], .int .i64 0] := E6
      refine wpOp_of (fun K hK => ?_)
      unfold wpOp
      simp only [e6]
      go_simp
      refine Or.inl ?_
      exact hK _ _ ⟨put9 v 7 (dyU P a6 c6 true), g, (by simp [put9, dyU, e6]), hS.stepD hL hi rfl (by decide) (by decide) (Below.refl _ _) R6 N6⟩
    · obtain ⟨a7, c7, E7, R7, N7⟩ := hS.r 7 P true rfl (ready_dep hi 7 (by kernel_rfl))
      have e7 : v 7 = .tuple #[.agg #[.bool P.neg, .slice a7 P.mag.length c7, .int .i64 P.exp], .int .i64 0] := E7
      refine wpOp_of (fun K hK => ?_)
      unfold wpOp
      simp only [e7]
      go_simp
      refine Or.inl ?_
      exact hK _ _ ⟨put9 v 8 (dyU P a7 c7 false), g, (by simp [put9, dyU, e7]), hS.stepD hL hi rfl (by decide) (by decide) (Below.refl _ _) R7 N7⟩
    · obtain ⟨a7, c7, E7, R7, N7⟩ := hS.r 7 P true rfl (ready_dep hi 7 (by kernel_rfl))
      have e7 : v 7 = .tuple #[.agg #[.bool P.neg, .slice a7 P.mag.length c7, .int .i64 P.exp], .int .i64 0] := E7
      refine wpOp_of (fun K hK => ?_)
      unfold wpOp
      simp only [e7]
      go_simp
      refine Or.inl ?_
      exact hK _ _ ⟨put9 v 9 (.int .i64 0), g, (by simp [put9, e7]), hS.step hL hi rfl (by decide) (by decide) V9.symm⟩
    · refine wpOp_of (fun K hK => ?_)
      unfold wpOp
      go_simp
      refine Or.inl ?_
      exact hK _ _ ⟨put9 v 10 (.pointer (some ⟨w'.heap.size, 0, none⟩)), _, (by simp [put9]), hS.make hL hi hno rfl (by decide) (by kernel_rfl)⟩
    · obtain ⟨a8, c8, E8, R8, N8⟩ := hS.r 8 P false rfl (ready_dep hi 8 (by kernel_rfl))
      have e8 : v 8 = .agg #[.bool P.neg, .slice a8 P.mag.length c8, .int .i64 P.exp] := E8
      have e10 := (hS.p (ready_dep hi 10 (by kernel_rfl))).1
      obtain ⟨hz, f0, f1, f2⟩ := hS.n (ready_dep hi 10 (by kernel_rfl)) hno
      have q0 := hz.c0
      have q1 := hz.c1
      have q2 := hz.c2
      refine wpOp_of (fun K hK => ?_)
      unfold wpOp
      simp only [e8, e10]
      go_simp
      refine Or.inl ?_
      exact hK _ _ ⟨put9 v 11 undef, g, (by simp [put9, e8, e10]), hS.store (cap := c8) hL hi hno rfl (by decide) (by kernel_rfl) R8 (N8 (ready_dep hi 10 (by kernel_rfl))) V11.symm⟩
    · have e9 : v 9 = .int .i64 0 := (hS.d 9 rfl (by decide) (ready_dep hi 9 (by kernel_rfl))).trans V9
      refine wpOp_of (fun K hK => ?_)
      unfold wpOp
      simp only [e9]
      go_simp
      refine Or.inl ?_
      exact hK _ _ ⟨put9 v 12 (.int .i64 0), g, (by simp [put9, e9]), hS.step hL hi rfl (by decide) (by decide) V12.symm⟩
  · intro L v g w' hL hS hr3
    have on := all_done hL hr3 (by kernel_rfl)
    have m := hS.m
    obtain ⟨pa, pc, HP⟩ := hS.y (on 11 (by decide))
    have eP := (hS.p (on 10 (by decide))).1
    obtain ⟨a2, c2, E2, _⟩ := hS.r 2 E false rfl (on 2 (by decide))
    obtain ⟨a5, c5, E5, _⟩ := hS.r 5 E false rfl (on 5 (by decide))
    obtain ⟨a6, c6, E6, _⟩ := hS.r 6 P true rfl (on 6 (by decide))
    obtain ⟨a7, c7, E7, _⟩ := hS.r 7 P true rfl (on 7 (by decide))
    obtain ⟨a8, c8, E8, _⟩ := hS.r 8 P false rfl (on 8 (by decide))
    try dsimp only
    rw [hS.d 0 rfl (by decide) (on 0 (by decide)), V0]
    rw [hS.d 1 rfl (by decide) (on 1 (by decide)), V1]
    rw [hS.d 3 rfl (by decide) (on 3 (by decide)), V3]
    rw [hS.d 4 rfl (by decide) (on 4 (by decide)), V4]
    rw [hS.d 9 rfl (by decide) (on 9 (by decide)), V9]
    rw [hS.d 12 rfl (by decide) (on 12 (by decide)), V12]
    rw [eP, E2, E5, E6, E7, E8]
    clear hS on hr3 eP E2 E5 E6 E7 E8 hVAL V0 V1 V3 V4 V9 V12 V11
    generalize dyU E a2 c2 false = za2
    generalize dyU E a5 c5 false = za5
    generalize dyU P a6 c6 true = za6
    generalize dyU P a7 c7 true = za7
    generalize dyU P a8 c8 false = za8
    replace KS := KS.below m
    replace HX := HX.below m
    have Zd := Z2.trans (m.mono Z2.size)
    replace Td := tabW_below Td m
    clear m
    have ks0 := KS.1
    have ks1 := KS.2.1
    have x0 := HX.c0
    have x1 := HX.c1
    have x2 := HX.c2
    have q0 := HP.c0
    have q1 := HP.c1
    have q2 := HP.c2
    generalize w' = wd at *
    generalize g = gp at *
    cases f1 : finB s1
    · have cf := fun w => fin_no s1 hs1 f1 w
      have HX2 := HX.below (Below.refl _ _).drew
      have HP2 := HP.below (Below.refl _ _).drew
      go_wp2_with (first | (go_at_call 24; refine (cf _).mono ?_; rintro e w' ⟨rfl, hww⟩; subst hww) | (go_at_call 38; refine (lc _ _ _ _ _ HP2.row HX2.row).mono ?_; rintro e w7 ⟨rfl, bw7⟩))
      go_ret
      exact ⟨rfl, Zd.drew.trans (bw7.mono Zd.drew.size)⟩
    · have cf := fun w => fin_yes s1 hs1 f1 w
      obtain ⟨E, eE, FE⟩ := fd_of f1
      obtain ⟨Q, hQ, FQ, lQ⟩ := p1 f1
      clear cn cp
      have cn := fun w h => number_any s1 E hs1 eE w h
      have cp := fun ao bo cap bcap w h1 h2 h3 => mul_any E E ao bo cap bcap w h1 h2 FE.2.1 FE.2.1 h3
      rw [hQ E FE] at cp
      have lc2 := fun ao bo cap bcap w h1 h2 => least_C FX FQ ao bo cap bcap w h1 h2
      rw [decide_eq_true lQ] at lc2
      clear hQ eE lQ
      go_upto_region 9 with (go_at_call 24; refine (cf _).mono ?_; rintro e w' ⟨rfl, hww⟩; subst hww)
      clear ks0 ks1 x0 x1 x2 q0 q1 q2
      have HP1 := HP
      clear HP
      obtain ⟨VAL, hVAL⟩ : ∃ V : Nat → Value, V = (fun j => match j with | 0 => .pointer (some ⟨gs, 1, none⟩) | 1 => .float .f64 s1 | 3 => .pointer (some ⟨gs, 1, none⟩) | 4 => .float .f64 s1 | 9 => .int .i64 0 | 12 => .int .i64 0 | _ => undef) := ⟨_, rfl⟩
      have V0 : VAL 0 = .pointer (some ⟨gs, 1, none⟩) := congrFun hVAL 0
      have V1 : VAL 1 = .float .f64 s1 := congrFun hVAL 1
      have V3 : VAL 3 = .pointer (some ⟨gs, 1, none⟩) := congrFun hVAL 3
      have V4 : VAL 4 = .float .f64 s1 := congrFun hVAL 4
      have V9 : VAL 9 = .int .i64 0 := congrFun hVAL 9
      have V12 : VAL 12 = .int .i64 0 := congrFun hVAL 12
      have V11 : VAL 11 = undef := congrFun hVAL 11
      refine region_rgD (by kernel_rfl) (fun v => ⟨#[spV a0 a1, dyA X xo xc, .pointer (some ⟨w.heap.size, 0, none⟩), .pointer (some ⟨n1, 0, none⟩), .bool false, .pointer (some ⟨gs, 0, none⟩), .int .i64 0, .pointer (some ⟨gp, 0, none⟩), .int .i64 0, v 10, v 12, .tuple #[spV s0 s1, .int .i64 0], .agg #[.float .f64 a0, .float .f64 a1], .tuple #[spV s0 s1, .int .i64 0], spV s0 s1, .int .i64 0, .pointer (some ⟨w.heap.size, 0, none⟩), .float .f64 a0, .bool false, undef, undef, undef, undef, undef, undef, undef, .int .i64 0, .bool false, .bool false, .agg #[.float .f64 s0, .float .f64 s1], .bool true, .bool false, .bool false, .bool false, .pointer (some ⟨gs, 0, none⟩), .float .f64 s0, .bool false, .bool false, za7, .pointer (some ⟨gs, 0, none⟩), .float .f64 s0, za2, .pointer (some ⟨gs, 0, none⟩), .float .f64 s0, za5, za6, za8, .int .i64 0, .pointer (some ⟨gs, 1, none⟩), .float .f64 s1, .bool true, .bool false, undef, undef, undef, v 7, v 0, v 1, v 2, v 3, v 4, v 5, v 6, v 8, v 9, undef, undef, undef, undef, undef, undef, undef, undef], []⟩) 10 11 Q (fun j => match j with | 2 => some (E, false) | 5 => some (E, false) | 6 => some (Q, true) | 7 => some (Q, true) | 8 => some (Q, false) | _ => none) VAL (fun j => match j with | 0 => undef | 1 => undef | 2 => undef | 3 => undef | 4 => undef | 5 => undef | 6 => undef | 7 => undef | 8 => undef | 9 => undef | 10 => undef | 12 => undef | _ => undef) rfl ?_ ?_
      · intro L v g w' i hL hS hi
        obtain ⟨h1, h2, h3⟩ := mem_ready hi
        have h1 : i < 13 := h1
        try dsimp only
        have hno := off_not (by rw [hL]; exact h1) h2
        have m := hS.m
        have hcs : i = 0 ∨ i = 1 ∨ i = 2 ∨ i = 3 ∨ i = 4 ∨ i = 5 ∨ i = 6 ∨ i = 7 ∨ i = 8 ∨ i = 9 ∨ i = 10 ∨ i = 11 ∨ i = 12 := by omega
        rcases hcs with rfl | rfl | rfl | rfl | rfl | rfl | rfl | rfl | rfl | rfl | rfl | rfl | rfl
        · refine wpOp_of (fun K hK => ?_)
          unfold wpOp
          go_simp
          refine Or.inl ?_
          exact hK _ _ ⟨put9 v 0 (.pointer (some ⟨gs, 1, none⟩)), g, (by simp [put9]), hS.step hL hi rfl (by decide) (by decide) V0.symm⟩
        · have e0 : v 0 = .pointer (some ⟨gs, 1, none⟩) := (hS.d 0 rfl (by decide) (ready_dep hi 0 (by kernel_rfl))).trans V0
          have q0 := (KS.below m).2.1
          refine wpOp_of (fun K hK => ?_)
          unfold wpOp
          simp only [e0]
          go_simp
          refine Or.inl ?_
          exact hK _ _ ⟨put9 v 1 (.float .f64 s1), g, (by simp [put9, e0]), hS.step hL hi rfl (by decide) (by decide) V1.symm⟩
        · have e1 : v 1 = .float .f64 s1 := (hS.d 1 rfl (by decide) (ready_dep hi 1 (by kernel_rfl))).trans V1
          refine wpOp_of (fun K hK => ?_)
          unfold wpOp
          simp only [e1]
          go_simp
          refine Or.inl ?_
          refine (cn _ (tabW_below Td m)).mono ?_
          rintro e w1 ⟨an, nc, rfl, rn, fn, bn⟩
          exact hK _ _ ⟨put9 v 2 (dyU E an nc false), g, (by simp [put9, dyU, e1]), hS.stepD hL hi rfl (by decide) (by decide) bn rn (fun on b off ea h0 => by have k1 : w'.heap.size ≤ b := fn _ ea; have k2 := (hS.p on).2.2; omega)⟩
        · refine wpOp_of (fun K hK => ?_)
          unfold wpOp
          go_simp
          refine Or.inl ?_
          exact hK _ _ ⟨put9 v 3 (.pointer (some ⟨gs, 1, none⟩)), g, (by simp [put9]), hS.step hL hi rfl (by decide) (by decide) V3.symm⟩
        · have e3 : v 3 = .pointer (some ⟨gs, 1, none⟩) := (hS.d 3 rfl (by decide) (ready_dep hi 3 (by kernel_rfl))).trans V3
          have q0 := (KS.below m).2.1
          refine wpOp_of (fun K hK => ?_)
          unfold wpOp
          simp only [e3]
          go_simp
          refine Or.inl ?_
          exact hK _ _ ⟨put9 v 4 (.float .f64 s1), g, (by simp [put9, e3]), hS.step hL hi rfl (by decide) (by decide) V4.symm⟩
        · have e4 : v 4 = .float .f64 s1 := (hS.d 4 rfl (by decide) (ready_dep hi 4 (by kernel_rfl))).trans V4
          refine wpOp_of (fun K hK => ?_)
          unfold wpOp
          simp only [e4]
          go_simp
          refine Or.inl ?_
          refine (cn _ (tabW_below Td m)).mono ?_
          rintro e w1 ⟨an, nc, rfl, rn, fn, bn⟩
          exact hK _ _ ⟨put9 v 5 (dyU E an nc false), g, (by simp [put9, dyU, e4]), hS.stepD hL hi rfl (by decide) (by decide) bn rn (fun on b off ea h0 => by have k1 : w'.heap.size ≤ b := fn _ ea; have k2 := (hS.p on).2.2; omega)⟩
        · obtain ⟨a2, c2, E2, R2, N2⟩ := hS.r 2 E false rfl (ready_dep hi 2 (by kernel_rfl))
          have e2 : v 2 = .agg #[.bool E.neg, .slice a2 E.mag.length c2, .int .i64 E.exp] := E2
          obtain ⟨a5, c5, E5, R5, N5⟩ := hS.r 5 E false rfl (ready_dep hi 5 (by kernel_rfl))
          have e5 : v 5 = .agg #[.bool E.neg, .slice a5 E.mag.length c5, .int .i64 E.exp] := E5
          refine wpOp_of (fun K hK => ?_)
          unfold wpOp
          simp only [e2, e5]
          go_simp
          refine Or.inl ?_
          refine (cp _ _ _ _ _ R2 R5 (tabW_below Td m)).mono ?_
          rintro e w1 ⟨an, nc, rfl, rn, fn, bn⟩
          exact hK _ _ ⟨put9 v 6 (dyU Q an nc true), g, (by simp [put9, dyU, e2, e5]), hS.stepD hL hi rfl (by decide) (by decide) bn rn (fun on b off ea h0 => by have k1 : w'.heap.size ≤ b := fn _ ea; have k2 := (hS.p on).2.2; omega)⟩
        · obtain ⟨a6, c6, E6, R6, N6⟩ := hS.r 6 Q true rfl (ready_dep hi 6 (by kernel_rfl))
          have e6 : v 6 = .tuple #[.agg #[.bool Q.neg, .slice a6 Q.mag.length c6, .int .i64 Q.exp], .int .i64 0] := E6
          refine wpOp_of (fun K hK => ?_)
          unfold wpOp
          simp only [e6]
          go_simp
          refine Or.inl ?_
          exact hK _ _ ⟨put9 v 7 (dyU Q a6 c6 true), g, (by simp [put9, dyU, e6]), hS.stepD hL hi rfl (by decide) (by decide) (Below.refl _ _) R6 N6⟩
        · obtain ⟨a7, c7, E7, R7, N7⟩ := hS.r 7 Q true rfl (ready_dep hi 7 (by kernel_rfl))
          have e7 : v 7 = .tuple #[.agg #[.bool Q.neg, .slice a7 Q.mag.length c7, .int .i64 Q.exp], .int .i64 0] := E7
          refine wpOp_of (fun K hK => ?_)
          unfold wpOp
          simp only [e7]
          go_simp
          refine Or.inl ?_
          exact hK _ _ ⟨put9 v 8 (dyU Q a7 c7 false), g, (by simp [put9, dyU, e7]), hS.stepD hL hi rfl (by decide) (by decide) (Below.refl _ _) R7 N7⟩
        · obtain ⟨a7, c7, E7, R7, N7⟩ := hS.r 7 Q true rfl (ready_dep hi 7 (by kernel_rfl))
          have e7 : v 7 = .tuple #[.agg #[.bool Q.neg, .slice a7 Q.mag.length c7, .int .i64 Q.exp], .int .i64 0] := E7
          refine wpOp_of (fun K hK => ?_)
          unfold wpOp
          simp only [e7]
          go_simp
          refine Or.inl ?_
          exact hK _ _ ⟨put9 v 9 (.int .i64 0), g, (by simp [put9, e7]), hS.step hL hi rfl (by decide) (by decide) V9.symm⟩
        · refine wpOp_of (fun K hK => ?_)
          unfold wpOp
          go_simp
          refine Or.inl ?_
          exact hK _ _ ⟨put9 v 10 (.pointer (some ⟨w'.heap.size, 0, none⟩)), _, (by simp [put9]), hS.make hL hi hno rfl (by decide) (by kernel_rfl)⟩
        · obtain ⟨a8, c8, E8, R8, N8⟩ := hS.r 8 Q false rfl (ready_dep hi 8 (by kernel_rfl))
          have e8 : v 8 = .agg #[.bool Q.neg, .slice a8 Q.mag.length c8, .int .i64 Q.exp] := E8
          have e10 := (hS.p (ready_dep hi 10 (by kernel_rfl))).1
          obtain ⟨hz, f0, f1, f2⟩ := hS.n (ready_dep hi 10 (by kernel_rfl)) hno
          have q0 := hz.c0
          have q1 := hz.c1
          have q2 := hz.c2
          refine wpOp_of (fun K hK => ?_)
          unfold wpOp
          simp only [e8, e10]
          go_simp
          refine Or.inl ?_
          exact hK _ _ ⟨put9 v 11 undef, g, (by simp [put9, e8, e10]), hS.store (cap := c8) hL hi hno rfl (by decide) (by kernel_rfl) R8 (N8 (ready_dep hi 10 (by kernel_rfl))) V11.symm⟩
        · have e9 : v 9 = .int .i64 0 := (hS.d 9 rfl (by decide) (ready_dep hi 9 (by kernel_rfl))).trans V9
          refine wpOp_of (fun K hK => ?_)
          unfold wpOp
          simp only [e9]
          go_simp
          refine Or.inl ?_
          exact hK _ _ ⟨put9 v 12 (.int .i64 0), g, (by simp [put9, e9]), hS.step hL hi rfl (by decide) (by decide) V12.symm⟩
      · intro L v g w' hL hS hr3
        have on := all_done hL hr3 (by kernel_rfl)
        have m := hS.m
        obtain ⟨pa, pc, HP⟩ := hS.y (on 11 (by decide))
        have eP := (hS.p (on 10 (by decide))).1
        obtain ⟨a2, c2, E2, _⟩ := hS.r 2 E false rfl (on 2 (by decide))
        obtain ⟨a5, c5, E5, _⟩ := hS.r 5 E false rfl (on 5 (by decide))
        obtain ⟨a6, c6, E6, _⟩ := hS.r 6 Q true rfl (on 6 (by decide))
        obtain ⟨a7, c7, E7, _⟩ := hS.r 7 Q true rfl (on 7 (by decide))
        obtain ⟨a8, c8, E8, _⟩ := hS.r 8 Q false rfl (on 8 (by decide))
        try dsimp only
        rw [hS.d 0 rfl (by decide) (on 0 (by decide)), V0]
        rw [hS.d 1 rfl (by decide) (on 1 (by decide)), V1]
        rw [hS.d 3 rfl (by decide) (on 3 (by decide)), V3]
        rw [hS.d 4 rfl (by decide) (on 4 (by decide)), V4]
        rw [hS.d 9 rfl (by decide) (on 9 (by decide)), V9]
        rw [hS.d 12 rfl (by decide) (on 12 (by decide)), V12]
        rw [eP, E2, E5, E6, E7, E8]
        clear hS on hr3 eP E2 E5 E6 E7 E8 hVAL V0 V1 V3 V4 V9 V12 V11
        generalize dyU E a2 c2 false = zb2
        generalize dyU E a5 c5 false = zb5
        generalize dyU Q a6 c6 true = zb6
        generalize dyU Q a7 c7 true = zb7
        generalize dyU Q a8 c8 false = zb8
        replace HX := HX.below m
        replace HP1 := HP1.below m
        replace Zd := Zd.trans (m.mono Zd.size)
        have x0 := HX.c0
        have x1 := HX.c1
        have x2 := HX.c2
        have q0 := HP1.c0
        have q1 := HP1.c1
        have q2 := HP1.c2
        have r0 := HP.c0
        have r1 := HP.c1
        have r2 := HP.c2
        go_wp2_with (first
          | (go_at_call_of 38 (Value.agg #[Value.bool Q.neg, Value.slice pa Q.mag.length pc, Value.int IntKind.i64 Q.exp]); refine (lc2 _ _ _ _ _ (HX.below bw7).row (HP.below bw7).row).mono ?_; rintro e w8 ⟨rfl, b8⟩)
          | (go_at_call 38; refine (lc _ _ _ _ _ HP1.row HX.row).mono ?_; rintro e w7 ⟨rfl, bw7⟩; have x0 := (HX.below bw7).c0; have x1 := (HX.below bw7).c1; have x2 := (HX.below bw7).c2; have r0 := (HP.below bw7).c0; have r1 := (HP.below bw7).c1; have r2 := (HP.below bw7).c2))
        go_ret
        exact ⟨rfl, Zd.trans ((bw7.trans (b8.mono bw7.size)).mono Zd.size)⟩
end Go.Proofs.YtpnbhgnejcpchaaGreatDoor

namespace Go.Proofs.YtpnbhgnejcpchaaGreatDoor
open Go.RowKit

/-- Two spans and two floats as a value. -/
abbrev twV (a0 a1 b0 b1 xx yy : Nat) : Value := .agg #[.float .f64 a0, .float .f64 a1, .float .f64 b0, .float .f64 b1, .float .f64 xx, .float .f64 yy]
set_option maxRecDepth 100000 in
set_option maxHeartbeats 8000000 in
theorem holds_not (a0 a1 b0 b1 xx yy : Nat) (s0 s1 : Nat) (ra rb : Bool) (cR1 : ∀ w, Calls Tryz.prog 5 #[spV a0 a1] w fun e w' => e = .returned (.bool ra) ∧ Below w.heap.size w w') (cR2 : ∀ w, Calls Tryz.prog 5 #[spV b0 b1] w fun e w' => e = .returned (.bool rb) ∧ Below w.heap.size w w') (hr : ra = false ∨ (ra = true ∧ rb = false)) (cA : ∀ w, TabW w → Calls Tryz.prog 6 #[spV a0 a1, spV b0 b1] w fun e w' => e = .returned (.tuple #[spV s0 s1, .int .i64 2]) ∧ Below w.heap.size w w') (w : World) (hT : TabW w) :
    Calls Tryz.prog 3 #[twV a0 a1 b0 b1 xx yy] w fun e w' => e = .returned (.bool true) ∧ Below w.heap.size w w' := by
  have hst := run_storef Tryz.prog
  go_enter Tryz.func3, Tryz.ntmps3
  go_upto_region 3 with (go_at_call 4; refine (sawake _).mono ?_; rintro e v9 ⟨rfl, bb⟩)
  have zc0 : v9.cell? ⟨w.heap.size, 0, none⟩ = some (.float .f64 a0) := ((oldc bb).1 w.heap.size 0 (by go_simp)).trans (by go_simp)
  have zc1 : v9.cell? ⟨w.heap.size, 1, none⟩ = some (.float .f64 a1) := ((oldc bb).1 w.heap.size 1 (by go_simp)).trans (by go_simp)
  have zc2 : v9.cell? ⟨w.heap.size, 2, none⟩ = some (.float .f64 b0) := ((oldc bb).1 w.heap.size 2 (by go_simp)).trans (by go_simp)
  have zc3 : v9.cell? ⟨w.heap.size, 3, none⟩ = some (.float .f64 b1) := ((oldc bb).1 w.heap.size 3 (by go_simp)).trans (by go_simp)
  have zc4 : v9.cell? ⟨w.heap.size, 4, none⟩ = some (.float .f64 xx) := ((oldc bb).1 w.heap.size 4 (by go_simp)).trans (by go_simp)
  have zc5 : v9.cell? ⟨w.heap.size, 5, none⟩ = some (.float .f64 yy) := ((oldc bb).1 w.heap.size 5 (by go_simp)).trans (by go_simp)
  have Z := old1 bb
  clear bb
  obtain ⟨VAL, hVAL⟩ : ∃ V : Nat → Value, V = (fun j => match j with | 0 => .pointer (some ⟨w.heap.size, 0, none⟩) | 1 => .agg #[.float .f64 a0, .float .f64 a1] | 2 => .pointer (some ⟨w.heap.size, 2, none⟩) | 3 => .agg #[.float .f64 b0, .float .f64 b1] | 4 => .pointer (some ⟨w.heap.size, 4, none⟩) | 5 => .float .f64 xx | 6 => .pointer (some ⟨w.heap.size, 5, none⟩) | 7 => .float .f64 yy | 12 => .float .f64 xx | 13 => .float .f64 yy | _ => undef) := ⟨_, rfl⟩
  have V0 : VAL 0 = .pointer (some ⟨w.heap.size, 0, none⟩) := congrFun hVAL 0
  have V1 : VAL 1 = .agg #[.float .f64 a0, .float .f64 a1] := congrFun hVAL 1
  have V2 : VAL 2 = .pointer (some ⟨w.heap.size, 2, none⟩) := congrFun hVAL 2
  have V3 : VAL 3 = .agg #[.float .f64 b0, .float .f64 b1] := congrFun hVAL 3
  have V4 : VAL 4 = .pointer (some ⟨w.heap.size, 4, none⟩) := congrFun hVAL 4
  have V5 : VAL 5 = .float .f64 xx := congrFun hVAL 5
  have V6 : VAL 6 = .pointer (some ⟨w.heap.size, 5, none⟩) := congrFun hVAL 6
  have V7 : VAL 7 = .float .f64 yy := congrFun hVAL 7
  have V12 : VAL 12 = .float .f64 xx := congrFun hVAL 12
  have V13 : VAL 13 = .float .f64 yy := congrFun hVAL 13
  have V10 : VAL 10 = undef := congrFun hVAL 10
  have V11 : VAL 11 = undef := congrFun hVAL 11
  refine region_rgN (by kernel_rfl) (fun v => ⟨#[twV a0 a1 b0 b1 xx yy, .pointer (some ⟨w.heap.size, 0, none⟩), .bool false, v 8, v 9, v 12, v 13, undef, undef, undef, undef, undef, undef, undef, undef, undef, undef, undef, undef, undef, undef, undef, undef, undef, undef, undef, undef, undef, .bool true, .bool false, v 0, v 1, v 2, v 3, v 4, v 5, v 6, v 7, undef, undef, undef, undef, undef, undef, undef, undef, undef, undef, undef, undef, undef, undef, undef, undef, undef, undef, undef, undef, undef, undef, undef, undef, undef, undef, undef, undef, undef, undef, undef, undef, undef, undef, undef, undef, undef, undef, undef, undef, undef, undef, undef, undef, undef, undef, undef, undef, undef, undef, undef, undef, undef, undef, undef, undef, undef, undef, undef, undef, undef, undef, undef, undef, undef, undef, undef, undef, undef, undef, undef, undef, undef, undef, undef, undef, undef, undef, undef, undef, undef, undef, undef, undef, undef, undef, undef, undef, undef, undef, undef, undef, undef, undef, undef, undef, undef, undef, undef, undef, undef, undef, undef, undef, undef, undef, undef, undef, undef, undef, undef, undef, undef, undef, undef, undef, undef, undef, undef, undef, undef, undef, undef, undef, undef, undef, undef, undef, undef, undef, undef, undef, undef, undef, undef, undef, undef, undef, undef, undef, undef, undef, undef, undef, undef, undef, undef, undef, undef, undef, undef, undef, undef, undef, undef, undef, undef, undef, undef], []⟩) 2 8 10 (fun i => match i with | 0 => (.float .f64 a0, .float .f64 a1) | _ => (.float .f64 b0, .float .f64 b1)) VAL (fun _ => undef) rfl ?_ ?_
  · intro L v g w' i hL hS hi
    obtain ⟨h1, h2, h3⟩ := mem_ready hi
    have h1 : i < 14 := h1
    try dsimp only
    have hno := off_not (by rw [hL]; exact h1) h2
    have m := hS.m
    have hcs : i = 0 ∨ i = 1 ∨ i = 2 ∨ i = 3 ∨ i = 4 ∨ i = 5 ∨ i = 6 ∨ i = 7 ∨ i = 8 ∨ i = 9 ∨ i = 10 ∨ i = 11 ∨ i = 12 ∨ i = 13 := by omega
    rcases hcs with rfl | rfl | rfl | rfl | rfl | rfl | rfl | rfl | rfl | rfl | rfl | rfl | rfl | rfl
    · refine wpOp_of (fun K hK => ?_)
      unfold wpOp
      go_simp
      refine Or.inl ?_
      exact hK _ _ ⟨put9 v 0 (.pointer (some ⟨w.heap.size, 0, none⟩)), g, (by simp [put9]), hS.step hL hi (by decide) (by decide) (Below.refl _ _) V0.symm⟩
    · have e0 : v 0 = .pointer (some ⟨w.heap.size, 0, none⟩) := (hS.d 0 (by decide) (ready_dep hi 0 (by kernel_rfl))).trans V0
      have q0 := (m.cell (World.block_lt_of_cell? v9 _ zc0)).trans zc0
      have q1 := (m.cell (World.block_lt_of_cell? v9 _ zc1)).trans zc1
      refine wpOp_of (fun K hK => ?_)
      unfold wpOp
      simp only [e0]
      go_simp
      refine Or.inl ?_
      exact hK _ _ ⟨put9 v 1 (.agg #[.float .f64 a0, .float .f64 a1]), g, (by simp [put9, e0]), hS.step hL hi (by decide) (by decide) (Below.refl _ _) V1.symm⟩
    · refine wpOp_of (fun K hK => ?_)
      unfold wpOp
      go_simp
      refine Or.inl ?_
      exact hK _ _ ⟨put9 v 2 (.pointer (some ⟨w.heap.size, 2, none⟩)), g, (by simp [put9]), hS.step hL hi (by decide) (by decide) (Below.refl _ _) V2.symm⟩
    · have e2 : v 2 = .pointer (some ⟨w.heap.size, 2, none⟩) := (hS.d 2 (by decide) (ready_dep hi 2 (by kernel_rfl))).trans V2
      have q0 := (m.cell (World.block_lt_of_cell? v9 _ zc2)).trans zc2
      have q1 := (m.cell (World.block_lt_of_cell? v9 _ zc3)).trans zc3
      refine wpOp_of (fun K hK => ?_)
      unfold wpOp
      simp only [e2]
      go_simp
      refine Or.inl ?_
      exact hK _ _ ⟨put9 v 3 (.agg #[.float .f64 b0, .float .f64 b1]), g, (by simp [put9, e2]), hS.step hL hi (by decide) (by decide) (Below.refl _ _) V3.symm⟩
    · refine wpOp_of (fun K hK => ?_)
      unfold wpOp
      go_simp
      refine Or.inl ?_
      exact hK _ _ ⟨put9 v 4 (.pointer (some ⟨w.heap.size, 4, none⟩)), g, (by simp [put9]), hS.step hL hi (by decide) (by decide) (Below.refl _ _) V4.symm⟩
    · have e4 : v 4 = .pointer (some ⟨w.heap.size, 4, none⟩) := (hS.d 4 (by decide) (ready_dep hi 4 (by kernel_rfl))).trans V4
      have q0 := (m.cell (World.block_lt_of_cell? v9 _ zc4)).trans zc4
      refine wpOp_of (fun K hK => ?_)
      unfold wpOp
      simp only [e4]
      go_simp
      refine Or.inl ?_
      exact hK _ _ ⟨put9 v 5 (.float .f64 xx), g, (by simp [put9, e4]), hS.step hL hi (by decide) (by decide) (Below.refl _ _) V5.symm⟩
    · refine wpOp_of (fun K hK => ?_)
      unfold wpOp
      go_simp
      refine Or.inl ?_
      exact hK _ _ ⟨put9 v 6 (.pointer (some ⟨w.heap.size, 5, none⟩)), g, (by simp [put9]), hS.step hL hi (by decide) (by decide) (Below.refl _ _) V6.symm⟩
    · have e6 : v 6 = .pointer (some ⟨w.heap.size, 5, none⟩) := (hS.d 6 (by decide) (ready_dep hi 6 (by kernel_rfl))).trans V6
      have q0 := (m.cell (World.block_lt_of_cell? v9 _ zc5)).trans zc5
      refine wpOp_of (fun K hK => ?_)
      unfold wpOp
      simp only [e6]
      go_simp
      refine Or.inl ?_
      exact hK _ _ ⟨put9 v 7 (.float .f64 yy), g, (by simp [put9, e6]), hS.step hL hi (by decide) (by decide) (Below.refl _ _) V7.symm⟩
    · refine wpOp_of (fun K hK => ?_)
      unfold wpOp
      go_simp
      refine Or.inl ?_
      exact hK _ _ ⟨put9 v 8 (.pointer (some ⟨w'.heap.size, 0, none⟩)), _, (by simp [put9]), hS.make (i := 0) hL (by decide) hi hno (by decide) (by kernel_rfl)⟩
    · refine wpOp_of (fun K hK => ?_)
      unfold wpOp
      go_simp
      refine Or.inl ?_
      exact hK _ _ ⟨put9 v 9 (.pointer (some ⟨w'.heap.size, 0, none⟩)), _, (by simp [put9]), hS.make (i := 1) hL (by decide) hi hno (by decide) (by kernel_rfl)⟩
    · have e1 : v 1 = .agg #[.float .f64 a0, .float .f64 a1] := (hS.d 1 (by decide) (ready_dep hi 1 (by kernel_rfl))).trans V1
      have e8 := (hS.p 0 (by decide) (ready_dep hi 8 (by kernel_rfl))).1
      obtain ⟨q0, q1, q2, q3, _⟩ := hS.nb 0 (by decide) (ready_dep hi 8 (by kernel_rfl)) hno
      simp only [Nat.reduceAdd] at e8
      refine wpOp_of (fun K hK => ?_)
      unfold wpOp
      simp only [e1, e8]
      go_simp
      refine Or.inl ?_
      exact hK _ _ ⟨put9 v 10 undef, g, (by simp [put9, e1, e8]), hS.store (i := 0) hL (by decide) hi hno (by decide) (fun k hk => by rcases (show k = 0 ∨ k = 1 by omega) with rfl | rfl <;> kernel_rfl) V10.symm⟩
    · have e3 : v 3 = .agg #[.float .f64 b0, .float .f64 b1] := (hS.d 3 (by decide) (ready_dep hi 3 (by kernel_rfl))).trans V3
      have e9 := (hS.p 1 (by decide) (ready_dep hi 9 (by kernel_rfl))).1
      obtain ⟨q0, q1, q2, q3, _⟩ := hS.nb 1 (by decide) (ready_dep hi 9 (by kernel_rfl)) hno
      simp only [Nat.reduceAdd] at e9
      refine wpOp_of (fun K hK => ?_)
      unfold wpOp
      simp only [e3, e9]
      go_simp
      refine Or.inl ?_
      exact hK _ _ ⟨put9 v 11 undef, g, (by simp [put9, e3, e9]), hS.store (i := 1) hL (by decide) hi hno (by decide) (fun k hk => by rcases (show k = 0 ∨ k = 1 by omega) with rfl | rfl <;> kernel_rfl) V11.symm⟩
    · have e5 : v 5 = .float .f64 xx := (hS.d 5 (by decide) (ready_dep hi 5 (by kernel_rfl))).trans V5
      refine wpOp_of (fun K hK => ?_)
      unfold wpOp
      simp only [e5]
      go_simp
      refine Or.inl ?_
      exact hK _ _ ⟨put9 v 12 (.float .f64 xx), g, (by simp [put9, e5]), hS.step hL hi (by decide) (by decide) (Below.refl _ _) V12.symm⟩
    · have e7 : v 7 = .float .f64 yy := (hS.d 7 (by decide) (ready_dep hi 7 (by kernel_rfl))).trans V7
      refine wpOp_of (fun K hK => ?_)
      unfold wpOp
      simp only [e7]
      go_simp
      refine Or.inl ?_
      exact hK _ _ ⟨put9 v 13 (.float .f64 yy), g, (by simp [put9, e7]), hS.step hL hi (by decide) (by decide) (Below.refl _ _) V13.symm⟩
  · intro L v g w' hL hS hr3
    have on := all_done hL hr3 (by kernel_rfl)
    have Oba : Bx w' (g 0) (.float .f64 a0) (.float .f64 a1) := hS.yb 0 (by decide) (on 10 (by decide))
    have P0 : v 8 = .pointer (some ⟨g 0, 0, none⟩) := (hS.p 0 (by decide) (on 8 (by decide))).1
    have Obb : Bx w' (g 1) (.float .f64 b0) (.float .f64 b1) := hS.yb 1 (by decide) (on 11 (by decide))
    have P1 : v 9 = .pointer (some ⟨g 1, 0, none⟩) := (hS.p 1 (by decide) (on 9 (by decide))).1
    replace Z := Z.trans (hS.m.mono Z.size)
    try dsimp only
    rw [P0]
    rw [P1]
    rw [hS.d 0 (by decide) (on 0 (by decide)), V0]
    rw [hS.d 1 (by decide) (on 1 (by decide)), V1]
    rw [hS.d 2 (by decide) (on 2 (by decide)), V2]
    rw [hS.d 3 (by decide) (on 3 (by decide)), V3]
    rw [hS.d 4 (by decide) (on 4 (by decide)), V4]
    rw [hS.d 5 (by decide) (on 5 (by decide)), V5]
    rw [hS.d 6 (by decide) (on 6 (by decide)), V6]
    rw [hS.d 7 (by decide) (on 7 (by decide)), V7]
    rw [hS.d 12 (by decide) (on 12 (by decide)), V12]
    rw [hS.d 13 (by decide) (on 13 (by decide)), V13]
    clear hS on hr3 P0 P1 hVAL V0 V1 V2 V3 V4 V5 V6 V7 V12 V13 V10 V11 zc0 zc1 zc2 zc3 zc4 zc5
    generalize g 0 = ga at *
    generalize g 1 = gb at *
    generalize w' = wc at *
    clear g v VAL L hL
    rcases hr with rfl | ⟨rfl, rfl⟩
    · skip
      have ac0 := Oba.1
      have ac1 := Oba.2.1
      have bc0 := Obb.1
      have bc1 := Obb.2.1
      go_upto_region 5 with (first
        | (go_at_call_of 5 (Value.agg #[Value.float FloatKind.f64 b0, Value.float FloatKind.f64 b1]); refine (cR2 _).mono ?_; rintro e vk ⟨rfl, bc⟩; have bb := bb.trans (bc.mono bb.size))
        | (go_at_call_of 5 (Value.agg #[Value.float FloatKind.f64 a0, Value.float FloatKind.f64 a1]); refine (cR1 _).mono ?_; rintro e vk ⟨rfl, bb⟩; have bc0 := (Obb.below bb).1; have bc1 := (Obb.below bb).2.1))
      clear ac0 ac1 bc0 bc1
      replace Oba := Oba.below bb
      replace Obb := Obb.below bb
      replace Z := Z.trans (bb.mono Z.size)
      have ac0 := Oba.1
      have ac1 := Oba.2.1
      have bc0 := Obb.1
      have bc1 := Obb.2.1
      go_wp2_with (go_at_call 6; refine (cA _ (tabW_below hT Z)).mono ?_; rintro e vm ⟨rfl, bd⟩)
      go_ret
      exact ⟨rfl, by have Z3 := Z.trans (bd.mono Z.size); exact Z3.alloc Z3.size _⟩
    · skip
      have ac0 := Oba.1
      have ac1 := Oba.2.1
      have bc0 := Obb.1
      have bc1 := Obb.2.1
      go_upto_region 5 with (first
        | (go_at_call_of 5 (Value.agg #[Value.float FloatKind.f64 b0, Value.float FloatKind.f64 b1]); refine (cR2 _).mono ?_; rintro e vk ⟨rfl, bc⟩; have bb := bb.trans (bc.mono bb.size))
        | (go_at_call_of 5 (Value.agg #[Value.float FloatKind.f64 a0, Value.float FloatKind.f64 a1]); refine (cR1 _).mono ?_; rintro e vk ⟨rfl, bb⟩; have bc0 := (Obb.below bb).1; have bc1 := (Obb.below bb).2.1))
      clear ac0 ac1 bc0 bc1
      replace Oba := Oba.below bb
      replace Obb := Obb.below bb
      replace Z := Z.trans (bb.mono Z.size)
      have ac0 := Oba.1
      have ac1 := Oba.2.1
      have bc0 := Obb.1
      have bc1 := Obb.2.1
      go_wp2_with (go_at_call 6; refine (cA _ (tabW_below hT Z)).mono ?_; rintro e vm ⟨rfl, bd⟩)
      go_ret
      exact ⟨rfl, by have Z3 := Z.trans (bd.mono Z.size); exact Z3.alloc Z3.size _⟩
set_option maxRecDepth 100000 in
set_option maxHeartbeats 8000000 in
theorem holds_walk (a0 a1 b0 b1 xx yy s0 s1 d0 d1 m0 m1 k0 k1 z0 z1 px py : Nat) (DP DQ DS DL DT DK : Dy) (cA : ∀ w, TabW w → Calls Tryz.prog 6 #[spV a0 a1, spV b0 b1] w fun e w' => e = .returned (.tuple #[spV s0 s1, .int .i64 0]) ∧ Below w.heap.size w w') (cS : ∀ w, TabW w → Calls Tryz.prog 9 #[spV a0 a1, spV b0 b1] w fun e w' => e = .returned (.tuple #[spV d0 d1, .int .i64 0]) ∧ Below w.heap.size w w') (cM : ∀ w, TabW w → Calls Tryz.prog 10 #[spV a0 a1, spV b0 b1] w fun e w' => e = .returned (.tuple #[spV m0 m1, .int .i64 0]) ∧ Below w.heap.size w w') (cK : ∀ w, TabW w → Calls Tryz.prog 15 #[spV a0 a1] w fun e w' => e = .returned (.tuple #[spV k0 k1, .int .i64 0]) ∧ Below w.heap.size w w') (cZ : ∀ w, TabW w → Calls Tryz.prog 16 #[spV a0 a1] w fun e w' => e = .returned (.tuple #[spV z0 z1, .int .i64 0]) ∧ Below w.heap.size w w') (cRa : ∀ w, Calls Tryz.prog 5 #[spV a0 a1] w fun e w' => e = .returned (.bool true) ∧ Below w.heap.size w w') (cRb : ∀ w, Calls Tryz.prog 5 #[spV b0 b1] w fun e w' => e = .returned (.bool true) ∧ Below w.heap.size w w') (cRs : ∀ w, Calls Tryz.prog 5 #[spV s0 s1] w fun e w' => e = .returned (.bool true) ∧ Below w.heap.size w w') (cRd : ∀ w, Calls Tryz.prog 5 #[spV d0 d1] w fun e w' => e = .returned (.bool true) ∧ Below w.heap.size w w') (cRm : ∀ w, Calls Tryz.prog 5 #[spV m0 m1] w fun e w' => e = .returned (.bool true) ∧ Below w.heap.size w w') (cRk : ∀ w, Calls Tryz.prog 5 #[spV k0 k1] w fun e w' => e = .returned (.bool true) ∧ Below w.heap.size w w') (cI1 : ∀ w, Calls Tryz.prog 7 #[spV a0 a1, .float .f64 xx] w fun e w' => e = .returned (.float .f64 px) ∧ Below w.heap.size w w') (cI2 : ∀ w, Calls Tryz.prog 7 #[spV b0 b1, .float .f64 yy] w fun e w' => e = .returned (.float .f64 py) ∧ Below w.heap.size w w') (cn1 : ∀ w, TabW w → Calls Tryz.prog 8 #[.float .f64 px] w (GaveD w DP)) (cn2 : ∀ w, TabW w → Calls Tryz.prog 8 #[.float .f64 py] w (GaveD w DQ)) (cdA : ∀ ao bo cap bcap w, LRow w ao DP.mag → LRow w bo DQ.mag → TabW w → Calls Tryz.prog 11 #[dyA DP ao cap, dyA DQ bo bcap] w (Gave w (DS, 0))) (cdS : ∀ ao bo cap bcap w, LRow w ao DP.mag → LRow w bo DQ.mag → TabW w → Calls Tryz.prog 12 #[dyA DP ao cap, dyA DQ bo bcap] w (Gave w (DL, 0))) (cdM : ∀ ao bo cap bcap w, LRow w ao DP.mag → LRow w bo DQ.mag → TabW w → Calls Tryz.prog 13 #[dyA DP ao cap, dyA DQ bo bcap] w (Gave w (DT, 0))) (cdK : ∀ ao bo cap bcap w, LRow w ao DP.mag → LRow w bo DP.mag → TabW w → Calls Tryz.prog 13 #[dyA DP ao cap, dyA DP bo bcap] w (Gave w (DK, 0))) (hs : ∀ ao cap w, TabW w → LRow w ao DS.mag → Calls Tryz.prog 14 #[spV s0 s1, dyA DS ao cap] w fun e w' => e = .returned (.bool true) ∧ Below w.heap.size w w') (hl : ∀ ao cap w, TabW w → LRow w ao DL.mag → Calls Tryz.prog 14 #[spV d0 d1, dyA DL ao cap] w fun e w' => e = .returned (.bool true) ∧ Below w.heap.size w w') (ht : ∀ ao cap w, TabW w → LRow w ao DT.mag → Calls Tryz.prog 14 #[spV m0 m1, dyA DT ao cap] w fun e w' => e = .returned (.bool true) ∧ Below w.heap.size w w') (hk : ∀ ao cap w, TabW w → LRow w ao DK.mag → Calls Tryz.prog 14 #[spV k0 k1, dyA DK ao cap] w fun e w' => e = .returned (.bool true) ∧ Below w.heap.size w w') (ng : Bool) (gx : (FloatKind.f64.format.order px 0 == some .lt) = ng) (sz : Nat) (hsz : sz = if ng then negW px else px) (hz : ∀ w, Calls Tryz.prog 17 #[spV z0 z1, .float .f64 sz] w fun e w' => e = .returned (.bool true) ∧ Below w.heap.size w w') (cQ : ∀ xo yo xc yc w, TabW w → LRow w xo DP.mag → LRow w yo DQ.mag → Calls Tryz.prog 18 #[spV a0 a1, spV b0 b1, dyA DP xo xc, dyA DQ yo yc] w fun e w' => e = .returned (.bool true) ∧ Below w.heap.size w w') (cW : ∀ xo xc w, TabW w → LRow w xo DP.mag → Calls Tryz.prog 19 #[spV a0 a1, dyA DP xo xc] w fun e w' => e = .returned (.bool true) ∧ Below w.heap.size w w') (w : World) (hT : TabW w) :
    Calls Tryz.prog 3 #[twV a0 a1 b0 b1 xx yy] w fun e w' => e = .returned (.bool true) ∧ Below w.heap.size w w' := by
  have hst := run_storef Tryz.prog
  go_enter Tryz.func3, Tryz.ntmps3
  go_upto_region 3 with (go_at_call 4; refine (sawake _).mono ?_; rintro e v9 ⟨rfl, bb⟩)
  have zc0 : v9.cell? ⟨w.heap.size, 0, none⟩ = some (.float .f64 a0) := ((oldc bb).1 w.heap.size 0 (by go_simp)).trans (by go_simp)
  have zc1 : v9.cell? ⟨w.heap.size, 1, none⟩ = some (.float .f64 a1) := ((oldc bb).1 w.heap.size 1 (by go_simp)).trans (by go_simp)
  have zc2 : v9.cell? ⟨w.heap.size, 2, none⟩ = some (.float .f64 b0) := ((oldc bb).1 w.heap.size 2 (by go_simp)).trans (by go_simp)
  have zc3 : v9.cell? ⟨w.heap.size, 3, none⟩ = some (.float .f64 b1) := ((oldc bb).1 w.heap.size 3 (by go_simp)).trans (by go_simp)
  have zc4 : v9.cell? ⟨w.heap.size, 4, none⟩ = some (.float .f64 xx) := ((oldc bb).1 w.heap.size 4 (by go_simp)).trans (by go_simp)
  have zc5 : v9.cell? ⟨w.heap.size, 5, none⟩ = some (.float .f64 yy) := ((oldc bb).1 w.heap.size 5 (by go_simp)).trans (by go_simp)
  have Z := old1 bb
  clear bb
  obtain ⟨VAL, hVAL⟩ : ∃ V : Nat → Value, V = (fun j => match j with | 0 => .pointer (some ⟨w.heap.size, 0, none⟩) | 1 => .agg #[.float .f64 a0, .float .f64 a1] | 2 => .pointer (some ⟨w.heap.size, 2, none⟩) | 3 => .agg #[.float .f64 b0, .float .f64 b1] | 4 => .pointer (some ⟨w.heap.size, 4, none⟩) | 5 => .float .f64 xx | 6 => .pointer (some ⟨w.heap.size, 5, none⟩) | 7 => .float .f64 yy | 12 => .float .f64 xx | 13 => .float .f64 yy | _ => undef) := ⟨_, rfl⟩
  have V0 : VAL 0 = .pointer (some ⟨w.heap.size, 0, none⟩) := congrFun hVAL 0
  have V1 : VAL 1 = .agg #[.float .f64 a0, .float .f64 a1] := congrFun hVAL 1
  have V2 : VAL 2 = .pointer (some ⟨w.heap.size, 2, none⟩) := congrFun hVAL 2
  have V3 : VAL 3 = .agg #[.float .f64 b0, .float .f64 b1] := congrFun hVAL 3
  have V4 : VAL 4 = .pointer (some ⟨w.heap.size, 4, none⟩) := congrFun hVAL 4
  have V5 : VAL 5 = .float .f64 xx := congrFun hVAL 5
  have V6 : VAL 6 = .pointer (some ⟨w.heap.size, 5, none⟩) := congrFun hVAL 6
  have V7 : VAL 7 = .float .f64 yy := congrFun hVAL 7
  have V12 : VAL 12 = .float .f64 xx := congrFun hVAL 12
  have V13 : VAL 13 = .float .f64 yy := congrFun hVAL 13
  have V10 : VAL 10 = undef := congrFun hVAL 10
  have V11 : VAL 11 = undef := congrFun hVAL 11
  refine region_rgN (by kernel_rfl) (fun v => ⟨#[twV a0 a1 b0 b1 xx yy, .pointer (some ⟨w.heap.size, 0, none⟩), .bool false, v 8, v 9, v 12, v 13, undef, undef, undef, undef, undef, undef, undef, undef, undef, undef, undef, undef, undef, undef, undef, undef, undef, undef, undef, undef, undef, .bool true, .bool false, v 0, v 1, v 2, v 3, v 4, v 5, v 6, v 7, undef, undef, undef, undef, undef, undef, undef, undef, undef, undef, undef, undef, undef, undef, undef, undef, undef, undef, undef, undef, undef, undef, undef, undef, undef, undef, undef, undef, undef, undef, undef, undef, undef, undef, undef, undef, undef, undef, undef, undef, undef, undef, undef, undef, undef, undef, undef, undef, undef, undef, undef, undef, undef, undef, undef, undef, undef, undef, undef, undef, undef, undef, undef, undef, undef, undef, undef, undef, undef, undef, undef, undef, undef, undef, undef, undef, undef, undef, undef, undef, undef, undef, undef, undef, undef, undef, undef, undef, undef, undef, undef, undef, undef, undef, undef, undef, undef, undef, undef, undef, undef, undef, undef, undef, undef, undef, undef, undef, undef, undef, undef, undef, undef, undef, undef, undef, undef, undef, undef, undef, undef, undef, undef, undef, undef, undef, undef, undef, undef, undef, undef, undef, undef, undef, undef, undef, undef, undef, undef, undef, undef, undef, undef, undef, undef, undef, undef, undef, undef, undef, undef, undef, undef, undef, undef, undef, undef, undef, undef], []⟩) 2 8 10 (fun i => match i with | 0 => (.float .f64 a0, .float .f64 a1) | _ => (.float .f64 b0, .float .f64 b1)) VAL (fun _ => undef) rfl ?_ ?_
  · intro L v g w' i hL hS hi
    obtain ⟨h1, h2, h3⟩ := mem_ready hi
    have h1 : i < 14 := h1
    try dsimp only
    have hno := off_not (by rw [hL]; exact h1) h2
    have m := hS.m
    have hcs : i = 0 ∨ i = 1 ∨ i = 2 ∨ i = 3 ∨ i = 4 ∨ i = 5 ∨ i = 6 ∨ i = 7 ∨ i = 8 ∨ i = 9 ∨ i = 10 ∨ i = 11 ∨ i = 12 ∨ i = 13 := by omega
    rcases hcs with rfl | rfl | rfl | rfl | rfl | rfl | rfl | rfl | rfl | rfl | rfl | rfl | rfl | rfl
    · refine wpOp_of (fun K hK => ?_)
      unfold wpOp
      go_simp
      refine Or.inl ?_
      exact hK _ _ ⟨put9 v 0 (.pointer (some ⟨w.heap.size, 0, none⟩)), g, (by simp [put9]), hS.step hL hi (by decide) (by decide) (Below.refl _ _) V0.symm⟩
    · have e0 : v 0 = .pointer (some ⟨w.heap.size, 0, none⟩) := (hS.d 0 (by decide) (ready_dep hi 0 (by kernel_rfl))).trans V0
      have q0 := (m.cell (World.block_lt_of_cell? v9 _ zc0)).trans zc0
      have q1 := (m.cell (World.block_lt_of_cell? v9 _ zc1)).trans zc1
      refine wpOp_of (fun K hK => ?_)
      unfold wpOp
      simp only [e0]
      go_simp
      refine Or.inl ?_
      exact hK _ _ ⟨put9 v 1 (.agg #[.float .f64 a0, .float .f64 a1]), g, (by simp [put9, e0]), hS.step hL hi (by decide) (by decide) (Below.refl _ _) V1.symm⟩
    · refine wpOp_of (fun K hK => ?_)
      unfold wpOp
      go_simp
      refine Or.inl ?_
      exact hK _ _ ⟨put9 v 2 (.pointer (some ⟨w.heap.size, 2, none⟩)), g, (by simp [put9]), hS.step hL hi (by decide) (by decide) (Below.refl _ _) V2.symm⟩
    · have e2 : v 2 = .pointer (some ⟨w.heap.size, 2, none⟩) := (hS.d 2 (by decide) (ready_dep hi 2 (by kernel_rfl))).trans V2
      have q0 := (m.cell (World.block_lt_of_cell? v9 _ zc2)).trans zc2
      have q1 := (m.cell (World.block_lt_of_cell? v9 _ zc3)).trans zc3
      refine wpOp_of (fun K hK => ?_)
      unfold wpOp
      simp only [e2]
      go_simp
      refine Or.inl ?_
      exact hK _ _ ⟨put9 v 3 (.agg #[.float .f64 b0, .float .f64 b1]), g, (by simp [put9, e2]), hS.step hL hi (by decide) (by decide) (Below.refl _ _) V3.symm⟩
    · refine wpOp_of (fun K hK => ?_)
      unfold wpOp
      go_simp
      refine Or.inl ?_
      exact hK _ _ ⟨put9 v 4 (.pointer (some ⟨w.heap.size, 4, none⟩)), g, (by simp [put9]), hS.step hL hi (by decide) (by decide) (Below.refl _ _) V4.symm⟩
    · have e4 : v 4 = .pointer (some ⟨w.heap.size, 4, none⟩) := (hS.d 4 (by decide) (ready_dep hi 4 (by kernel_rfl))).trans V4
      have q0 := (m.cell (World.block_lt_of_cell? v9 _ zc4)).trans zc4
      refine wpOp_of (fun K hK => ?_)
      unfold wpOp
      simp only [e4]
      go_simp
      refine Or.inl ?_
      exact hK _ _ ⟨put9 v 5 (.float .f64 xx), g, (by simp [put9, e4]), hS.step hL hi (by decide) (by decide) (Below.refl _ _) V5.symm⟩
    · refine wpOp_of (fun K hK => ?_)
      unfold wpOp
      go_simp
      refine Or.inl ?_
      exact hK _ _ ⟨put9 v 6 (.pointer (some ⟨w.heap.size, 5, none⟩)), g, (by simp [put9]), hS.step hL hi (by decide) (by decide) (Below.refl _ _) V6.symm⟩
    · have e6 : v 6 = .pointer (some ⟨w.heap.size, 5, none⟩) := (hS.d 6 (by decide) (ready_dep hi 6 (by kernel_rfl))).trans V6
      have q0 := (m.cell (World.block_lt_of_cell? v9 _ zc5)).trans zc5
      refine wpOp_of (fun K hK => ?_)
      unfold wpOp
      simp only [e6]
      go_simp
      refine Or.inl ?_
      exact hK _ _ ⟨put9 v 7 (.float .f64 yy), g, (by simp [put9, e6]), hS.step hL hi (by decide) (by decide) (Below.refl _ _) V7.symm⟩
    · refine wpOp_of (fun K hK => ?_)
      unfold wpOp
      go_simp
      refine Or.inl ?_
      exact hK _ _ ⟨put9 v 8 (.pointer (some ⟨w'.heap.size, 0, none⟩)), _, (by simp [put9]), hS.make (i := 0) hL (by decide) hi hno (by decide) (by kernel_rfl)⟩
    · refine wpOp_of (fun K hK => ?_)
      unfold wpOp
      go_simp
      refine Or.inl ?_
      exact hK _ _ ⟨put9 v 9 (.pointer (some ⟨w'.heap.size, 0, none⟩)), _, (by simp [put9]), hS.make (i := 1) hL (by decide) hi hno (by decide) (by kernel_rfl)⟩
    · have e1 : v 1 = .agg #[.float .f64 a0, .float .f64 a1] := (hS.d 1 (by decide) (ready_dep hi 1 (by kernel_rfl))).trans V1
      have e8 := (hS.p 0 (by decide) (ready_dep hi 8 (by kernel_rfl))).1
      obtain ⟨q0, q1, q2, q3, _⟩ := hS.nb 0 (by decide) (ready_dep hi 8 (by kernel_rfl)) hno
      simp only [Nat.reduceAdd] at e8
      refine wpOp_of (fun K hK => ?_)
      unfold wpOp
      simp only [e1, e8]
      go_simp
      refine Or.inl ?_
      exact hK _ _ ⟨put9 v 10 undef, g, (by simp [put9, e1, e8]), hS.store (i := 0) hL (by decide) hi hno (by decide) (fun k hk => by rcases (show k = 0 ∨ k = 1 by omega) with rfl | rfl <;> kernel_rfl) V10.symm⟩
    · have e3 : v 3 = .agg #[.float .f64 b0, .float .f64 b1] := (hS.d 3 (by decide) (ready_dep hi 3 (by kernel_rfl))).trans V3
      have e9 := (hS.p 1 (by decide) (ready_dep hi 9 (by kernel_rfl))).1
      obtain ⟨q0, q1, q2, q3, _⟩ := hS.nb 1 (by decide) (ready_dep hi 9 (by kernel_rfl)) hno
      simp only [Nat.reduceAdd] at e9
      refine wpOp_of (fun K hK => ?_)
      unfold wpOp
      simp only [e3, e9]
      go_simp
      refine Or.inl ?_
      exact hK _ _ ⟨put9 v 11 undef, g, (by simp [put9, e3, e9]), hS.store (i := 1) hL (by decide) hi hno (by decide) (fun k hk => by rcases (show k = 0 ∨ k = 1 by omega) with rfl | rfl <;> kernel_rfl) V11.symm⟩
    · have e5 : v 5 = .float .f64 xx := (hS.d 5 (by decide) (ready_dep hi 5 (by kernel_rfl))).trans V5
      refine wpOp_of (fun K hK => ?_)
      unfold wpOp
      simp only [e5]
      go_simp
      refine Or.inl ?_
      exact hK _ _ ⟨put9 v 12 (.float .f64 xx), g, (by simp [put9, e5]), hS.step hL hi (by decide) (by decide) (Below.refl _ _) V12.symm⟩
    · have e7 : v 7 = .float .f64 yy := (hS.d 7 (by decide) (ready_dep hi 7 (by kernel_rfl))).trans V7
      refine wpOp_of (fun K hK => ?_)
      unfold wpOp
      simp only [e7]
      go_simp
      refine Or.inl ?_
      exact hK _ _ ⟨put9 v 13 (.float .f64 yy), g, (by simp [put9, e7]), hS.step hL hi (by decide) (by decide) (Below.refl _ _) V13.symm⟩
  · intro L v g w' hL hS hr3
    have on := all_done hL hr3 (by kernel_rfl)
    have Oba : Bx w' (g 0) (.float .f64 a0) (.float .f64 a1) := hS.yb 0 (by decide) (on 10 (by decide))
    have P0 : v 8 = .pointer (some ⟨g 0, 0, none⟩) := (hS.p 0 (by decide) (on 8 (by decide))).1
    have Obb : Bx w' (g 1) (.float .f64 b0) (.float .f64 b1) := hS.yb 1 (by decide) (on 11 (by decide))
    have P1 : v 9 = .pointer (some ⟨g 1, 0, none⟩) := (hS.p 1 (by decide) (on 9 (by decide))).1
    replace Z := Z.trans (hS.m.mono Z.size)
    try dsimp only
    rw [P0]
    rw [P1]
    rw [hS.d 0 (by decide) (on 0 (by decide)), V0]
    rw [hS.d 1 (by decide) (on 1 (by decide)), V1]
    rw [hS.d 2 (by decide) (on 2 (by decide)), V2]
    rw [hS.d 3 (by decide) (on 3 (by decide)), V3]
    rw [hS.d 4 (by decide) (on 4 (by decide)), V4]
    rw [hS.d 5 (by decide) (on 5 (by decide)), V5]
    rw [hS.d 6 (by decide) (on 6 (by decide)), V6]
    rw [hS.d 7 (by decide) (on 7 (by decide)), V7]
    rw [hS.d 12 (by decide) (on 12 (by decide)), V12]
    rw [hS.d 13 (by decide) (on 13 (by decide)), V13]
    clear hS on hr3 P0 P1 hVAL V0 V1 V2 V3 V4 V5 V6 V7 V12 V13 V10 V11 zc0 zc1 zc2 zc3 zc4 zc5
    generalize g 0 = ga at *
    generalize g 1 = gb at *
    generalize w' = wc at *
    clear g v VAL L hL
    have ac0 := Oba.1
    have ac1 := Oba.2.1
    have bc0 := Obb.1
    have bc1 := Obb.2.1
    go_upto_region 7 with (first
      | (go_at_call_of 5 (Value.agg #[Value.float FloatKind.f64 b0, Value.float FloatKind.f64 b1]); refine (cRb _).mono ?_; rintro e vk ⟨rfl, bc⟩; have bb := bb.trans (bc.mono bb.size))
      | (go_at_call_of 5 (Value.agg #[Value.float FloatKind.f64 a0, Value.float FloatKind.f64 a1]); refine (cRa _).mono ?_; rintro e vj ⟨rfl, bb⟩; have bc0 := (Obb.below bb).1; have bc1 := (Obb.below bb).2.1))
    clear ac0 ac1 bc0 bc1
    replace Oba := Oba.below bb
    replace Obb := Obb.below bb
    replace Z := Z.trans (bb.mono Z.size)
    clear bb bc
    have hne : Nonempty (QOf vk) := QOf.any (tabW_below hT Z)
    have au0 : ∀ u : QOf vk, u.val.cell? ⟨ga, 0, none⟩ = some (.float .f64 a0) := fun u => u.cell Oba.1
    have au1 : ∀ u : QOf vk, u.val.cell? ⟨ga, 1, none⟩ = some (.float .f64 a1) := fun u => u.cell Oba.2.1
    have bu0 : ∀ u : QOf vk, u.val.cell? ⟨gb, 0, none⟩ = some (.float .f64 b0) := fun u => u.cell Obb.1
    have bu1 : ∀ u : QOf vk, u.val.cell? ⟨gb, 1, none⟩ = some (.float .f64 b1) := fun u => u.cell Obb.2.1
    refine region_quietB (by kernel_rfl) (by kernel_rfl) (tabW_below hT Z) ?_
    repeat (quiet_step (first | (go_at_call_of 7 (Value.agg #[Value.float FloatKind.f64 a0, Value.float FloatKind.f64 a1]); with_reducible exact quietB_of (cI1 _)) | (go_at_call_of 7 (Value.agg #[Value.float FloatKind.f64 b0, Value.float FloatKind.f64 b1]); with_reducible exact quietB_of (cI2 _))))
    refine wpQuiet_nil ?_
    intro w5 hw5
    obtain ⟨u5, rfl⟩ := hw5
    replace Oba := Oba.below u5.below
    replace Obb := Obb.below u5.below
    replace Z := Z.trans (u5.below.mono Z.size)
    clear au0 au1 bu0 bu1 hne
    generalize u5.val = we at *
    clear u5
    go_upto_region 9 with (first
      | (go_at_call_of 8 (Value.float FloatKind.f64 px); refine (cn1 _ (tabW_below hT Z)).mono ?_; rintro e v1 ⟨oDP, nDP, rfl, r1, f1, bx1⟩; have Z1 := Z.trans (bx1.mono Z.size))
      | (go_at_call_of 8 (Value.float FloatKind.f64 py); refine (cn2 _ (tabW_below hT Z1)).mono ?_; rintro e v2 ⟨oDQ, nDQ, rfl, r2, f2, bx2⟩))
    have HDP := (Hd.new (d := DP) (cap := nDP) (r1.below bx2)).below ((Below.refl _ _).alloc (Nat.le_refl _) (.cells #[.bool DQ.neg, .slice oDQ DQ.mag.length nDQ, .int .i64 DQ.exp] 35))
    have HDQ := Hd.new (d := DQ) (cap := nDQ) (r2.alloc (.cells #[.bool DP.neg, .slice oDP DP.mag.length nDP, .int .i64 DP.exp] 35))
    have szq : (v2.alloc (.cells #[.bool DP.neg, .slice oDP DP.mag.length nDP, .int .i64 DP.exp] 35)).heap.size = v2.heap.size + 1 := by simp
    rw [szq] at HDQ
    replace Oba := (((Oba.below bx1).below bx2).alloc (.cells #[.bool DP.neg, .slice oDP DP.mag.length nDP, .int .i64 DP.exp] 35)).alloc (.cells #[.bool DQ.neg, .slice oDQ DQ.mag.length nDQ, .int .i64 DQ.exp] 35)
    replace Obb := (((Obb.below bx1).below bx2).alloc (.cells #[.bool DP.neg, .slice oDP DP.mag.length nDP, .int .i64 DP.exp] 35)).alloc (.cells #[.bool DQ.neg, .slice oDQ DQ.mag.length nDQ, .int .i64 DQ.exp] 35)
    replace Z := Z1.trans (bx2.mono Z1.size)
    replace Z := (Z.alloc Z.size (.cells #[.bool DP.neg, .slice oDP DP.mag.length nDP, .int .i64 DP.exp] 35)).alloc (by have := Z.size; simp; omega) (.cells #[.bool DQ.neg, .slice oDQ DQ.mag.length nDQ, .int .i64 DQ.exp] 35)
    clear Z1 r1 r2 f1 f2 bx1 bx2 szq
    generalize (v2.alloc (.cells #[.bool DP.neg, .slice oDP DP.mag.length nDP, .int .i64 DP.exp] 35)).alloc (.cells #[.bool DQ.neg, .slice oDQ DQ.mag.length nDQ, .int .i64 DQ.exp] 35) = wf at *
    obtain ⟨gDQ, hgq⟩ : ∃ n, v2.heap.size + 1 = n := ⟨_, rfl⟩
    rw [hgq] at HDQ ⊢
    clear hgq
    generalize v2.heap.size = gDP at *
    clear v1 v2
    have ac0 := Oba.1
    have ac1 := Oba.2.1
    have bc0 := Obb.1
    have bc1 := Obb.2.1
    go_upto_region 10 with (go_at_call 6; refine (cA _ (tabW_below hT Z)).mono ?_; rintro e vk ⟨rfl, bb⟩)
    clear ac0 ac1 bc0 bc1
    replace Oba := (Oba.below bb).alloc (.cells #[.float .f64 s0, .float .f64 s1] 24)
    replace Obb := (Obb.below bb).alloc (.cells #[.float .f64 s0, .float .f64 s1] 24)
    replace HDP := (HDP.below bb).below ((Below.refl _ _).alloc (Nat.le_refl _) (.cells #[.float .f64 s0, .float .f64 s1] 24))
    replace HDQ := (HDQ.below bb).below ((Below.refl _ _).alloc (Nat.le_refl _) (.cells #[.float .f64 s0, .float .f64 s1] 24))
    replace Z := Z.trans (bb.mono Z.size)
    replace Z := Z.alloc Z.size (.cells #[.float .f64 s0, .float .f64 s1] 24)
    clear bb
    have Obs := Bx.new vk (.float .f64 s0) (.float .f64 s1) 24
    generalize vk.alloc (.cells #[.float .f64 s0, .float .f64 s1] 24) = w0 at *
    generalize vk.heap.size = gs at *
    clear vk
    have ac0 := Oba.1
    have ac1 := Oba.2.1
    have bc0 := Obb.1
    have bc1 := Obb.2.1
    go_upto_region 11 with (go_at_call 9; refine (cS _ (tabW_below hT Z)).mono ?_; rintro e vk ⟨rfl, bb⟩)
    clear ac0 ac1 bc0 bc1
    replace Oba := (Oba.below bb).alloc (.cells #[.float .f64 d0, .float .f64 d1] 24)
    replace Obb := (Obb.below bb).alloc (.cells #[.float .f64 d0, .float .f64 d1] 24)
    replace HDP := (HDP.below bb).below ((Below.refl _ _).alloc (Nat.le_refl _) (.cells #[.float .f64 d0, .float .f64 d1] 24))
    replace HDQ := (HDQ.below bb).below ((Below.refl _ _).alloc (Nat.le_refl _) (.cells #[.float .f64 d0, .float .f64 d1] 24))
    replace Obs := (Obs.below bb).alloc (.cells #[.float .f64 d0, .float .f64 d1] 24)
    replace Z := Z.trans (bb.mono Z.size)
    replace Z := Z.alloc Z.size (.cells #[.float .f64 d0, .float .f64 d1] 24)
    clear bb
    have Obd := Bx.new vk (.float .f64 d0) (.float .f64 d1) 24
    generalize vk.alloc (.cells #[.float .f64 d0, .float .f64 d1] 24) = w1 at *
    generalize vk.heap.size = gd at *
    clear vk
    have ac0 := Oba.1
    have ac1 := Oba.2.1
    have bc0 := Obb.1
    have bc1 := Obb.2.1
    go_upto_region 12 with (go_at_call 10; refine (cM _ (tabW_below hT Z)).mono ?_; rintro e vk ⟨rfl, bb⟩)
    clear ac0 ac1 bc0 bc1
    replace Oba := (Oba.below bb).alloc (.cells #[.float .f64 m0, .float .f64 m1] 24)
    replace Obb := (Obb.below bb).alloc (.cells #[.float .f64 m0, .float .f64 m1] 24)
    replace HDP := (HDP.below bb).below ((Below.refl _ _).alloc (Nat.le_refl _) (.cells #[.float .f64 m0, .float .f64 m1] 24))
    replace HDQ := (HDQ.below bb).below ((Below.refl _ _).alloc (Nat.le_refl _) (.cells #[.float .f64 m0, .float .f64 m1] 24))
    replace Obs := (Obs.below bb).alloc (.cells #[.float .f64 m0, .float .f64 m1] 24)
    replace Obd := (Obd.below bb).alloc (.cells #[.float .f64 m0, .float .f64 m1] 24)
    replace Z := Z.trans (bb.mono Z.size)
    replace Z := Z.alloc Z.size (.cells #[.float .f64 m0, .float .f64 m1] 24)
    clear bb
    have Obm := Bx.new vk (.float .f64 m0) (.float .f64 m1) 24
    generalize vk.alloc (.cells #[.float .f64 m0, .float .f64 m1] 24) = w2 at *
    generalize vk.heap.size = gm at *
    clear vk
    have DPc0 := HDP.c0
    have DPc1 := HDP.c1
    have DPc2 := HDP.c2
    have DQc0 := HDQ.c0
    have DQc1 := HDQ.c1
    have DQc2 := HDQ.c2
    go_upto_region 13 with (go_at_call 11; refine (cdA _ _ _ _ _ HDP.row HDQ.row (tabW_below hT Z)).mono ?_; rintro e vk ⟨oDS, nDS, rfl, rr, fr, bb⟩)
    clear DPc0 DPc1 DPc2 DQc0 DQc1 DQc2
    replace Oba := (Oba.below bb).alloc (.cells #[.bool DS.neg, .slice oDS DS.mag.length nDS, .int .i64 DS.exp] 35)
    replace Obb := (Obb.below bb).alloc (.cells #[.bool DS.neg, .slice oDS DS.mag.length nDS, .int .i64 DS.exp] 35)
    replace HDP := (HDP.below bb).below ((Below.refl _ _).alloc (Nat.le_refl _) (.cells #[.bool DS.neg, .slice oDS DS.mag.length nDS, .int .i64 DS.exp] 35))
    replace HDQ := (HDQ.below bb).below ((Below.refl _ _).alloc (Nat.le_refl _) (.cells #[.bool DS.neg, .slice oDS DS.mag.length nDS, .int .i64 DS.exp] 35))
    replace Obs := (Obs.below bb).alloc (.cells #[.bool DS.neg, .slice oDS DS.mag.length nDS, .int .i64 DS.exp] 35)
    replace Obd := (Obd.below bb).alloc (.cells #[.bool DS.neg, .slice oDS DS.mag.length nDS, .int .i64 DS.exp] 35)
    replace Obm := (Obm.below bb).alloc (.cells #[.bool DS.neg, .slice oDS DS.mag.length nDS, .int .i64 DS.exp] 35)
    replace Z := Z.trans (bb.mono Z.size)
    replace Z := Z.alloc Z.size (.cells #[.bool DS.neg, .slice oDS DS.mag.length nDS, .int .i64 DS.exp] 35)
    clear bb
    have HDS := Hd.new (d := DS) (cap := nDS) rr
    generalize vk.alloc (.cells #[.bool DS.neg, .slice oDS DS.mag.length nDS, .int .i64 DS.exp] 35) = w3 at *
    generalize vk.heap.size = gDS at *
    clear vk rr fr
    have DPc0 := HDP.c0
    have DPc1 := HDP.c1
    have DPc2 := HDP.c2
    have DQc0 := HDQ.c0
    have DQc1 := HDQ.c1
    have DQc2 := HDQ.c2
    go_upto_region 14 with (go_at_call 12; refine (cdS _ _ _ _ _ HDP.row HDQ.row (tabW_below hT Z)).mono ?_; rintro e vk ⟨oDL, nDL, rfl, rr, fr, bb⟩)
    clear DPc0 DPc1 DPc2 DQc0 DQc1 DQc2
    replace Oba := (Oba.below bb).alloc (.cells #[.bool DL.neg, .slice oDL DL.mag.length nDL, .int .i64 DL.exp] 35)
    replace Obb := (Obb.below bb).alloc (.cells #[.bool DL.neg, .slice oDL DL.mag.length nDL, .int .i64 DL.exp] 35)
    replace HDP := (HDP.below bb).below ((Below.refl _ _).alloc (Nat.le_refl _) (.cells #[.bool DL.neg, .slice oDL DL.mag.length nDL, .int .i64 DL.exp] 35))
    replace HDQ := (HDQ.below bb).below ((Below.refl _ _).alloc (Nat.le_refl _) (.cells #[.bool DL.neg, .slice oDL DL.mag.length nDL, .int .i64 DL.exp] 35))
    replace Obs := (Obs.below bb).alloc (.cells #[.bool DL.neg, .slice oDL DL.mag.length nDL, .int .i64 DL.exp] 35)
    replace Obd := (Obd.below bb).alloc (.cells #[.bool DL.neg, .slice oDL DL.mag.length nDL, .int .i64 DL.exp] 35)
    replace Obm := (Obm.below bb).alloc (.cells #[.bool DL.neg, .slice oDL DL.mag.length nDL, .int .i64 DL.exp] 35)
    replace HDS := (HDS.below bb).below ((Below.refl _ _).alloc (Nat.le_refl _) (.cells #[.bool DL.neg, .slice oDL DL.mag.length nDL, .int .i64 DL.exp] 35))
    replace Z := Z.trans (bb.mono Z.size)
    replace Z := Z.alloc Z.size (.cells #[.bool DL.neg, .slice oDL DL.mag.length nDL, .int .i64 DL.exp] 35)
    clear bb
    have HDL := Hd.new (d := DL) (cap := nDL) rr
    generalize vk.alloc (.cells #[.bool DL.neg, .slice oDL DL.mag.length nDL, .int .i64 DL.exp] 35) = w4 at *
    generalize vk.heap.size = gDL at *
    clear vk rr fr
    have DPc0 := HDP.c0
    have DPc1 := HDP.c1
    have DPc2 := HDP.c2
    have DQc0 := HDQ.c0
    have DQc1 := HDQ.c1
    have DQc2 := HDQ.c2
    go_upto_region 15 with (go_at_call 13; refine (cdM _ _ _ _ _ HDP.row HDQ.row (tabW_below hT Z)).mono ?_; rintro e vk ⟨oDT, nDT, rfl, rr, fr, bb⟩)
    clear DPc0 DPc1 DPc2 DQc0 DQc1 DQc2
    replace Oba := (Oba.below bb).alloc (.cells #[.bool DT.neg, .slice oDT DT.mag.length nDT, .int .i64 DT.exp] 35)
    replace Obb := (Obb.below bb).alloc (.cells #[.bool DT.neg, .slice oDT DT.mag.length nDT, .int .i64 DT.exp] 35)
    replace HDP := (HDP.below bb).below ((Below.refl _ _).alloc (Nat.le_refl _) (.cells #[.bool DT.neg, .slice oDT DT.mag.length nDT, .int .i64 DT.exp] 35))
    replace HDQ := (HDQ.below bb).below ((Below.refl _ _).alloc (Nat.le_refl _) (.cells #[.bool DT.neg, .slice oDT DT.mag.length nDT, .int .i64 DT.exp] 35))
    replace Obs := (Obs.below bb).alloc (.cells #[.bool DT.neg, .slice oDT DT.mag.length nDT, .int .i64 DT.exp] 35)
    replace Obd := (Obd.below bb).alloc (.cells #[.bool DT.neg, .slice oDT DT.mag.length nDT, .int .i64 DT.exp] 35)
    replace Obm := (Obm.below bb).alloc (.cells #[.bool DT.neg, .slice oDT DT.mag.length nDT, .int .i64 DT.exp] 35)
    replace HDS := (HDS.below bb).below ((Below.refl _ _).alloc (Nat.le_refl _) (.cells #[.bool DT.neg, .slice oDT DT.mag.length nDT, .int .i64 DT.exp] 35))
    replace HDL := (HDL.below bb).below ((Below.refl _ _).alloc (Nat.le_refl _) (.cells #[.bool DT.neg, .slice oDT DT.mag.length nDT, .int .i64 DT.exp] 35))
    replace Z := Z.trans (bb.mono Z.size)
    replace Z := Z.alloc Z.size (.cells #[.bool DT.neg, .slice oDT DT.mag.length nDT, .int .i64 DT.exp] 35)
    clear bb
    have HDT := Hd.new (d := DT) (cap := nDT) rr
    generalize vk.alloc (.cells #[.bool DT.neg, .slice oDT DT.mag.length nDT, .int .i64 DT.exp] 35) = w5 at *
    generalize vk.heap.size = gDT at *
    clear vk rr fr
    have sc0 := Obs.1
    have sc1 := Obs.2.1
    go_upto_region 17 with (first
      | (go_at_call_of 14 (Value.agg #[Value.float FloatKind.f64 m0, Value.float FloatKind.f64 m1]); refine (ht _ _ _ (tabW_below hT (Z.trans (tq4.mono Z.size))) (HDT.below tq4).row).mono ?_; rintro e yq5 ⟨rfl, tq5⟩; have tq5 := tq4.trans (tq5.mono tq4.size))
      | (go_at_call_of 14 (Value.agg #[Value.float FloatKind.f64 d0, Value.float FloatKind.f64 d1]); refine (hl _ _ _ (tabW_below hT (Z.trans (tq3.mono Z.size))) (HDL.below tq3).row).mono ?_; rintro e yq4 ⟨rfl, tq4⟩; have tq4 := tq3.trans (tq4.mono tq3.size); have mc0 := (Obm.below tq4).1; have mc1 := (Obm.below tq4).2.1; have DTc0 := (HDT.below tq4).c0; have DTc1 := (HDT.below tq4).c1; have DTc2 := (HDT.below tq4).c2)
      | (go_at_call_of 14 (Value.agg #[Value.float FloatKind.f64 s0, Value.float FloatKind.f64 s1]); refine (hs _ _ _ (tabW_below hT (Z.trans (tq2.mono Z.size))) (HDS.below tq2).row).mono ?_; rintro e yq3 ⟨rfl, tq3⟩; have tq3 := tq2.trans (tq3.mono tq2.size); have dc0 := (Obd.below tq3).1; have dc1 := (Obd.below tq3).2.1; have DLc0 := (HDL.below tq3).c0; have DLc1 := (HDL.below tq3).c1; have DLc2 := (HDL.below tq3).c2)
      | (go_at_call_of 5 (Value.agg #[Value.float FloatKind.f64 m0, Value.float FloatKind.f64 m1]); refine (cRm _).mono ?_; rintro e yq2 ⟨rfl, tq2⟩; have tq2 := tq1.trans (tq2.mono tq1.size); have sc0 := (Obs.below tq2).1; have sc1 := (Obs.below tq2).2.1; have DSc0 := (HDS.below tq2).c0; have DSc1 := (HDS.below tq2).c1; have DSc2 := (HDS.below tq2).c2)
      | (go_at_call_of 5 (Value.agg #[Value.float FloatKind.f64 d0, Value.float FloatKind.f64 d1]); refine (cRd _).mono ?_; rintro e yq1 ⟨rfl, tq1⟩; have tq1 := tq0.trans (tq1.mono tq0.size); have mc0 := (Obm.below tq1).1; have mc1 := (Obm.below tq1).2.1)
      | (go_at_call_of 5 (Value.agg #[Value.float FloatKind.f64 s0, Value.float FloatKind.f64 s1]); refine (cRs _).mono ?_; rintro e yq0 ⟨rfl, tq0⟩; have dc0 := (Obd.below tq0).1; have dc1 := (Obd.below tq0).2.1))
    clear sc0 sc1
    replace Oba := Oba.below tq5
    replace Obb := Obb.below tq5
    replace HDP := HDP.below tq5
    replace HDQ := HDQ.below tq5
    replace Obs := Obs.below tq5
    replace Obd := Obd.below tq5
    replace Obm := Obm.below tq5
    replace HDS := HDS.below tq5
    replace HDL := HDL.below tq5
    replace HDT := HDT.below tq5
    replace Z := Z.trans (tq5.mono Z.size)
    generalize yq5 = w6 at *
    clear Obs
    clear Obd
    clear Obm
    clear HDS
    clear HDL
    clear HDT
    have ac0 := Oba.1
    have ac1 := Oba.2.1
    go_upto_region 18 with (go_at_call 15; refine (cK _ (tabW_below hT Z)).mono ?_; rintro e vk ⟨rfl, bb⟩)
    clear ac0 ac1
    replace Oba := (Oba.below bb).alloc (.cells #[.float .f64 k0, .float .f64 k1] 24)
    replace Obb := (Obb.below bb).alloc (.cells #[.float .f64 k0, .float .f64 k1] 24)
    replace HDP := (HDP.below bb).below ((Below.refl _ _).alloc (Nat.le_refl _) (.cells #[.float .f64 k0, .float .f64 k1] 24))
    replace HDQ := (HDQ.below bb).below ((Below.refl _ _).alloc (Nat.le_refl _) (.cells #[.float .f64 k0, .float .f64 k1] 24))
    replace Z := Z.trans (bb.mono Z.size)
    replace Z := Z.alloc Z.size (.cells #[.float .f64 k0, .float .f64 k1] 24)
    clear bb
    have Obk := Bx.new vk (.float .f64 k0) (.float .f64 k1) 24
    generalize vk.alloc (.cells #[.float .f64 k0, .float .f64 k1] 24) = w7 at *
    generalize vk.heap.size = gk at *
    clear vk
    have ac0 := Oba.1
    have ac1 := Oba.2.1
    go_upto_region 19 with (go_at_call 16; refine (cZ _ (tabW_below hT Z)).mono ?_; rintro e vk ⟨rfl, bb⟩)
    clear ac0 ac1
    replace Oba := (Oba.below bb).alloc (.cells #[.float .f64 z0, .float .f64 z1] 24)
    replace Obb := (Obb.below bb).alloc (.cells #[.float .f64 z0, .float .f64 z1] 24)
    replace HDP := (HDP.below bb).below ((Below.refl _ _).alloc (Nat.le_refl _) (.cells #[.float .f64 z0, .float .f64 z1] 24))
    replace HDQ := (HDQ.below bb).below ((Below.refl _ _).alloc (Nat.le_refl _) (.cells #[.float .f64 z0, .float .f64 z1] 24))
    replace Obk := (Obk.below bb).alloc (.cells #[.float .f64 z0, .float .f64 z1] 24)
    replace Z := Z.trans (bb.mono Z.size)
    replace Z := Z.alloc Z.size (.cells #[.float .f64 z0, .float .f64 z1] 24)
    clear bb
    have Obz := Bx.new vk (.float .f64 z0) (.float .f64 z1) 24
    generalize vk.alloc (.cells #[.float .f64 z0, .float .f64 z1] 24) = w8 at *
    generalize vk.heap.size = gz at *
    clear vk
    have hng := neg_of px
    cases ng
    · skip
      simp only [Bool.false_eq_true, if_false] at hsz
      subst hsz
      go_upto_region 22 with fail
      have DPc0 := HDP.c0
      have DPc1 := HDP.c1
      have DPc2 := HDP.c2
      go_upto_region 23 with (go_at_call 13; refine (cdK _ _ _ _ _ HDP.row HDP.row (tabW_below hT Z)).mono ?_; rintro e vk ⟨oDK, nDK, rfl, rr, fr, bb⟩)
      clear DPc0 DPc1 DPc2
      replace Oba := (Oba.below bb).alloc (.cells #[.bool DK.neg, .slice oDK DK.mag.length nDK, .int .i64 DK.exp] 35)
      replace Obb := (Obb.below bb).alloc (.cells #[.bool DK.neg, .slice oDK DK.mag.length nDK, .int .i64 DK.exp] 35)
      replace HDP := (HDP.below bb).below ((Below.refl _ _).alloc (Nat.le_refl _) (.cells #[.bool DK.neg, .slice oDK DK.mag.length nDK, .int .i64 DK.exp] 35))
      replace HDQ := (HDQ.below bb).below ((Below.refl _ _).alloc (Nat.le_refl _) (.cells #[.bool DK.neg, .slice oDK DK.mag.length nDK, .int .i64 DK.exp] 35))
      replace Obk := (Obk.below bb).alloc (.cells #[.bool DK.neg, .slice oDK DK.mag.length nDK, .int .i64 DK.exp] 35)
      replace Obz := (Obz.below bb).alloc (.cells #[.bool DK.neg, .slice oDK DK.mag.length nDK, .int .i64 DK.exp] 35)
      replace Z := Z.trans (bb.mono Z.size)
      replace Z := Z.alloc Z.size (.cells #[.bool DK.neg, .slice oDK DK.mag.length nDK, .int .i64 DK.exp] 35)
      clear bb
      have HDK := Hd.new (d := DK) (cap := nDK) rr
      generalize vk.alloc (.cells #[.bool DK.neg, .slice oDK DK.mag.length nDK, .int .i64 DK.exp] 35) = w9 at *
      generalize vk.heap.size = gDK at *
      clear vk rr fr
      have kc0 := Obk.1
      have kc1 := Obk.2.1
      have DKc0 := HDK.c0
      have DKc1 := HDK.c1
      have DKc2 := HDK.c2
      go_upto_region 25 with (first
        | (go_at_call_of 5 (Value.agg #[Value.float FloatKind.f64 k0, Value.float FloatKind.f64 k1]); refine (cRk _).mono ?_; rintro e yq2 ⟨rfl, tq2⟩; have tq2 := tq1.trans (tq2.mono tq1.size))
        | (go_at_call 17; refine (hz _).mono ?_; rintro e yq1 ⟨rfl, tq1⟩; have tq1 := tq0.trans (tq1.mono tq0.size); have kc0 := (Obk.below tq1).1; have kc1 := (Obk.below tq1).2.1)
        | (go_at_call_of 14 (Value.agg #[Value.float FloatKind.f64 k0, Value.float FloatKind.f64 k1]); refine (hk _ _ _ (tabW_below hT Z) HDK.row).mono ?_; rintro e yq0 ⟨rfl, tq0⟩; have zc0 := (Obz.below tq0).1; have zc1 := (Obz.below tq0).2.1))
      clear kc0 kc1 DKc0 DKc1 DKc2
      replace Oba := Oba.below tq2
      replace Obb := Obb.below tq2
      replace HDP := HDP.below tq2
      replace HDQ := HDQ.below tq2
      replace Obk := Obk.below tq2
      replace Obz := Obz.below tq2
      replace HDK := HDK.below tq2
      replace Z := Z.trans (tq2.mono Z.size)
      generalize yq2 = w10 at *
      have ac0 := Oba.1
      have ac1 := Oba.2.1
      have bc0 := Obb.1
      have bc1 := Obb.2.1
      have DPc0 := HDP.c0
      have DPc1 := HDP.c1
      have DPc2 := HDP.c2
      have DQc0 := HDQ.c0
      have DQc1 := HDQ.c1
      have DQc2 := HDQ.c2
      go_wp2_with (first
        | (go_at_call 19; refine (cW _ _ _ (tabW_below hT (Z.trans (tq0.mono Z.size))) (HDP.below tq0).row).mono ?_; rintro e yq1 ⟨rfl, tq1⟩; have tq1 := tq0.trans (tq1.mono tq0.size))
        | (go_at_call 18; refine (cQ _ _ _ _ _ (tabW_below hT Z) HDP.row HDQ.row).mono ?_; rintro e yq0 ⟨rfl, tq0⟩; have ac0 := (Oba.below tq0).1; have ac1 := (Oba.below tq0).2.1; have DPc0 := (HDP.below tq0).c0; have DPc1 := (HDP.below tq0).c1; have DPc2 := (HDP.below tq0).c2))
      go_ret
      exact ⟨rfl, Z.trans (tq1.mono Z.size)⟩
    · skip
      simp only [if_true] at hsz
      subst hsz
      go_upto_region 22 with fail
      have DPc0 := HDP.c0
      have DPc1 := HDP.c1
      have DPc2 := HDP.c2
      go_upto_region 23 with (go_at_call 13; refine (cdK _ _ _ _ _ HDP.row HDP.row (tabW_below hT Z)).mono ?_; rintro e vk ⟨oDK, nDK, rfl, rr, fr, bb⟩)
      clear DPc0 DPc1 DPc2
      replace Oba := (Oba.below bb).alloc (.cells #[.bool DK.neg, .slice oDK DK.mag.length nDK, .int .i64 DK.exp] 35)
      replace Obb := (Obb.below bb).alloc (.cells #[.bool DK.neg, .slice oDK DK.mag.length nDK, .int .i64 DK.exp] 35)
      replace HDP := (HDP.below bb).below ((Below.refl _ _).alloc (Nat.le_refl _) (.cells #[.bool DK.neg, .slice oDK DK.mag.length nDK, .int .i64 DK.exp] 35))
      replace HDQ := (HDQ.below bb).below ((Below.refl _ _).alloc (Nat.le_refl _) (.cells #[.bool DK.neg, .slice oDK DK.mag.length nDK, .int .i64 DK.exp] 35))
      replace Obk := (Obk.below bb).alloc (.cells #[.bool DK.neg, .slice oDK DK.mag.length nDK, .int .i64 DK.exp] 35)
      replace Obz := (Obz.below bb).alloc (.cells #[.bool DK.neg, .slice oDK DK.mag.length nDK, .int .i64 DK.exp] 35)
      replace Z := Z.trans (bb.mono Z.size)
      replace Z := Z.alloc Z.size (.cells #[.bool DK.neg, .slice oDK DK.mag.length nDK, .int .i64 DK.exp] 35)
      clear bb
      have HDK := Hd.new (d := DK) (cap := nDK) rr
      generalize vk.alloc (.cells #[.bool DK.neg, .slice oDK DK.mag.length nDK, .int .i64 DK.exp] 35) = w9 at *
      generalize vk.heap.size = gDK at *
      clear vk rr fr
      have kc0 := Obk.1
      have kc1 := Obk.2.1
      have DKc0 := HDK.c0
      have DKc1 := HDK.c1
      have DKc2 := HDK.c2
      go_upto_region 25 with (first
        | (go_at_call_of 5 (Value.agg #[Value.float FloatKind.f64 k0, Value.float FloatKind.f64 k1]); refine (cRk _).mono ?_; rintro e yq2 ⟨rfl, tq2⟩; have tq2 := tq1.trans (tq2.mono tq1.size))
        | (go_at_call 17; refine (hz _).mono ?_; rintro e yq1 ⟨rfl, tq1⟩; have tq1 := tq0.trans (tq1.mono tq0.size); have kc0 := (Obk.below tq1).1; have kc1 := (Obk.below tq1).2.1)
        | (go_at_call_of 14 (Value.agg #[Value.float FloatKind.f64 k0, Value.float FloatKind.f64 k1]); refine (hk _ _ _ (tabW_below hT Z) HDK.row).mono ?_; rintro e yq0 ⟨rfl, tq0⟩; have zc0 := (Obz.below tq0).1; have zc1 := (Obz.below tq0).2.1))
      clear kc0 kc1 DKc0 DKc1 DKc2
      replace Oba := Oba.below tq2
      replace Obb := Obb.below tq2
      replace HDP := HDP.below tq2
      replace HDQ := HDQ.below tq2
      replace Obk := Obk.below tq2
      replace Obz := Obz.below tq2
      replace HDK := HDK.below tq2
      replace Z := Z.trans (tq2.mono Z.size)
      generalize yq2 = w10 at *
      have ac0 := Oba.1
      have ac1 := Oba.2.1
      have bc0 := Obb.1
      have bc1 := Obb.2.1
      have DPc0 := HDP.c0
      have DPc1 := HDP.c1
      have DPc2 := HDP.c2
      have DQc0 := HDQ.c0
      have DQc1 := HDQ.c1
      have DQc2 := HDQ.c2
      go_wp2_with (first
        | (go_at_call 19; refine (cW _ _ _ (tabW_below hT (Z.trans (tq0.mono Z.size))) (HDP.below tq0).row).mono ?_; rintro e yq1 ⟨rfl, tq1⟩; have tq1 := tq0.trans (tq1.mono tq0.size))
        | (go_at_call 18; refine (cQ _ _ _ _ _ (tabW_below hT Z) HDP.row HDQ.row).mono ?_; rintro e yq0 ⟨rfl, tq0⟩; have ac0 := (Oba.below tq0).1; have ac1 := (Oba.below tq0).2.1; have DPc0 := (HDP.below tq0).c0; have DPc1 := (HDP.below tq0).c1; have DPc2 := (HDP.below tq0).c2))
      go_ret
      exact ⟨rfl, Z.trans (tq1.mono Z.size)⟩
end Go.Proofs.YtpnbhgnejcpchaaGreatDoor

namespace Go.Proofs.YtpnbhgnejcpchaaGreatDoor
open Go.RowKit

theorem prod_bl {x y : Nat} (fx : finB x = true) (fy : finB y = true) : bl (vI x * vI y).natAbs ≤ 16384 := by
  obtain ⟨V, hV, v1⟩ := vI_bd fx
  obtain ⟨V', hV', v2⟩ := vI_bd fy
  refine bl_sm (n := V + V') (by
    rw [Int.natAbs_mul, Nat.pow_add]
    exact Nat.mul_lt_mul'' v1 v2) (by omega)
theorem sum_bl {x y : Nat} (fx : finB x = true) (fy : finB y = true) : bl (vI x * 2 ^ twP + vI y * 2 ^ twP).natAbs ≤ 16384 ∧ bl (vI x * 2 ^ twP - vI y * 2 ^ twP).natAbs ≤ 16384 := by
  obtain ⟨V, hV, v1⟩ := vI_bd fx
  obtain ⟨V', hV', v2⟩ := vI_bd fy
  have e : V' = V := by omega
  subst e
  have k : twP ≤ 2000 := by unfold twP; omega
  constructor
  · refine bl_sm (n := V' + 1 + twP) (by
      rw [← Int.add_mul, Int.natAbs_mul, pw_abs, Nat.pow_add, Nat.pow_succ]
      exact Nat.mul_lt_mul_of_pos_right (by omega) (Nat.two_pow_pos _)) (by omega)
  · refine bl_sm (n := V' + 1 + twP) (by
      rw [← Int.sub_mul, Int.natAbs_mul, pw_abs, Nat.pow_add, Nat.pow_succ]
      exact Nat.mul_lt_mul_of_pos_right (by omega) (Nat.two_pow_pos _)) (by omega)
theorem ge_0 {d : Nat} (h : Fn d) : geF d 0 = leF 0 d := by
  rw [geF_num h.1 (by omega) h.2 (by decide), leF_num (by omega) h.1 (by decide) h.2]
theorem right_C {p : Nat × Nat} (h : RtP p) : ∀ w, Calls Tryz.prog 5 #[spV p.1 p.2] w fun e w' => e = .returned (.bool true) ∧ Below w.heap.size w w' := fun w => by
  have := sright_any p.1 p.2 w
  rw [h.2.2] at this
  exact this
theorem quotient_C {a b : Nat × Nat} {x y : Nat} {X Y : Dy} (ha : RtP a) (hb : RtP b) (hx : Of1 x a) (hy : Of1 y b) (FX : Fd X (vI x * 2 ^ twP)) (FY : Fd Y (vI y * 2 ^ twP)) (xo yo : Option Addr) (xc yc : Nat) (w : World) (hT : TabW w) (rx : LRow w xo X.mag) (ry : LRow w yo Y.mag) :
    Calls Tryz.prog 18 #[spV a.1 a.2, spV b.1 b.2, dyA X xo xc, dyA Y yo yc] w fun e w' => e = .returned (.bool true) ∧ Below w.heap.size w w' := by
  cases h0 : (leF b.1 0 && leF 0 b.2)
  · have n := no0_of hb h0
    have rt := diP_rt ha hb n
    have dv := hold_div ha hb n hx hy
    have sy := (in_side n hy).2
    have hD := div_C ha hb h0
    have hR := right_C rt
    have z1 : place b.1 ≠ 0 := fun e => n.1 (by unfold place at e; split at e <;> omega)
    have z2 : place b.2 ≠ 0 := fun e => n.2.1 (by unfold place at e; split at e <;> omega)
    have s1 : sgn b.1 = true ↔ place b.1 < 0 := by
      unfold place at z1 ⊢
      cases s : sgn b.1 <;> rw [s] at z1 <;> simp only [if_true, Bool.false_eq_true, if_false, false_iff, true_iff] at z1 ⊢ <;> omega
    have s2 : sgn b.2 = true → place b.2 < 0 := fun s => by
      unfold place at z2 ⊢
      rw [s] at z2 ⊢
      simp only [if_true] at z2 ⊢
      omega
    have o1 := ord_gt0 hb.fn.1
    have o2 := ord_lt0 hb.fn.1
    have o3 := zero_eq hb.1
    have o4 := ord_gt0 hb.fn.2
    have o5 := zero_eq hb.2.1
    obtain ⟨⟨q0, q1⟩, eq⟩ : ∃ q, diP a b = q := ⟨_, rfl⟩
    rw [eq] at rt dv hD hR
    refine quot_walk a.1 a.2 b.1 b.2 q0 q1 X Y xo yo xc yc (vI x) (vI y) rt.1 rt.2.1 FX FY hD hR (sgn b.1) ?_ ?_ ?_ ?_ ?_ ?_ w hT rx ry
    · rw [o1]
      cases s : sgn b.1
      · have : ¬ place b.1 < 0 := fun k => by rw [s1.2 k] at s; cases s
        simp; omega
      · have := s1.1 s
        simp; omega
    · rw [o2]
      cases s : sgn b.1
      · have : ¬ place b.1 < 0 := fun k => by rw [s1.2 k] at s; cases s
        simpa using this
      · have := s1.1 s
        simpa using this
    · rw [o3]; simpa using n.1
    · intro s
      have k := s2 (n.2.2 ▸ s)
      rw [o4, o5]
      exact ⟨by simp; omega, by simpa using n.2.1⟩
    · intro f
      refine ⟨_, fun D FD => fd_mul FD FY (prod_bl f hy.2.1), fd_dz (prod_bl f hy.2.1), ?_⟩
      cases s : sgn b.1
      · simp only [Bool.false_eq_true, if_false]
        exact (dv.1 (sy.trans s)).1 f
      · simp only [if_true]
        exact (dv.2 (sy.trans s)).1 f
    · intro f
      refine ⟨_, fun D FD => fd_mul FD FY (prod_bl f hy.2.1), fd_dz (prod_bl f hy.2.1), ?_⟩
      cases s : sgn b.1
      · simp only [Bool.false_eq_true, if_false]
        exact (dv.1 (sy.trans s)).2 f
      · simp only [if_true]
        exact (dv.2 (sy.trans s)).2 f
  · have hD := div_C0 ha hb h0
    have t1 : leF b.1 0 = true := by revert h0; cases leF b.1 0 <;> simp
    have t2 : leF 0 b.2 = true := by revert h0; cases leF b.1 0 <;> simp
    exact quot_zero a.1 a.2 b.1 b.2 X Y xo yo xc yc hD t1 (by rw [ge_0 hb.fn.2]; exact t2) w hT
theorem root_C {a : Nat × Nat} {x : Nat} {X : Dy} (ha : RtP a) (hx : Of1 x a) (FX : Fd X (vI x * 2 ^ twP)) (xo : Option Addr) (xc : Nat) (w : World) (hT : TabW w) (rx : LRow w xo X.mag) :
    Calls Tryz.prog 19 #[spV a.1 a.2, dyA X xo xc] w fun e w' => e = .returned (.bool true) ∧ Below w.heap.size w w' := by
  have g := ord_lt0 ha.fn.1
  by_cases h0 : 0 ≤ place a.1
  · obtain ⟨⟨r1, r2⟩, fq, pq⟩ := hold_root ha h0 hx
    have rt := sqP_rt ha h0
    have hD := sqrt_C ha h0
    have hR := right_C rt
    have g1 := ord_lt0 rt.fn.1
    obtain ⟨⟨q0, q1⟩, eq⟩ : ∃ q, sqP a = q := ⟨_, rfl⟩
    rw [eq] at rt hD hR r1 r2 fq pq g1
    exact root_walk a.1 a.2 q0 q1 X xo xc (vI x) rt.1 rt.2.1 FX hD hR (by rw [g]; simpa using h0) (by rw [g1]; simpa using pq) fq
      ⟨_, fun D FD => fd_mul FD FD (prod_bl fq fq), fd_dz (prod_bl fq fq), r1⟩ (fun f => ⟨_, fun D FD => fd_mul FD FD (prod_bl f f), fd_dz (prod_bl f f), r2 f⟩) w hT rx
  · exact root_less a.1 a.2 X xo xc (sqrt_C0 ha h0) (by rw [g]; simpa using h0) w hT
set_option maxRecDepth 100000 in
set_option maxHeartbeats 2000000 in
theorem holds_right (a0 a1 b0 b1 xx yy : Nat) (ra : RtP (a0, a1)) (rb : RtP (b0, b1)) (hx : xx < 18446744073709551616) (hy : yy < 18446744073709551616) (w : World) (hT : TabW w) :
    Calls Tryz.prog 3 #[twV a0 a1 b0 b1 xx yy] w fun e w' => e = .returned (.bool true) ∧ Below w.heap.size w w' := by
  obtain ⟨ux, ox, cI1⟩ := inside_C ra xx hx
  obtain ⟨uy, oy, cI2⟩ := inside_C rb yy hy
  obtain ⟨DP, eP, FP⟩ := fd_of ox.2.1
  obtain ⟨DQ, eQ, FQ⟩ := fd_of oy.2.1
  obtain ⟨bs, bd⟩ := sum_bl ox.2.1 oy.2.1
  have bt := prod_bl ox.2.1 oy.2.1
  have bk := prod_bl ox.2.1 ox.2.1
  have FS := fd_dz bs
  have FL := fd_dz bd
  have FT := fd_dz bt
  have FK := fd_dz bk
  have A1 := fun ao bo cap bcap w h1 h2 h3 => Add_any DP DQ ao bo cap bcap w h1 h2 FP.2.1 FQ.2.1 h3
  have A2 := fun ao bo cap bcap w h1 h2 h3 => Sub_any DP DQ ao bo cap bcap w h1 h2 FP.2.1 FQ.2.1 h3
  have A3 := fun ao bo cap bcap w h1 h2 h3 => mul_any DP DQ ao bo cap bcap w h1 h2 FP.2.1 FQ.2.1 h3
  have A4 := fun ao bo cap bcap w h1 h2 h3 => mul_any DP DP ao bo cap bcap w h1 h2 FP.2.1 FP.2.1 h3
  rw [fd_add FP FQ bs] at A1
  rw [fd_sub FP FQ bd] at A2
  rw [fd_mul FP FQ bt] at A3
  rw [fd_mul FP FP bk] at A4
  have c1 := add_C ra rb
  have c2 := sub_C ra rb
  have c3 := mul_C ra rb
  have c4 := square_C ra
  have c5 := abs_C ra
  have r1 := right_C ra
  have r2 := right_C rb
  have r3 := right_C (adP_rt ra rb)
  have r4 := right_C (adP_rt ra (ngP_rt rb))
  have r5 := right_C (muP_rt ra rb)
  have r6 := right_C (squP_rt ra)
  have X1 := hold_add ra rb ox oy
  have X2 := hold_sub ra rb ox oy
  have X3 := hold_mul ra rb ox oy
  have X4 := hold_square ra ox
  rw [Int.add_mul] at X1
  rw [Int.sub_mul] at X2
  have H1 := fun ao cap w hT r => holds_C (adP_rt ra rb) FS X1 ao cap w hT r
  have H2 := fun ao cap w hT r => holds_C (adP_rt ra (ngP_rt rb)) FL X2 ao cap w hT r
  have H3 := fun ao cap w hT r => holds_C (muP_rt ra rb) FT X3 ao cap w hT r
  have H4 := fun ao cap w hT r => holds_C (squP_rt ra) FK X4 ao cap w hT r
  have Qc := fun xo yo xc yc w hT h1 h2 => quotient_C ra rb ox oy FP FQ xo yo xc yc w hT h1 h2
  have Rc := fun xo xc w hT h1 => root_C ra ox FP xo xc w hT h1
  have N1 := fun w h => number_any ux DP ox.1.1 eP w h
  have N2 := fun w h => number_any uy DQ oy.1.1 eQ w h
  obtain ⟨ng, hng⟩ : ∃ k, decide (place ux < 0) = k := ⟨_, rfl⟩
  have gx := ord_lt0 ox.1
  rw [hng] at gx
  obtain ⟨sz, hsz⟩ : ∃ k, k = if ng then negW ux else ux := ⟨_, rfl⟩
  have zf : Fn sz ∧ finB sz = true ∧ ((0 ≤ place ux ∧ place sz = place ux) ∨ (place ux ≤ 0 ∧ place sz = -place ux)) := by
    cases ng <;> simp only [Bool.false_eq_true, if_false, if_true] at hsz <;> rw [hsz]
    · have : ¬ place ux < 0 := by simpa using hng
      exact ⟨ox.1, ox.2.1, Or.inl ⟨by omega, rfl⟩⟩
    · have : place ux < 0 := by simpa using hng
      exact ⟨neg_Fn ox.1, by rw [fin_neg ox.1.1]; exact ox.2.1, Or.inr ⟨by omega, (neg_back ox.1.1).2.2.1⟩⟩
  obtain ⟨z1, z2⟩ := has_abs ra ox zf.2.2
  obtain ⟨sf1, sf2, sg1, sg2, sle, stop⟩ := abP_size ra
  have rz : RtP (abP (a0, a1)) := RtP.mk sf1 sf2 sle stop (by
    have : 0 ≤ place (abP (a0, a1)).2 := by unfold place; rw [sg2]; simp
    omega)
  have hz : ∀ w, Calls Tryz.prog 17 #[spV (abP (a0, a1)).1 (abP (a0, a1)).2, .float .f64 sz] w fun e w' => e = .returned (.bool true) ∧ Below w.heap.size w w' := fun w => by
    have c := shas_any (abP (a0, a1)).1 (abP (a0, a1)).2 sz zf.1.1 w
    rw [rz.2.2, zf.2.1, leF_num sf1.1 zf.1.1 sf1.2 zf.1.2, leF_num zf.1.1 sf2.1 zf.1.2 sf2.2, decide_eq_true z1, decide_eq_true z2] at c
    exact c
  clear FS FL FT FK X1 X2 X3 X4 bs bd bt bk eP eQ ra rb FP FQ z1 z2 sf1 sf2 sg1 sg2 sle stop rz zf ox oy hng
  generalize dz (vI ux * 2 ^ twP + vI uy * 2 ^ twP) = DS at *
  generalize dz (vI ux * 2 ^ twP - vI uy * 2 ^ twP) = DL at *
  generalize dz (vI ux * vI uy) = DT at *
  generalize dz (vI ux * vI ux) = DK at *
  obtain ⟨⟨s0, s1⟩, es⟩ : ∃ q, adP (a0, a1) (b0, b1) = q := ⟨_, rfl⟩
  obtain ⟨⟨d0, d1⟩, ed⟩ : ∃ q, adP (a0, a1) (ngP (b0, b1)) = q := ⟨_, rfl⟩
  obtain ⟨⟨m0, m1⟩, em⟩ : ∃ q, muP (a0, a1) (b0, b1) = q := ⟨_, rfl⟩
  obtain ⟨⟨k0, k1⟩, ek⟩ : ∃ q, squP (a0, a1) = q := ⟨_, rfl⟩
  obtain ⟨⟨z0, z1⟩, ez⟩ : ∃ q, abP (a0, a1) = q := ⟨_, rfl⟩
  rw [es] at c1 r3 H1
  rw [ed] at c2 r4 H2
  rw [em] at c3 r5 H3
  rw [ek] at c4 r6 H4
  rw [ez] at c5 hz
  exact holds_walk a0 a1 b0 b1 xx yy s0 s1 d0 d1 m0 m1 k0 k1 z0 z1 ux uy DP DQ DS DL DT DK c1 c2 c3 c4 c5 r1 r2 r3 r4 r5 r6 cI1 cI2 N1 N2 A1 A2 A3 A4 H1 H2 H3 H4 ng gx sz hsz hz Qc Rc w hT
theorem holds_law (a0 a1 b0 b1 xx yy : Nat) (ha0 : a0 < 18446744073709551616) (ha1 : a1 < 18446744073709551616) (hb0 : b0 < 18446744073709551616) (hb1 : b1 < 18446744073709551616) (hx : xx < 18446744073709551616) (hy : yy < 18446744073709551616) (w : World) (hT : TabW w) :
    Calls Tryz.prog 3 #[twV a0 a1 b0 b1 xx yy] w fun e w' => e = .returned (.bool true) ∧ Below w.heap.size w w' := by
  cases h1 : sRt a0 a1
  · exact holds_not a0 a1 b0 b1 xx yy 0 0 _ _ (fun w => by have := sright_any a0 a1 w; rw [h1] at this; exact this) (fun w => sright_any b0 b1 w) (Or.inl rfl) (fun w _ => sadd_not a0 a1 b0 b1 (by rw [h1]; rfl) w) w hT
  · cases h2 : sRt b0 b1
    · exact holds_not a0 a1 b0 b1 xx yy 0 0 _ _ (fun w => by have := sright_any a0 a1 w; rw [h1] at this; exact this) (fun w => by have := sright_any b0 b1 w; rw [h2] at this; exact this) (Or.inr ⟨rfl, rfl⟩) (fun w _ => sadd_not a0 a1 b0 b1 (by rw [h2]; simp) w) w hT
    · exact holds_right a0 a1 b0 b1 xx yy ⟨ha0, ha1, h1⟩ ⟨hb0, hb1, h2⟩ hx hy w hT
end Go.Proofs.YtpnbhgnejcpchaaGreatDoor
