/- SolveNumbers: its walk. -/
import Derived.Test.YtclldmdhpojciaaSn0
namespace Go.Proofs.Ytclldmdhpojciaa
open Go.RowKit

/-- What stands in memory: three answers of one number, two boxes of no numbers. -/
structure NmS (w : World) (ao d_o io qo so : Option Addr) (xa xd xi Q R qc sc : Nat) (W : World) : Prop where
  ra : GRow W ao [xa]
  rd : GRow W d_o [xd]
  ri : GRow W io [xi]
  qb : B3 W Q (.int .i64 0) (.int .i64 0) (.slice qo 0 qc)
  sb : B3 W R (.int .i64 0) (.int .i64 0) (.slice so 0 sc)
  bel : Below w.heap.size w W
theorem NmS.below {w : World} {ao d_o io qo so : Option Addr} {xa xd xi Q R qc sc : Nat} {W W' : World} (s : NmS w ao d_o io qo so xa xd xi Q R qc sc W) (hb : Below W.heap.size W W') : NmS w ao d_o io qo so xa xd xi Q R qc sc W' :=
  ⟨s.ra.below hb, s.rd.below hb, s.ri.below hb, s.qb.below hb, s.sb.below hb, s.bel.trans (hb.mono s.bel.size)⟩
/-- The great factor: its box, its two rows. -/
structure FrS (W : World) (F g h : Nat) (z : Nat → Nat) : Prop where
  fb : B3 W F (.int .i64 48) (.slice (some ⟨g, 0, none⟩) 1128 1128) (.slice (some ⟨h, 0, none⟩) 48 48)
  lr : RRow W g 1128 (fun _ => 0)
  dr : RRow W h 48 z
  lt : g < W.heap.size ∧ h < W.heap.size
  ne : h ≠ F ∧ h ≠ g
theorem FrS.below {W W' : World} {F g h : Nat} {z : Nat → Nat} (s : FrS W F g h z) (hb : Below W.heap.size W W') : FrS W' F g h z :=
  ⟨s.fb.below hb, s.lr.below hb s.lt.1, s.dr.below hb s.lt.2, ⟨Nat.lt_of_lt_of_le s.lt.1 hb.size, Nat.lt_of_lt_of_le s.lt.2 hb.size⟩, s.ne⟩
theorem FrS.set {W : World} {F g h : Nat} {z : Nat → Nat} (s : FrS W F g h z) (q r : Nat) : FrS (W.setCell ⟨h, q, none⟩ (.float .f64 r)) F g h (fun p => if p = q then r else z p) :=
  ⟨s.fb.far s.ne.1 _, World.rowIs.setOther s.lr (by exact fun e => s.ne.2 e.symm) _, s.dr.set q r, by rw [sset_size]; exact s.lt, s.ne⟩
theorem udr {W w2 : World} (b : Below W.drew.heap.size W.drew w2) : Below W.heap.size W w2 := (Below.refl W.heap.size W).drew.trans b
theorem B3.put3S {w : World} {b : Nat} {x y z : Value} (h : B3 w b x y z) (u v t : Value) : B3 (((w.setCell ⟨b, 0, none⟩ u).setCell ⟨b, 1, none⟩ v).setCell ⟨b, 2, none⟩ t) b u v t := by
  have k : B3 (w.setCell ⟨b, 0, none⟩ u) b u y z := by
    obtain ⟨h0, h1, h2, g0, g1, g2, h5⟩ := h
    exact ⟨World.cell?_setCell_same w _ u h0, (World.cell?_setCell_other w _ _ u (by simp)).trans h1, (World.cell?_setCell_other w _ _ u (by simp)).trans h2, by simp [go_sem, g0], by simp [go_sem, g1], by simp [go_sem, g2], by simp [go_sem]; exact h5⟩
  exact (k.putB v).putC t
theorem asz (w : World) (o : Obj) : (w.alloc o).heap.size = w.heap.size + 1 := by simp
theorem rowAt {o : Obj} {n : Nat} {f : Nat → Nat} (r : ∀ W : World, RRow (W.alloc o) W.heap.size n f) {w : World} {m : Nat} (h : w.heap.size = m) : RRow (w.alloc o) m n f := by subst h; exact r w
theorem far1 (W : World) (oL oD : Obj) (rL : ∀ W : World, RRow (W.alloc oL) W.heap.size 1128 (fun _ => 0)) (rD : ∀ W : World, RRow (W.alloc oD) W.heap.size 48 (fun _ => 0)) : FrS (((W.alloc oL).alloc oD).alloc (.cells #[.int .i64 48, .slice (some ⟨W.heap.size, 0, none⟩) 1128 1128, .slice (some ⟨W.heap.size + 1, 0, none⟩) 48 48] 27)) (W.heap.size + 1 + 1) (W.heap.size) (W.heap.size + 1) (fun _ => 0) ∧ Below W.heap.size W (((W.alloc oL).alloc oD).alloc (.cells #[.int .i64 48, .slice (some ⟨W.heap.size, 0, none⟩) 1128 1128, .slice (some ⟨W.heap.size + 1, 0, none⟩) 48 48] 27)) :=
  ⟨⟨B3.newAt (w := ((W.alloc oL).alloc oD)) (by simp only [asz]) _ _ _ _, ((rL W).below (below_one _ _) (by simp only [asz]; omega)).below (below_one _ _) (by simp only [asz]; omega), (rowAt rD (w := (W.alloc oL)) (by simp only [asz])).below (below_one _ _) (by simp only [asz]; omega), by simp only [asz]; omega, by omega⟩, old_one (old_two (Below.refl _ _))⟩
theorem far2 (W : World) (oL oD : Obj) (rL : ∀ W : World, RRow (W.alloc oL) W.heap.size 1128 (fun _ => 0)) (rD : ∀ W : World, RRow (W.alloc oD) W.heap.size 48 (fun _ => 0)) : FrS (((W.alloc oL).alloc (.cells #[.int .i64 48, .slice (some ⟨W.heap.size, 0, none⟩) 1128 1128, .slice (some ⟨W.heap.size + 1 + 1, 0, none⟩) 48 48] 27)).alloc oD) (W.heap.size + 1) (W.heap.size) (W.heap.size + 1 + 1) (fun _ => 0) ∧ Below W.heap.size W (((W.alloc oL).alloc (.cells #[.int .i64 48, .slice (some ⟨W.heap.size, 0, none⟩) 1128 1128, .slice (some ⟨W.heap.size + 1 + 1, 0, none⟩) 48 48] 27)).alloc oD) :=
  ⟨⟨(B3.newAt (w := (W.alloc oL)) (by simp only [asz]) _ _ _ _).alloc _, ((rL W).below (below_one _ _) (by simp only [asz]; omega)).below (below_one _ _) (by simp only [asz]; omega), rowAt rD (w := ((W.alloc oL).alloc (.cells #[.int .i64 48, .slice (some ⟨W.heap.size, 0, none⟩) 1128 1128, .slice (some ⟨W.heap.size + 1 + 1, 0, none⟩) 48 48] 27))) (by simp only [asz]), by simp only [asz]; omega, by omega⟩, old_one (old_two (Below.refl _ _))⟩
theorem far3 (W : World) (oL oD : Obj) (rL : ∀ W : World, RRow (W.alloc oL) W.heap.size 1128 (fun _ => 0)) (rD : ∀ W : World, RRow (W.alloc oD) W.heap.size 48 (fun _ => 0)) : FrS (((W.alloc oD).alloc oL).alloc (.cells #[.int .i64 48, .slice (some ⟨W.heap.size + 1, 0, none⟩) 1128 1128, .slice (some ⟨W.heap.size, 0, none⟩) 48 48] 27)) (W.heap.size + 1 + 1) (W.heap.size + 1) (W.heap.size) (fun _ => 0) ∧ Below W.heap.size W (((W.alloc oD).alloc oL).alloc (.cells #[.int .i64 48, .slice (some ⟨W.heap.size + 1, 0, none⟩) 1128 1128, .slice (some ⟨W.heap.size, 0, none⟩) 48 48] 27)) :=
  ⟨⟨B3.newAt (w := ((W.alloc oD).alloc oL)) (by simp only [asz]) _ _ _ _, (rowAt rL (w := (W.alloc oD)) (by simp only [asz])).below (below_one _ _) (by simp only [asz]; omega), ((rD W).below (below_one _ _) (by simp only [asz]; omega)).below (below_one _ _) (by simp only [asz]; omega), by simp only [asz]; omega, by omega⟩, old_one (old_two (Below.refl _ _))⟩
theorem far4 (W : World) (oL oD : Obj) (rL : ∀ W : World, RRow (W.alloc oL) W.heap.size 1128 (fun _ => 0)) (rD : ∀ W : World, RRow (W.alloc oD) W.heap.size 48 (fun _ => 0)) : FrS (((W.alloc oD).alloc (.cells #[.int .i64 48, .slice (some ⟨W.heap.size + 1 + 1, 0, none⟩) 1128 1128, .slice (some ⟨W.heap.size, 0, none⟩) 48 48] 27)).alloc oL) (W.heap.size + 1) (W.heap.size + 1 + 1) (W.heap.size) (fun _ => 0) ∧ Below W.heap.size W (((W.alloc oD).alloc (.cells #[.int .i64 48, .slice (some ⟨W.heap.size + 1 + 1, 0, none⟩) 1128 1128, .slice (some ⟨W.heap.size, 0, none⟩) 48 48] 27)).alloc oL) :=
  ⟨⟨(B3.newAt (w := (W.alloc oD)) (by simp only [asz]) _ _ _ _).alloc _, rowAt rL (w := ((W.alloc oD).alloc (.cells #[.int .i64 48, .slice (some ⟨W.heap.size + 1 + 1, 0, none⟩) 1128 1128, .slice (some ⟨W.heap.size, 0, none⟩) 48 48] 27))) (by simp only [asz]), ((rD W).below (below_one _ _) (by simp only [asz]; omega)).below (below_one _ _) (by simp only [asz]; omega), by simp only [asz]; omega, by omega⟩, old_one (old_two (Below.refl _ _))⟩
theorem far5 (W : World) (oL oD : Obj) (rL : ∀ W : World, RRow (W.alloc oL) W.heap.size 1128 (fun _ => 0)) (rD : ∀ W : World, RRow (W.alloc oD) W.heap.size 48 (fun _ => 0)) : FrS (((W.alloc (.cells #[.int .i64 48, .slice (some ⟨W.heap.size + 1, 0, none⟩) 1128 1128, .slice (some ⟨W.heap.size + 1 + 1, 0, none⟩) 48 48] 27)).alloc oL).alloc oD) (W.heap.size) (W.heap.size + 1) (W.heap.size + 1 + 1) (fun _ => 0) ∧ Below W.heap.size W (((W.alloc (.cells #[.int .i64 48, .slice (some ⟨W.heap.size + 1, 0, none⟩) 1128 1128, .slice (some ⟨W.heap.size + 1 + 1, 0, none⟩) 48 48] 27)).alloc oL).alloc oD) :=
  ⟨⟨((B3.new W _ _ _ _).alloc _).alloc _, (rowAt rL (w := (W.alloc (.cells #[.int .i64 48, .slice (some ⟨W.heap.size + 1, 0, none⟩) 1128 1128, .slice (some ⟨W.heap.size + 1 + 1, 0, none⟩) 48 48] 27))) (by simp only [asz])).below (below_one _ _) (by simp only [asz]; omega), rowAt rD (w := ((W.alloc (.cells #[.int .i64 48, .slice (some ⟨W.heap.size + 1, 0, none⟩) 1128 1128, .slice (some ⟨W.heap.size + 1 + 1, 0, none⟩) 48 48] 27)).alloc oL)) (by simp only [asz]), by simp only [asz]; omega, by omega⟩, old_one (old_two (Below.refl _ _))⟩
theorem far6 (W : World) (oL oD : Obj) (rL : ∀ W : World, RRow (W.alloc oL) W.heap.size 1128 (fun _ => 0)) (rD : ∀ W : World, RRow (W.alloc oD) W.heap.size 48 (fun _ => 0)) : FrS (((W.alloc (.cells #[.int .i64 48, .slice (some ⟨W.heap.size + 1 + 1, 0, none⟩) 1128 1128, .slice (some ⟨W.heap.size + 1, 0, none⟩) 48 48] 27)).alloc oD).alloc oL) (W.heap.size) (W.heap.size + 1 + 1) (W.heap.size + 1) (fun _ => 0) ∧ Below W.heap.size W (((W.alloc (.cells #[.int .i64 48, .slice (some ⟨W.heap.size + 1 + 1, 0, none⟩) 1128 1128, .slice (some ⟨W.heap.size + 1, 0, none⟩) 48 48] 27)).alloc oD).alloc oL) :=
  ⟨⟨((B3.new W _ _ _ _).alloc _).alloc _, rowAt rL (w := ((W.alloc (.cells #[.int .i64 48, .slice (some ⟨W.heap.size + 1 + 1, 0, none⟩) 1128 1128, .slice (some ⟨W.heap.size + 1, 0, none⟩) 48 48] 27)).alloc oD)) (by simp only [asz]), (rowAt rD (w := (W.alloc (.cells #[.int .i64 48, .slice (some ⟨W.heap.size + 1 + 1, 0, none⟩) 1128 1128, .slice (some ⟨W.heap.size + 1, 0, none⟩) 48 48] 27))) (by simp only [asz])).below (below_one _ _) (by simp only [asz]; omega), by simp only [asz]; omega, by omega⟩, old_one (old_two (Below.refl _ _))⟩
set_option maxRecDepth 100000 in
set_option maxHeartbeats 20000000 in
theorem numbers13_law (w : World) : Calls Try.prog 3 #[] w fun e w' => e = .returned (.bool true) ∧ Below w.heap.size w w' := by
  have B0 := Below.refl w.heap.size w
  go_enter Try.func3, Try.ntmps3
  go_upto_region 2 with (first
    | (go_at_call 9; refine (one13_any _ _).mono ?_; rintro e v1 ⟨d1, rfl, g1, p1⟩)
    | (go_at_call 8; refine (num_a _ _ _ (row_at rfl rfl)).mono ?_; rintro e w1 ⟨ao, ac, xa, rfl, na, ra, b1⟩))
  have q1 : Below v1.heap.size v1 w1 := old_one b1
  have c1 := p1.trans (q1.mono p1.size)
  have B1 := B0.trans (c1.mono B0.size)
  clear p1 q1 b1 c1 g1 B0
  go_upto_region 3 with (first
    | (go_at_call 9; refine (one13_any _ _).mono ?_; rintro e v2 ⟨d2, rfl, g2, p2⟩)
    | (go_at_call 10; refine (num_b _ _ _ (row_on g2 _) (row_at rfl rfl)).mono ?_; rintro e w2 ⟨bo, bc, rfl, b2⟩))
  have q2 : Below v2.heap.size v2 w2 := old_one b2
  have c2 := p2.trans (q2.mono p2.size)
  replace ra := ra.below c2
  have B2 := B1.trans (c2.mono B1.size)
  clear p2 q2 b2 c2 g2 B1
  go_upto_region 4 with (first
    | (go_at_call 12; refine (num_neg _).mono ?_; rintro e w' ⟨rfl, h'⟩; subst w')
    | (go_at_call 9; refine (one13_any _ _).mono ?_; rintro e v3 ⟨d3, rfl, g3, p3⟩)
    | (go_at_call 11; refine (num_c _ _ _ (row_on g3 _) (row_at rfl rfl)).mono ?_; rintro e w3 ⟨co, cc, rfl, b3⟩))
  have q3 : Below v3.heap.size v3 w3 := old_one b3
  have c3 := p3.trans (q3.mono p3.size)
  replace ra := ra.below c3
  have B3 := B2.trans (c3.mono B2.size)
  clear p3 q3 b3 c3 g3 B2
  go_upto_region 5 with (first
    | (go_at_call 13; refine (num_inf _).mono ?_; rintro e w' ⟨rfl, h'⟩; subst w')
    | (go_at_call 9; refine (one13_any _ _).mono ?_; rintro e v4 ⟨d4, rfl, g4, p4⟩)
    | (go_at_call 10; refine (num_s 9218868437227405312 13840687554816376832 (some 9223372036854775808) (by decide) (by decide) _ _ _ (row_on g4 _) (row_at rfl rfl) (by kernel_rfl)).mono ?_; rintro e w4 ⟨d_o, d_c, xd, rfl, nd, rd, b4⟩))
  have q4 : Below v4.heap.size v4 w4 := old_one b4
  have c4 := p4.trans (q4.mono p4.size)
  replace ra := ra.below c4
  have B4 := B3.trans (c4.mono B3.size)
  clear p4 q4 b4 c4 g4 B3
  go_upto_region 6 with (first
    | (go_at_call 14; refine (num_nan _).mono ?_; rintro e w' ⟨rfl, h'⟩; subst w')
    | (go_at_call 9; refine (one13_any _ _).mono ?_; rintro e v5 ⟨d5, rfl, g5, p5⟩)
    | (go_at_call 10; refine (num_s 9221120237041090561 4617315517961601024 none (by decide) (by decide) _ _ _ (row_on g5 _) (row_at rfl rfl) (by kernel_rfl)).mono ?_; rintro e w5 ⟨io, ic, xi, rfl, ni, ri, b5⟩))
  have q5 : Below v5.heap.size v5 w5 := old_one b5
  have c5 := p5.trans (q5.mono p5.size)
  replace ra := ra.below c5
  replace rd := rd.below c5
  have B5 := B4.trans (c5.mono B4.size)
  clear p5 q5 b5 c5 g5 B4
  go_upto_region 7 with (first
    | (go_at_call 9; refine (one13_any _ _).mono ?_; rintro e v6 ⟨d6, rfl, g6, p6⟩)
    | (go_at_call 10; refine (num_k _ _ _ (row_on g6 _) (row_at rfl rfl)).mono ?_; rintro e w6 ⟨ko, kc, rfl, b6⟩))
  have q6 : Below v6.heap.size v6 w6 := old_one b6
  have c6 := p6.trans (q6.mono p6.size)
  replace ra := ra.below c6
  replace rd := rd.below c6
  replace ri := ri.below c6
  have B6 := B5.trans (c6.mono B5.size)
  clear p6 q6 b6 c6 g6 B5
  go_upto_region 8 with (go_at_call 8; refine (num_m _ _ _ (row_at (by go_simp) rfl)).mono ?_; rintro e w7 ⟨mo, mc, rfl, b7⟩)
  have c7 := old_two b7
  replace ra := ra.below c7
  replace rd := rd.below c7
  replace ri := ri.below c7
  have B7 := B6.trans (c7.mono B6.size)
  clear b7 c7 B6
  go_upto_region 9 with (go_at_call 10; refine (num_o 0 0 (by kernel_rfl) _).mono ?_; rintro e w8 ⟨oo, oc, rfl, b8⟩)
  replace ra := ra.below b8
  replace rd := rd.below b8
  replace ri := ri.below b8
  have B8 := B7.trans (b8.mono B7.size)
  clear b8 B7
  go_upto_region 10 with (go_at_call 15; refine (num_q _).mono ?_; rintro e w9 ⟨qo, qc, rfl, b9⟩)
  have QB := B3.new w9 (.int .i64 0) (.int .i64 0) (.slice qo 0 qc) 34
  have c9 := b9.trans ((below_one w9 (.cells #[.int .i64 0, .int .i64 0, .slice qo 0 qc] 34)).mono b9.size)
  generalize w9.alloc (.cells #[.int .i64 0, .int .i64 0, .slice qo 0 qc] 34) = W9 at *
  generalize w9.heap.size = Q at *
  replace ra := ra.below c9
  replace rd := rd.below c9
  replace ri := ri.below c9
  have B9 := B8.trans (c9.mono B8.size)
  clear b9 c9 B8
  go_upto_region 11 with (first
    | (go_at_call 9; refine (one13_any _ _).mono ?_; rintro e v10 ⟨d10, rfl, g10, p10⟩)
    | (go_at_call 15; refine (num_i _ _ g10).mono ?_; rintro e w10 ⟨so, sc, rfl, b10⟩))
  have SB := B3.new w10 (.int .i64 0) (.int .i64 0) (.slice so 0 sc) 34
  have c10 := (p10.trans (b10.mono p10.size)).trans ((below_one w10 (.cells #[.int .i64 0, .int .i64 0, .slice so 0 sc] 34)).mono (p10.trans (b10.mono p10.size)).size)
  generalize w10.alloc (.cells #[.int .i64 0, .int .i64 0, .slice so 0 sc] 34) = W10 at *
  generalize w10.heap.size = R at *
  have S : NmS w ao d_o io qo so xa xd xi Q R qc sc W10 := ⟨ra.below c10, rd.below c10, ri.below c10, QB.below c10, SB, B9.trans (c10.mono B9.size)⟩
  clear p10 b10 c10 g10 ra rd ri QB SB B9
  go_cut [21] from 22 (fun s21 wx => s21 = .bool true ∧ NmS w ao d_o io qo so xa xd xi Q R qc sc wx)
  case first =>
    as_aux_lemma =>
    go_wp2_with (first
      | (go_at_call_of 16 (Value.slice ao 1 ac); refine (num_is1 (some 4617315517961601024) xa 4617315517961601024 na ⟨by decide, rfl⟩ _ _ _ _ (row_on S.ra _) (row_at rfl rfl)).mono ?_; rintro e u1 ⟨rfl, k1⟩; have S1 := S.below (old_one k1))
      | (go_at_call 12; refine (num_neg _).mono ?_; rintro e w' ⟨rfl, h'⟩; subst w')
      | (go_at_call_of 16 (Value.slice d_o 1 d_c); refine (num_is1 (some 9223372036854775808) xd 9223372036854775808 nd ⟨by decide, rfl⟩ _ _ _ _ (row_on S1.rd _) (row_at rfl rfl)).mono ?_; rintro e u2 ⟨rfl, k2⟩; have S2 := S1.below (old_one k2))
      | (go_at_call 14; refine (num_nan _).mono ?_; rintro e w' ⟨rfl, h'⟩; subst w')
      | (go_at_call_of 16 (Value.slice io 1 ic); refine (num_is1 none xi 9221120237041090561 ni ⟨by decide, by decide⟩ _ _ _ _ (row_on S2.ri _) (row_at rfl rfl)).mono ?_; rintro e u3 ⟨rfl, k3⟩; have S3 := S2.below (old_one k3))
      | (go_at_call_of 16 (Value.slice oo 0 oc); refine (num_is0 0 _ _ _).mono ?_; rintro e u4 ⟨rfl, k4⟩; have S4 := S3.below k4; obtain ⟨y0, y1, y2, _⟩ := id S4.qb))
    go_meet
    exact ⟨rfl, S4⟩
  clear S
  obtain ⟨rfl, S⟩ := hcut
  as_aux_lemma =>
  go_upto_region 12 with fail
  go_cut [22] from 23 (fun s22 wx => s22 = .bool true ∧ NmS w ao d_o io qo so xa xd xi Q R qc sc wx)
  case first =>
    as_aux_lemma =>
    go_wp2_with (first
      | (go_at_call_of 16 (Value.slice bo 0 bc); refine (num_is0 7 _ _ _).mono ?_; rintro e u1 ⟨rfl, k1⟩; have S1 := S.below k1)
      | (go_at_call_of 16 (Value.slice co 0 cc); refine (num_is0 7 _ _ _).mono ?_; rintro e u2 ⟨rfl, k2⟩; have S2 := S1.below k2)
      | (go_at_call_of 16 (Value.slice ko 0 kc); refine (num_is0 4 _ _ _).mono ?_; rintro e u3 ⟨rfl, k3⟩; have S3 := S2.below k3)
      | (go_at_call_of 16 (Value.slice mo 0 mc); refine (num_is0 4 _ _ _).mono ?_; rintro e u4 ⟨rfl, k4⟩; have S4 := S3.below k4; obtain ⟨y0, y1, y2, _⟩ := id S4.sb)
      | (go_at_call 17; refine (num_sm _ _ _).mono ?_; rintro e u5 ⟨rfl, k5⟩; have S5 := S4.below k5))
    go_meet
    exact ⟨rfl, S5⟩
  clear S
  obtain ⟨rfl, S⟩ := hcut
  as_aux_lemma =>
  go_upto_region 13 with fail
  obtain ⟨oL, hmL, rowL⟩ := made_obj 1128 (by omega)
  obtain ⟨oD, hmD, rowD⟩ := made_obj 48 (by omega)
  have hm1 : ∀ W : World, (Instr.makeSlice 22 (.int .i64 1128) (.int .i64 1128)).run Try.prog W = .ok (.slice (some ⟨W.heap.size, 0, none⟩) 1128 1128) (W.alloc oL) := hmL
  have hm2 : ∀ W : World, (Instr.makeSlice 22 (.int .i64 48) (.int .i64 48)).run Try.prog W = .ok (.slice (some ⟨W.heap.size, 0, none⟩) 48 48) (W.alloc oD) := hmD
  clear hmL hmD
  go_cut [23] from 24 (fun s23 wx => ∃ F g h, s23 = .pointer (some ⟨F, 0, none⟩) ∧ FrS wx F g h (fun _ => 0) ∧ NmS w ao d_o io qo so xa xd xi Q R qc sc wx ∧ w.heap.size ≤ h)
  case first =>
    as_aux_lemma =>
    go_region_with (fail)
    all_goals
      go_wp2
      go_meet
      first
      | exact ⟨_, _, _, rfl, (far1 wc oL oD rowL rowD).1.below (Below.refl _ _).drew, S.below (far1 wc oL oD rowL rowD).2.drew, by have := S.bel.size; omega⟩
      | exact ⟨_, _, _, rfl, (far2 wc oL oD rowL rowD).1.below (Below.refl _ _).drew, S.below (far2 wc oL oD rowL rowD).2.drew, by have := S.bel.size; omega⟩
      | exact ⟨_, _, _, rfl, (far3 wc oL oD rowL rowD).1.below (Below.refl _ _).drew, S.below (far3 wc oL oD rowL rowD).2.drew, by have := S.bel.size; omega⟩
      | exact ⟨_, _, _, rfl, (far4 wc oL oD rowL rowD).1.below (Below.refl _ _).drew, S.below (far4 wc oL oD rowL rowD).2.drew, by have := S.bel.size; omega⟩
      | exact ⟨_, _, _, rfl, (far5 wc oL oD rowL rowD).1.below (Below.refl _ _).drew, S.below (far5 wc oL oD rowL rowD).2.drew, by have := S.bel.size; omega⟩
      | exact ⟨_, _, _, rfl, (far6 wc oL oD rowL rowD).1.below (Below.refl _ _).drew, S.below (far6 wc oL oD rowL rowD).2.drew, by have := S.bel.size; omega⟩
  clear S hm1 hm2 rowL rowD
  obtain ⟨F, g, h, rfl, FS, S, hwh⟩ := hcut
  have B := S.bel
  clear S na nd ni
  have hst := vstoref Try.prog
  as_aux_lemma =>
  go_wp2
  go_loopg [24] 48 (fun gg s24 wr => ∃ (k : Nat) (z : Nat → Nat), k ≤ 48 ∧ gg = 48 - k ∧ s24 = .int .i64 k ∧ Hid (∀ p, p < k → z p = 4611686018427387904) ∧ FrS wr F g h z ∧ Hid (Below w.heap.size w wr))
  case atStart => exact ⟨0, _, by omega, rfl, rfl, fun p hp => by omega, FS, B⟩
  case round =>
    clear FS B
    obtain ⟨k, z, hk, hg, rfl, hz, S, hB⟩ := hrel
    have HG : Hid (gk = 48 - k) := hg
    clear hg
    obtain ⟨f0, f1, f2, _⟩ := id S.fb
    by_cases hlt : k < 48
    · have i1 : (k : Int) < 48 := by omega
      have g1 := World.rowIs.cell S.dr hlt
      have g2 := World.rowIs.frozen S.dr k
      have S2 := S.set k 4611686018427387904
      have HZ : Hid (∀ p, p < k + 1 → (if p = k then 4611686018427387904 else z p) = 4611686018427387904) := fun p hp => by
        by_cases e : p = k
        · rw [if_pos e]
        · rw [if_neg e]; exact hz.out p (by omega)
      have HB2 : Hid (Below w.heap.size w (wr.setCell ⟨h, k, none⟩ (.float .f64 4611686018427387904))) := hB.out.setCell hwh _
      clear hz
      go_wp2
      go_roundg (48 - (k + 1))
      case measure => rw [HG.out]; omega
      case rel => exact ⟨k + 1, _, by omega, rfl, by go_num, HZ, S2, HB2⟩
    · have i1 : ¬ (k : Int) < 48 := by omega
      have hz2 : ∀ p, p < 48 → z p = 4611686018427387904 := fun p hp => hz.out p (by omega)
      have hl1 : (toL' 1128 (fun _ => 0)).length = 1128 := toL'_len _ _
      have hl2 : (toL' 48 z).length = 48 := toL'_len _ _
      have cf := num_far (toL' 1128 (fun _ => 0)) (toL' 48 z) (some ⟨g, 0, none⟩) (some ⟨h, 0, none⟩) hl1 hl2 (fun i hi => toL'_at hi) (fun i hi => by rw [toL'_at hi]; exact hz2 i hi) wr (S.lr.grow hl1 (fun j hj => toL'_at hj)) (S.dr.grow hl2 (fun j hj => toL'_at hj)) (toL'_fw (fun p _ => by omega)) (toL'_fw (fun p hp => by rw [hz2 p hp]; decide))
      have B := hB.out
      clear hz hz2 hl1 hl2
      go_upto_region 19 with (go_at_call 15; refine cf.mono ?_; rintro e w1 ⟨yo, yc, ys, rfl, y1, y2, y3, y4, b1⟩)
      have YB := B3.new w1 (.int .i64 48) (.int .i64 48) (.slice yo 2304 yc) 34
      have c1 := b1.trans ((below_one w1 (.cells #[.int .i64 48, .int .i64 48, .slice yo 2304 yc] 34)).mono b1.size)
      have HY : Hid (ys.length = 2304) := y1
      have y5 := y4.below (below_one w1 (.cells #[.int .i64 48, .int .i64 48, .slice yo 2304 yc] 34))
      generalize w1.alloc (.cells #[.int .i64 48, .int .i64 48, .slice yo 2304 yc] 34) = W1 at *
      generalize w1.heap.size = P at *
      have B1 := B.trans (c1.mono B.size)
      clear b1 c1 y1 y4 B cf S f0 f1 f2 hB
      obtain ⟨oM, hmM, _⟩ := made_obj 1176 (by omega)
      obtain ⟨oN, hmN, _⟩ := made_obj 49 (by omega)
      have hm3 : ∀ W : World, (Instr.makeSlice 22 (.int .i64 1176) (.int .i64 1176)).run Try.prog W = .ok (.slice (some ⟨W.heap.size, 0, none⟩) 1176 1176) (W.alloc oM) := hmM
      have hm4 : ∀ W : World, (Instr.makeSlice 22 (.int .i64 49) (.int .i64 49)).run Try.prog W = .ok (.slice (some ⟨W.heap.size, 0, none⟩) 49 49) (W.alloc oN) := hmN
      clear hmM hmN
      go_cut [25, 26, 27, 28] from 29 (fun s25 s26 s27 s28 wx => ∃ V vo vc, s25 = .pointer (some ⟨P, 0, none⟩) ∧ s26 = .int .i64 0 ∧ s27 = .pointer (some ⟨V, 0, none⟩) ∧ s28 = .int .i64 4 ∧ B3 wx V (.int .i64 0) (.int .i64 0) (.slice vo 0 vc) ∧ Below W1.heap.size W1 wx)
      case first =>
        as_aux_lemma =>
        go_region_with (first
          | (go_at_call 15; refine (num_v _ _ _).mono ?_; rintro e w2 ⟨vo, vc, rfl, b2⟩; first
            | (have NB := (((B3.newAt (w := W1.drew) (n := W1.heap.size) rfl (.int .i64 0) (.int .i64 0) (.slice none 0 0) 34).alloc _).alloc _).below b2; obtain ⟨t0, t1, t2, s0, s1, s2, _⟩ := id NB)
            | (have NB := ((B3.newAt (w := W1.drew.alloc oM) (n := W1.heap.size + 1) (asz _ _) (.int .i64 0) (.int .i64 0) (.slice none 0 0) 34).alloc _).below b2; obtain ⟨t0, t1, t2, s0, s1, s2, _⟩ := id NB)
            | (have NB := ((B3.newAt (w := W1.drew.alloc oN) (n := W1.heap.size + 1) (asz _ _) (.int .i64 0) (.int .i64 0) (.slice none 0 0) 34).alloc _).below b2; obtain ⟨t0, t1, t2, s0, s1, s2, _⟩ := id NB)
            | (have NB := (B3.newAt (w := (W1.drew.alloc oM).alloc oN) (n := W1.heap.size + 1 + 1) (by rw [asz, asz]; rfl) (.int .i64 0) (.int .i64 0) (.slice none 0 0) 34).below b2; obtain ⟨t0, t1, t2, s0, s1, s2, _⟩ := id NB)
            | (have NB := (B3.newAt (w := (W1.drew.alloc oN).alloc oM) (n := W1.heap.size + 1 + 1) (by rw [asz, asz]; rfl) (.int .i64 0) (.int .i64 0) (.slice none 0 0) 34).below b2; obtain ⟨t0, t1, t2, s0, s1, s2, _⟩ := id NB)
            | (have NB := (((B3.newAt (w := W1) (n := W1.heap.size) rfl (.int .i64 0) (.int .i64 0) (.slice none 0 0) 34).alloc _).alloc _).below b2; obtain ⟨t0, t1, t2, s0, s1, s2, _⟩ := id NB)
            | (have NB := ((B3.newAt (w := W1.alloc oM) (n := W1.heap.size + 1) (asz _ _) (.int .i64 0) (.int .i64 0) (.slice none 0 0) 34).alloc _).below b2; obtain ⟨t0, t1, t2, s0, s1, s2, _⟩ := id NB)
            | (have NB := ((B3.newAt (w := W1.alloc oN) (n := W1.heap.size + 1) (asz _ _) (.int .i64 0) (.int .i64 0) (.slice none 0 0) 34).alloc _).below b2; obtain ⟨t0, t1, t2, s0, s1, s2, _⟩ := id NB)
            | (have NB := (B3.newAt (w := (W1.alloc oM).alloc oN) (n := W1.heap.size + 1 + 1) (by rw [asz, asz]; rfl) (.int .i64 0) (.int .i64 0) (.slice none 0 0) 34).below b2; obtain ⟨t0, t1, t2, s0, s1, s2, _⟩ := id NB)
            | (have NB := (B3.newAt (w := (W1.alloc oN).alloc oM) (n := W1.heap.size + 1 + 1) (by rw [asz, asz]; rfl) (.int .i64 0) (.int .i64 0) (.slice none 0 0) 34).below b2; obtain ⟨t0, t1, t2, s0, s1, s2, _⟩ := id NB)
            | skip))
        all_goals
          go_wp2
          go_meet
          first
          | exact ⟨_, vo, vc, rfl, rfl, rfl, rfl, B3.new _ _ _ _ _, (old_two (udr b2)).trans ((below_one _ _).mono (old_two (udr b2)).size)⟩
          | exact ⟨_, vo, vc, rfl, rfl, rfl, rfl, B3.put3S NB _ _ _, set_three (old_one (old_two (udr b2))) (by omega) _ _ _⟩
      clear hm3 hm4
      obtain ⟨V, vo, vc, rfl, rfl, rfl, rfl, VB, bV⟩ := hcut
      replace YB := YB.below bV
      replace y5 := y5.below bV
      have B2 := B1.trans (bV.mono B1.size)
      clear bV B1
      as_aux_lemma =>
      go_upto_region 21 with (go_at_call 10; refine (num_o (-1) 4 (by kernel_rfl) _).mono ?_; rintro e w3 ⟨oo', oc', rfl, b3⟩)
      replace YB := YB.below b3
      replace VB := VB.below b3
      replace y5 := y5.below b3
      have B3' := B2.trans (b3.mono B2.size)
      clear b3 B2
      obtain ⟨p0, p1, p2, _⟩ := id YB
      obtain ⟨r0, r1, r2, _⟩ := id VB
      rcases y5 with hy | ⟨yb, yoff, rfl, hyc⟩
      · have := HY.out; omega
      have g0 : w3.cell? ⟨yb, yoff, none⟩ = some (.float .f64 4602678819172646912) := by
        have := hyc 0 (by rw [HY.out]; omega)
        rw [y2] at this
        exact this
      have g1 : w3.cell? ⟨yb, yoff + 2303, none⟩ = some (.float .f64 4602678819172646912) := by
        have := hyc 2303 (by rw [HY.out]; omega)
        rw [y3] at this
        exact this
      have o1 : (FloatKind.f64.format.order 4602678819172646912 4602678819172646912 == some .eq) = true := by kernel_rfl
      clear hyc y2 y3 YB VB
      go_wp2_with (go_at_call 18; refine (awake13 _).mono ?_; rintro e w6 ⟨rfl, b6⟩)
      go_ret
      exact ⟨rfl, B3'.trans (b6.mono B3'.size)⟩
end Go.Proofs.Ytclldmdhpojciaa
