/- SpanReckons, whatever two spans it is given: the walk. (Written by genreckons.py.) -/
import Derived.Test.YtiaeannkkjhkaaaGreatDoorZk
namespace Go.Proofs.YtiaeannkkjhkaaaGreatDoor
open Go.RowKit

set_option maxRecDepth 100000 in
set_option maxHeartbeats 4000000 in
theorem law_spanreckons (a b c d : Nat) (ha : a < 18446744073709551616) (hb : b < 18446744073709551616) (hc : c < 18446744073709551616) (hd : d < 18446744073709551616) (w : World) (hT : TabW w) :
    Calls Tryz.prog 3 #[spV a b, spV c d] w fun e w' => e = .returned (.bool true) ∧ Below w.heap.size w w' := by
  obtain ⟨ls, hhs, ns, mls, mhs, cs1, cs2⟩ := addS_both a b c d ha hb hc hd
  have ts := fun w => told_self ls hhs ns mls mhs w
  obtain ⟨ld, hhd, nd, mld, mhd, cd1, cd2⟩ := subS_both a b c d ha hb hc hd
  have td := fun w => told_self ld hhd nd mld mhd w
  obtain ⟨lp, hhp, np, mlp, mhp, cp1, cp2⟩ := mulS_both a b c d ha hb hc hd
  have tp := fun w => told_self lp hhp np mlp mhp w
  obtain ⟨lq, hhq, nq, mlq, mhq, cq1, cq2⟩ := divS_both a b c d ha hb hc hd
  have tq := fun w => told_self lq hhq nq mlq mhq w
  have hst := run_storef Tryz.prog
  go_enter Tryz.func3, Tryz.ntmps3
  go_upto_region 3 with (go_at_call 6; refine (sawake _).mono ?_; rintro e v0 ⟨rfl, b0⟩; have A := ((Bx.new _ _ _ _).alloc _).below b0; have C := (Bx.new1 _ _ _ _ _).below b0; have Z := old2 b0; have T := tabW_below hT Z; obtain ⟨xa0, xa1, _⟩ := A; obtain ⟨xc0, xc1, _⟩ := C; have A := ((Bx.new _ _ _ _).alloc _).below b0; have C := (Bx.new1 _ _ _ _ _).below b0)
  go_upto_region 4 with (go_at_call 7; refine (cs1 _ T).mono ?_; rintro e v1 ⟨rfl, b1⟩; have A := A.below b1; have C := C.below b1; have Z := Z.trans (b1.mono Z.size); obtain ⟨xa0, xa1, _⟩ := A.alloc (.cells #[.float .f64 ls, .float .f64 hhs] 24); obtain ⟨xc0, xc1, _⟩ := C.alloc (.cells #[.float .f64 ls, .float .f64 hhs] 24); have T := tabW_alloc (tabW_below hT Z) (.cells #[.float .f64 ls, .float .f64 hhs] 24))
  go_upto_region 5 with (go_at_call 8; refine (cs2 _ T).mono ?_; rintro e v2 ⟨rfl, b2⟩; have A := (A.alloc _).below b2; have C := (C.alloc _).below b2; have B0 := (Bx.new v1 _ _ _).below b2; have Z := bstep Z b2; obtain ⟨xa0, xa1, _⟩ := A.alloc (.cells #[.float .f64 ls, .float .f64 hhs] 24); obtain ⟨xc0, xc1, _⟩ := C.alloc (.cells #[.float .f64 ls, .float .f64 hhs] 24); have T := tabW_alloc (tabW_below hT Z) (.cells #[.float .f64 ls, .float .f64 hhs] 24))
  go_upto_region 6 with (go_at_call 9; refine (cd1 _ T).mono ?_; rintro e v3 ⟨rfl, b3⟩; have A := (A.alloc _).below b3; have C := (C.alloc _).below b3; have B0 := (B0.alloc _).below b3; have B1 := (Bx.new v2 _ _ _).below b3; have Z := bstep Z b3; obtain ⟨xa0, xa1, _⟩ := A.alloc (.cells #[.float .f64 ld, .float .f64 hhd] 24); obtain ⟨xc0, xc1, _⟩ := C.alloc (.cells #[.float .f64 ld, .float .f64 hhd] 24); have T := tabW_alloc (tabW_below hT Z) (.cells #[.float .f64 ld, .float .f64 hhd] 24))
  go_upto_region 7 with (go_at_call 10; refine (cd2 _ T).mono ?_; rintro e v4 ⟨rfl, b4⟩; have A := (A.alloc _).below b4; have C := (C.alloc _).below b4; have B0 := (B0.alloc _).below b4; have B1 := (B1.alloc _).below b4; have B2 := (Bx.new v3 _ _ _).below b4; have Z := bstep Z b4; obtain ⟨xa0, xa1, _⟩ := A.alloc (.cells #[.float .f64 ld, .float .f64 hhd] 24); obtain ⟨xc0, xc1, _⟩ := C.alloc (.cells #[.float .f64 ld, .float .f64 hhd] 24); have T := tabW_alloc (tabW_below hT Z) (.cells #[.float .f64 ld, .float .f64 hhd] 24))
  go_upto_region 8 with (go_at_call 11; refine (cp1 _ T).mono ?_; rintro e v5 ⟨rfl, b5⟩; have A := (A.alloc _).below b5; have C := (C.alloc _).below b5; have B0 := (B0.alloc _).below b5; have B1 := (B1.alloc _).below b5; have B2 := (B2.alloc _).below b5; have B3 := (Bx.new v4 _ _ _).below b5; have Z := bstep Z b5; obtain ⟨xa0, xa1, _⟩ := A.alloc (.cells #[.float .f64 lp, .float .f64 hhp] 24); obtain ⟨xc0, xc1, _⟩ := C.alloc (.cells #[.float .f64 lp, .float .f64 hhp] 24); have T := tabW_alloc (tabW_below hT Z) (.cells #[.float .f64 lp, .float .f64 hhp] 24))
  go_upto_region 9 with (go_at_call 12; refine (cp2 _ T).mono ?_; rintro e v6 ⟨rfl, b6⟩; have A := (A.alloc _).below b6; have C := (C.alloc _).below b6; have B0 := (B0.alloc _).below b6; have B1 := (B1.alloc _).below b6; have B2 := (B2.alloc _).below b6; have B3 := (B3.alloc _).below b6; have B4 := (Bx.new v5 _ _ _).below b6; have Z := bstep Z b6; obtain ⟨xa0, xa1, _⟩ := A.alloc (.cells #[.float .f64 lp, .float .f64 hhp] 24); obtain ⟨xc0, xc1, _⟩ := C.alloc (.cells #[.float .f64 lp, .float .f64 hhp] 24); have T := tabW_alloc (tabW_below hT Z) (.cells #[.float .f64 lp, .float .f64 hhp] 24))
  go_upto_region 10 with (go_at_call 13; refine (cq1 _ T).mono ?_; rintro e v7 ⟨rfl, b7⟩; have A := (A.alloc _).below b7; have C := (C.alloc _).below b7; have B0 := (B0.alloc _).below b7; have B1 := (B1.alloc _).below b7; have B2 := (B2.alloc _).below b7; have B3 := (B3.alloc _).below b7; have B4 := (B4.alloc _).below b7; have B5 := (Bx.new v6 _ _ _).below b7; have Z := bstep Z b7; obtain ⟨xa0, xa1, _⟩ := A.alloc (.cells #[.float .f64 lq, .float .f64 hhq] 24); obtain ⟨xc0, xc1, _⟩ := C.alloc (.cells #[.float .f64 lq, .float .f64 hhq] 24); have T := tabW_alloc (tabW_below hT Z) (.cells #[.float .f64 lq, .float .f64 hhq] 24))
  go_upto_region 11 with (go_at_call 14; refine (cq2 _ T).mono ?_; rintro e v8 ⟨rfl, b8⟩; have A := (A.alloc _).below b8; have C := (C.alloc _).below b8; have B0 := (B0.alloc _).below b8; have B1 := (B1.alloc _).below b8; have B2 := (B2.alloc _).below b8; have B3 := (B3.alloc _).below b8; have B4 := (B4.alloc _).below b8; have B5 := (B5.alloc _).below b8; have B6 := (Bx.new v7 _ _ _).below b8; have Z := bstep Z b8; obtain ⟨xa0, xa1, _⟩ := A.alloc (.cells #[.float .f64 lq, .float .f64 hhq] 24); obtain ⟨xc0, xc1, _⟩ := C.alloc (.cells #[.float .f64 lq, .float .f64 hhq] 24); have T := tabW_alloc (tabW_below hT Z) (.cells #[.float .f64 lq, .float .f64 hhq] 24))
  clear xa0 xa1 xc0 xc1
  have B0 := B0.alloc (.cells #[.float .f64 lq, .float .f64 hhq] 24)
  have B1 := B1.alloc (.cells #[.float .f64 lq, .float .f64 hhq] 24)
  have B2 := B2.alloc (.cells #[.float .f64 lq, .float .f64 hhq] 24)
  have B3 := B3.alloc (.cells #[.float .f64 lq, .float .f64 hhq] 24)
  have B4 := B4.alloc (.cells #[.float .f64 lq, .float .f64 hhq] 24)
  have B5 := B5.alloc (.cells #[.float .f64 lq, .float .f64 hhq] 24)
  have B6 := B6.alloc (.cells #[.float .f64 lq, .float .f64 hhq] 24)
  have B7 := Bx.new v8 (.float .f64 lq) (.float .f64 hhq) 24
  have Z := Z.trans (((Below.refl _ _).alloc (Nat.le_refl _) (.cells #[.float .f64 lq, .float .f64 hhq] 24)).mono Z.size)
  generalize (v8.alloc (.cells #[.float .f64 lq, .float .f64 hhq] 24)) = W at *
  clear A C T
  generalize v1.heap.size = q0 at *
  generalize v2.heap.size = q1 at *
  generalize v3.heap.size = q2 at *
  generalize v4.heap.size = q3 at *
  generalize v5.heap.size = q4 at *
  generalize v6.heap.size = q5 at *
  generalize v7.heap.size = q6 at *
  generalize v8.heap.size = q7 at *
  have k0 := B0.1
  have j0 := B0.2.1
  have k1 := B1.1
  have j1 := B1.2.1
  have k2 := B2.1
  have j2 := B2.2.1
  have k3 := B3.1
  have j3 := B3.2.1
  have k4 := B4.1
  have j4 := B4.2.1
  have k5 := B5.1
  have j5 := B5.2.1
  have k6 := B6.1
  have j6 := B6.2.1
  have k7 := B7.1
  have j7 := B7.2.1
  go_wp2_with (first
    | (go_at_call_of 15 (Value.agg #[Value.float FloatKind.f64 ls, Value.float FloatKind.f64 hhs]); refine (ts _).mono ?_; rintro e y0 ⟨rfl, w0⟩; have Y := w0; have k2 := (B2.below Y).1; have j2 := (B2.below Y).2.1; have k3 := (B3.below Y).1; have j3 := (B3.below Y).2.1; have k4 := (B4.below Y).1; have j4 := (B4.below Y).2.1; have k5 := (B5.below Y).1; have j5 := (B5.below Y).2.1; have k6 := (B6.below Y).1; have j6 := (B6.below Y).2.1; have k7 := (B7.below Y).1; have j7 := (B7.below Y).2.1)
    | (go_at_call_of 15 (Value.agg #[Value.float FloatKind.f64 ld, Value.float FloatKind.f64 hhd]); refine (td _).mono ?_; rintro e y1 ⟨rfl, w1⟩; have Y := Y.trans (w1.mono Y.size); have k4 := (B4.below Y).1; have j4 := (B4.below Y).2.1; have k5 := (B5.below Y).1; have j5 := (B5.below Y).2.1; have k6 := (B6.below Y).1; have j6 := (B6.below Y).2.1; have k7 := (B7.below Y).1; have j7 := (B7.below Y).2.1)
    | (go_at_call_of 15 (Value.agg #[Value.float FloatKind.f64 lp, Value.float FloatKind.f64 hhp]); refine (tp _).mono ?_; rintro e y2 ⟨rfl, w2⟩; have Y := Y.trans (w2.mono Y.size); have k6 := (B6.below Y).1; have j6 := (B6.below Y).2.1; have k7 := (B7.below Y).1; have j7 := (B7.below Y).2.1)
    | (go_at_call_of 15 (Value.agg #[Value.float FloatKind.f64 lq, Value.float FloatKind.f64 hhq]); refine (tq _).mono ?_; rintro e y3 ⟨rfl, w3⟩; have Y := Y.trans (w3.mono Y.size)))
  go_ret
  exact ⟨rfl, Z.trans (Y.mono Z.size)⟩
end Go.Proofs.YtiaeannkkjhkaaaGreatDoor
