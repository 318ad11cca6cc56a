/- The kit's SameSprings of springs that are alike. -/
import Derived.Test.YtfipmopmpacdaaaGreatDoorBG
import Derived.Test.YtfipmopmpacdaaaGreatDoorBK
import Derived.Test.YtfipmopmpacdaaaGreatDoorZj
import Derived.Test.YtfipmopmpacdaaaGreatDoorJC
namespace Go.Proofs.YtfipmopmpacdaaaGreatDoor
open Go.RowKit
theorem aw19_cp (a b : Bool) : cpA [nA, nB] [nM a b] = (0, 0) := by cases a <;> cases b <;> kernel_rfl
theorem aw19_apt : aptA nA nB = (3, 4, 25) := by decide
theorem aw19_near : (axA (aR (l2F nA nB)) (l2F nA nB) 4611686018427387904 4617315517961601024).2 = 4590429028186199163 := by kernel_rfl
theorem aw19_unk : unkA [nA, nB] [nM false true] = (([(0, 1, 2), (3, 4, -1)], 5), 0) := by kernel_rfl
theorem aw19_sg : ∃ AX AC EN : Am, sgAll (fun _ => spK (nM false false) nA nB) 1 = [⟨0, 1, ⟨-3, -4, 0, 3, 4, 0⟩, AX⟩, ⟨0, 2, ⟨-8, 6, 25, 8, -6, 25⟩, AC⟩, ⟨0, 3, ⟨0, 0, 1, 0, 0, -1⟩, EN⟩] ∧ AX.2 = 4590429028186199163 := by
 refine ⟨axA (aR (l2F nA nB)) (l2F nA nB) 4611686018427387904 4617315517961601024, acA (aR (l2F nA nB)) (l2F nA nB) 4611686018427387904 4619567317775286272, enA (aR (l2F nA nB)) 4611686018427387904 4619567317775286272, ?_, aw19_near⟩
 have e : spK (nM false false) nA nB = [⟨0, 1, ⟨-3, -4, 0, 3, 4, 0⟩, axA (aR (l2F nA nB)) (l2F nA nB) 4611686018427387904 4617315517961601024⟩, ⟨0, 2, ⟨-8, 6, 25, 8, -6, 25⟩, acA (aR (l2F nA nB)) (l2F nA nB) 4611686018427387904 4619567317775286272⟩, ⟨0, 3, ⟨0, 0, 1, 0, 0, -1⟩, enA (aR (l2F nA nB)) 4611686018427387904 4619567317775286272⟩] := by
  rw [spK_is, aw19_apt]
  simp [spL, nM]
 simp only [sgAll, e]
 rfl
theorem jw_nA : JW nA := ⟨by decide, by decide, by decide, by decide, by decide, by decide⟩
theorem jw_nB : JW nB := ⟨by decide, by decide, by decide, by decide, by decide, by decide⟩
theorem jws_n : JWs [nA, nB] := jws_two jw_nA jw_nB
theorem mw_n (a b : Bool) : MW (nM a b) := by
 cases a <;> cases b <;> exact ⟨by decide, by decide, by decide, by decide, by decide, by decide, by decide, by decide, by decide⟩
theorem mws_n (a b : Bool) : MWs [nM a b] := fun m hm => by
 obtain rfl : m = nM a b := by simpa using hm
 exact mw_n a b
theorem aw19_springs (ao mo : Option Addr) (ac mc : Nat) (w : World) (hr : JRow w ao [nA, nB]) (mr : MRow w mo [nM false false]) (hT : TabW w) :
  Calls Tryz.prog 5 #[.agg #[.slice ao 2 ac, .slice mo 1 mc]] w (SgsGave w (sgAll (fun _ => spK (nM false false) nA nB) 1)) :=
 bsprings_any [nA, nB] [nM false false] ao mo ac mc w hr jws_n (by simp) mr (mws_n false false) (by simp) (aw19_cp false false) (fun _ => spK (nM false false) nA nB)
  (fun _ => by rw [spK_is]; simp [spL, nM])
  (fun k hk => by
   obtain rfl : k = 0 := by simp at hk; omega
   exact ⟨⟨by decide, by decide⟩, by decide, by decide⟩)
  (fun k hk W hW => by
   obtain rfl : k = 0 := by simp at hk; omega
   exact springs_any (nM false false) (mw_n false false) nA nB (by rw [aw19_apt]; decide) (by decide) (by decide) (fun _ => by decide) W hW) hT
theorem aw19_unknowns (ao mo : Option Addr) (ac mc : Nat) (w : World) (hr : JRow w ao [nA, nB]) (mr : MRow w mo [nM false true]) :
  Calls Tryz.prog 27 #[.agg #[.slice ao 2 ac, .slice mo 1 mc]] w (GavePl w (([(0, 1, 2), (3, 4, -1)], 5), 0)) := by
 have h := bunk_of [nA, nB] [nM false true] ao mo ac mc w hr jws_n (by simp) mr (mws_n false true) (by simp) fun _ w' hb => by
  refine (unknowns_n ao mo ac mc w' (hr.below hb) (mr.below hb)).mono ?_
  rintro e w'' ⟨g, rfl, p, b⟩
  exact ⟨g, rfl, p, b⟩
 rw [aw19_unk] at h
 exact h
set_option maxHeartbeats 2000000 in
theorem beam19_any (a b : Bool) (w : World) : Calls Tryz.prog 26 #[.bool a, .bool b] w fun e w' => e = .returned (.agg #[.string ⟨#[]⟩, .int .u8 2, .int .i64 0, .int .i64 0, .bool a, .bool b, .float .f64 0, .float .f64 0, .float .f64 4619567317775286272]) ∧ Below w.heap.size w w' := by
 have hst := run_storef Tryz.prog
 have hb0 : Below w.heap.size w (w.alloc (mO ⟨⟨#[]⟩, 2, 0, 0, a, b, 0, 0, 4619567317775286272⟩ 38)) := (Below.refl _ _).alloc (Nat.le_refl _) _
 simp only [mO] at hb0
 go_enter Tryz.func26, Tryz.ntmps26
 go_wp2
 exact bodyPost_ret (v := .agg #[.string ⟨#[]⟩, .int .u8 2, .int .i64 0, .int .i64 0, .bool a, .bool b, .float .f64 0, .float .f64 0, .float .f64 4619567317775286272]) (by simp [results, Tryz.results26, go_sem]) rfl ⟨rfl, hb0⟩
def ThreeT (w : World) (a b : Bool) (e : Ending) (w' : World) : Prop := ∃ g1 g2, e = .returned (.agg #[.slice (some ⟨g1, 0, none⟩) 2 2, .slice (some ⟨g2, 0, none⟩) 1 1]) ∧ JRow w' (some ⟨g1, 0, none⟩) [nA, nB] ∧ MRow w' (some ⟨g2, 0, none⟩) [nM a b] ∧ Below w.heap.size w w'
set_option maxHeartbeats 4000000 in
theorem three19_any (a b : Bool) (w : World) : Calls Tryz.prog 25 #[.agg #[.string ⟨#[]⟩, .int .u8 2, .int .i64 0, .int .i64 0, .bool a, .bool b, .float .f64 0, .float .f64 0, .float .f64 4619567317775286272]] w (ThreeT w a b) := by
 have hst := run_storef Tryz.prog
 go_enter Tryz.func25, Tryz.ntmps25
 go_wp2
 refine bodyPost_ret (v := .agg #[.slice (some ⟨w.heap.size + 1 + 1, 0, none⟩) 2 2, .slice (some ⟨w.heap.size + 1 + 1 + 1, 0, none⟩) 1 1]) (by simp [results, Tryz.results25, go_sem]) rfl ⟨w.heap.size + 1 + 1, w.heap.size + 1 + 1 + 1, rfl, ?_, ?_, ?_⟩
 ·refine Or.inr ⟨_, 0, rfl, fun k hk => ?_⟩
  rcases (show k = 0 ∨ k = 1 by simp at hk; omega) with rfl | rfl
  ·refine ⟨by simp [go_sem, nA], by simp [go_sem, nA], by simp [go_sem, nA], by simp [go_sem, nA]⟩
  ·refine ⟨by simp [go_sem, nB], by simp [go_sem, nB], by simp [go_sem, nB], by simp [go_sem, nB]⟩
 ·refine Or.inr ⟨_, 0, rfl, fun k hk => ?_⟩
  obtain rfl : k = 0 := by simp at hk; omega
  exact ⟨by simp [go_sem, nM], by simp [go_sem, nM], by simp [go_sem, nM], by simp [go_sem, nM], by simp [go_sem, nM], by simp [go_sem, nM], by simp [go_sem, nM], by simp [go_sem, nM], by simp [go_sem, nM]⟩
 ·exact ((((Below.refl _ _).alloc (Nat.le_refl _) _).alloc (by simp) _).alloc (by simp; omega) _).alloc (by simp; omega) _
theorem aw19_eq6 (w : World) : (binOp .eql 41 (.agg #[.int .i64 (-8), .int .i64 6, .int .i64 25, .int .i64 8, .int .i64 (-6), .int .i64 25]) (.agg #[.int .i64 (-8), .int .i64 6, .int .i64 25, .int .i64 8, .int .i64 (-6), .int .i64 25])).run Tryz.prog w = .ok (.bool true) w := by kernel_rfl
theorem aw19_eq3 (w : World) : (binOp .eql 77 (.agg #[.int .i64 3, .int .i64 4, .int .i64 (-1)]) (.agg #[.int .i64 3, .int .i64 4, .int .i64 (-1)])).run Tryz.prog w = .ok (.bool true) w := by kernel_rfl
set_option maxRecDepth 100000 in
set_option maxHeartbeats 8000000 in
theorem bawake_any (w : World) (hT : TabW w) : Calls Tryz.prog 10 #[] w fun e w' => e = .returned (.bool true) ∧ Below w.heap.size w w' := by
 have e6 := aw19_eq6
 have e3 := aw19_eq3
 obtain ⟨AX, AC, EN, hl, hax⟩ := aw19_sg
 have cS := aw19_springs
 rw [hl] at cS
 clear hl
 go_enter Tryz.func10, Tryz.ntmps10
 go_upto_region 2 with (first
  | (go_at_call 26; refine (beam19_any false false _).mono ?_; rintro e w1 ⟨rfl, b1⟩)
  | (go_at_call 25; refine (three19_any false false _).mono ?_; rintro e w2 ⟨g1, g2, rfl, r2, m2, b2⟩; have b12 := b1.trans (b2.mono b1.size); have T2 := tabW_below hT b12)
  | (go_at_call 5; refine (cS _ _ _ _ _ r2 m2 T2).mono ?_; rintro e w3 ⟨lo, lc, rfl, rs, b3⟩; have b13 := b12.trans (b3.mono b12.size)))
 have sr : ∃ b off, lo = some ⟨b, off, none⟩ ∧ SAt w3 b (off + 0 * 11) ⟨0, 1, ⟨-3, -4, 0, 3, 4, 0⟩, AX⟩ ∧ SAt w3 b (off + 1 * 11) ⟨0, 2, ⟨-8, 6, 25, 8, -6, 25⟩, AC⟩ := by
  rcases rs with h | ⟨b, off, e, hc⟩
  ·simp at h
  ·exact ⟨b, off, e, hc 0 (by simp), hc 1 (by simp)⟩
 obtain ⟨sb, so, rfl, s0, s1⟩ := sr
 clear rs r2 m2 T2 b12 b2 b3 b1 cS
 go_upto_region 3 with (first
  | (go_at_call 26; refine (beam19_any false true _).mono ?_; rintro e w4 ⟨rfl, b4⟩)
  | (go_at_call 25; refine (three19_any false true _).mono ?_; rintro e w5 ⟨g3, g4, rfl, r5, m5, b5⟩; have b45 := b4.trans (b5.mono b4.size))
  | (go_at_call 27; refine (aw19_unknowns _ _ _ _ _ r5 m5).mono ?_; rintro e w6 ⟨uo, uc, rfl, pr, b6⟩; have b46 := b45.trans (b6.mono b45.size)))
 have ur : ∃ b off, uo = some ⟨b, off, none⟩ ∧ w6.cell? ⟨b, off + 1 * 3, none⟩ = some (.int .i64 3) ∧ w6.cell? ⟨b, off + 1 * 3 + 1, none⟩ = some (.int .i64 4) ∧ w6.cell? ⟨b, off + 1 * 3 + 2, none⟩ = some (.int .i64 (-1)) := by
  rcases pr with h | ⟨b, off, e, hc⟩
  ·simp at h
  ·exact ⟨b, off, e, hc 1 (by simp)⟩
 obtain ⟨ub, uf, rfl, u0, u1, u2⟩ := ur
 have PB := PBox.new w6 (.slice (some ⟨ub, uf, none⟩) 2 uc) (.int .i64 5) 74
 have st : Below w6.heap.size w6 (w6.alloc (.cells #[.slice (some ⟨ub, uf, none⟩) 2 uc, .int .i64 5] 74)) := (Below.refl _ _).alloc (Nat.le_refl _) _
 have b3w := b46.trans (st.mono b46.size)
 have t0 := s0.below b3w
 have t1 := s1.below b3w
 have v0 := (st.cell (p := ⟨ub, uf + 1 * 3, none⟩) (World.block_lt_of_cell? _ _ u0)).trans u0
 have v1 := (st.cell (p := ⟨ub, uf + 1 * 3 + 1, none⟩) (World.block_lt_of_cell? _ _ u1)).trans u1
 have v2 := (st.cell (p := ⟨ub, uf + 1 * 3 + 2, none⟩) (World.block_lt_of_cell? _ _ u2)).trans u2
 have hbw := b13.trans (b3w.mono b13.size)
 have near := t0.c10
 obtain ⟨_, _, c2, c3, c4, c5, c6, c7, _, _, _⟩ := t1
 simp only at c2 c3 c4 c5 c6 c7 near
 rw [hax] at near
 simp only [Nat.one_mul, Nat.zero_mul, Nat.add_zero] at c2 c3 c4 c5 c6 c7 near v0 v1 v2
 clear pr r5 m5 b4 b5 b6 b45 b46 st b3w s0 s1 t0 u0 u1 u2 hax b13 hT
 generalize w6.alloc (.cells #[.slice (some ⟨ub, uf, none⟩) 2 uc, .int .i64 5] 74) = W at *
 generalize w6.heap.size = pb at *
 obtain ⟨p0, p1, _, _, _⟩ := PB
 have heq : FloatKind.f64.format.order 4590429028186199163 4590429028186199163 = some Ordering.eq := by kernel_rfl
 go_wp2
 go_ret
 exact ⟨rfl, hbw⟩
def AmW (a : Am) : Prop := a.1.1 < 18446744073709551616 ∧ a.1.2 < 18446744073709551616 ∧ a.2 < 18446744073709551616
theorem Amt.w {a : Am} {K : Nat × Nat} (h : Amt a K) : AmW a := ⟨h.rt.1, h.rt.2.1, h.fn.1⟩
end Go.Proofs.YtfipmopmpacdaaaGreatDoor
