/- BarsChecks: the walk. -/
import Derived.Test.YtomohmjjaijlbaaGreatDoorBG
import Derived.Test.YtomohmjjaijlbaaGreatDoorBH
import Derived.Test.YtomohmjjaijlbaaGreatDoorBD
import Derived.Test.YtomohmjjaijlbaaGreatDoorBB
namespace Go.Proofs.YtomohmjjaijlbaaGreatDoor
open Go.RowKit

def nA : Jn := (⟨#[97]⟩, 0, 0, 0)
def nB : Jn := (⟨#[98]⟩, 3, 4, 0)
def nM (a b : Bool) : Mb := ⟨⟨#[109]⟩, 2, 0, 1, a, b, 4611686018427387904, 4617315517961601024, 4619567317775286272⟩
theorem aw19_cp (a b : Bool) : cpA [nA, nB] [nM a b] = (0, 0) := by cases a <;> cases b <;> kernel_rfl
theorem aw19_apt : aptA nA nB = (3, 4, 25) := by decide
theorem aw19_near : (axA (aR (l2F nA nB)) (l2F nA nB) 4611686018427387904 4617315517961601024).2 = 4590429028186199163 := by kernel_rfl
theorem aw19_unk : unkA [nA, nB] [nM false true] = (([(0, 1, 2), (3, 4, -1)], 5), 0) := by kernel_rfl
theorem aw19_sg : ∃ AX AC EN : Am, sgAll (fun _ => spK (nM false false) nA nB) 1 = [⟨0, 1, ⟨-3, -4, 0, 3, 4, 0⟩, AX⟩, ⟨0, 2, ⟨-8, 6, 25, 8, -6, 25⟩, AC⟩, ⟨0, 3, ⟨0, 0, 1, 0, 0, -1⟩, EN⟩] ∧ AX.2 = 4590429028186199163 := by
  refine ⟨axA (aR (l2F nA nB)) (l2F nA nB) 4611686018427387904 4617315517961601024, acA (aR (l2F nA nB)) (l2F nA nB) 4611686018427387904 4619567317775286272, enA (aR (l2F nA nB)) 4611686018427387904 4619567317775286272, ?_, aw19_near⟩
  have e : spK (nM false false) nA nB = [⟨0, 1, ⟨-3, -4, 0, 3, 4, 0⟩, axA (aR (l2F nA nB)) (l2F nA nB) 4611686018427387904 4617315517961601024⟩, ⟨0, 2, ⟨-8, 6, 25, 8, -6, 25⟩, acA (aR (l2F nA nB)) (l2F nA nB) 4611686018427387904 4619567317775286272⟩, ⟨0, 3, ⟨0, 0, 1, 0, 0, -1⟩, enA (aR (l2F nA nB)) 4611686018427387904 4619567317775286272⟩] := by
    rw [spK_is, aw19_apt]
    simp [spL, nM]
  simp only [sgAll, e]
  rfl
theorem jw_nA : JW nA := ⟨by decide, by decide, by decide, by decide, by decide, by decide⟩
theorem jw_nB : JW nB := ⟨by decide, by decide, by decide, by decide, by decide, by decide⟩
theorem jws_n : JWs [nA, nB] := jws_two jw_nA jw_nB
theorem mw_n (a b : Bool) : MW (nM a b) := by
  cases a <;> cases b <;> exact ⟨by decide, by decide, by decide, by decide, by decide, by decide, by decide, by decide, by decide⟩
theorem mws_n (a b : Bool) : MWs [nM a b] := fun m hm => by
  obtain rfl : m = nM a b := by simpa using hm
  exact mw_n a b
theorem aw19_springs (ao mo : Option Addr) (ac mc : Nat) (w : World) (hr : JRow w ao [nA, nB]) (mr : MRow w mo [nM false false]) (hT : TabW w) :
    Calls Tryz.prog 23 #[.agg #[.slice ao 2 ac, .slice mo 1 mc]] w (SgsGave w (sgAll (fun _ => spK (nM false false) nA nB) 1)) :=
  bsprings_any [nA, nB] [nM false false] ao mo ac mc w hr jws_n (by simp) mr (mws_n false false) (by simp) (aw19_cp false false) (fun _ => spK (nM false false) nA nB)
    (fun _ => by rw [spK_is]; simp [spL, nM])
    (fun k hk => by
      obtain rfl : k = 0 := by simp at hk; omega
      exact ⟨⟨by decide, by decide⟩, by decide, by decide⟩)
    (fun k hk W hW => by
      obtain rfl : k = 0 := by simp at hk; omega
      exact springs_any (nM false false) (mw_n false false) nA nB (by rw [aw19_apt]; decide) (by decide) (by decide) (fun _ => by decide) W hW) hT
theorem aw19_unknowns (ao mo : Option Addr) (ac mc : Nat) (w : World) (hr : JRow w ao [nA, nB]) (mr : MRow w mo [nM false true]) :
    Calls Tryz.prog 7 #[.agg #[.slice ao 2 ac, .slice mo 1 mc]] w (GavePl w (([(0, 1, 2), (3, 4, -1)], 5), 0)) := by
  have h := bunk_any [nA, nB] [nM false true] ao mo ac mc w hr jws_n (by simp) mr (mws_n false true) (by simp)
  rw [aw19_unk] at h
  exact h
set_option maxHeartbeats 2000000 in
theorem beam19_any (a b : Bool) (w : World) : Calls Tryz.prog 25 #[.bool a, .bool b] w fun e w' => e = .returned (.agg #[.string ⟨#[]⟩, .int .u8 2, .int .i64 0, .int .i64 0, .bool a, .bool b, .float .f64 0, .float .f64 0, .float .f64 4619567317775286272]) ∧ Below w.heap.size w w' := by
  have hst := run_storef Tryz.prog
  have hb0 : Below w.heap.size w (w.alloc (mO ⟨⟨#[]⟩, 2, 0, 0, a, b, 0, 0, 4619567317775286272⟩ 46)) := (Below.refl _ _).alloc (Nat.le_refl _) _
  simp only [mO] at hb0
  go_enter Tryz.func25, Tryz.ntmps25
  go_wp2
  exact bodyPost_ret (v := .agg #[.string ⟨#[]⟩, .int .u8 2, .int .i64 0, .int .i64 0, .bool a, .bool b, .float .f64 0, .float .f64 0, .float .f64 4619567317775286272]) (by simp [results, Tryz.results25, go_sem]) rfl ⟨rfl, hb0⟩
/-- The plan of one member. -/
def ThreeT (w : World) (a b : Bool) (e : Ending) (w' : World) : Prop := ∃ g1 g2, e = .returned (.agg #[.slice (some ⟨g1, 0, none⟩) 2 2, .slice (some ⟨g2, 0, none⟩) 1 1]) ∧ JRow w' (some ⟨g1, 0, none⟩) [nA, nB] ∧ MRow w' (some ⟨g2, 0, none⟩) [nM a b] ∧ Below w.heap.size w w'
set_option maxHeartbeats 4000000 in
theorem three19_any (a b : Bool) (w : World) : Calls Tryz.prog 24 #[.agg #[.string ⟨#[]⟩, .int .u8 2, .int .i64 0, .int .i64 0, .bool a, .bool b, .float .f64 0, .float .f64 0, .float .f64 4619567317775286272]] w (ThreeT w a b) := by
  have hst := run_storef Tryz.prog
  go_enter Tryz.func24, Tryz.ntmps24
  go_wp2
  refine bodyPost_ret (v := .agg #[.slice (some ⟨w.heap.size + 1 + 1, 0, none⟩) 2 2, .slice (some ⟨w.heap.size + 1 + 1 + 1, 0, none⟩) 1 1]) (by simp [results, Tryz.results24, go_sem]) rfl ⟨w.heap.size + 1 + 1, w.heap.size + 1 + 1 + 1, rfl, ?_, ?_, ?_⟩
  · refine Or.inr ⟨_, 0, rfl, fun k hk => ?_⟩
    rcases (show k = 0 ∨ k = 1 by simp at hk; omega) with rfl | rfl
    · refine ⟨by simp [go_sem, nA], by simp [go_sem, nA], by simp [go_sem, nA], by simp [go_sem, nA]⟩
    · refine ⟨by simp [go_sem, nB], by simp [go_sem, nB], by simp [go_sem, nB], by simp [go_sem, nB]⟩
  · refine Or.inr ⟨_, 0, rfl, fun k hk => ?_⟩
    obtain rfl : k = 0 := by simp at hk; omega
    exact ⟨by simp [go_sem, nM], by simp [go_sem, nM], by simp [go_sem, nM], by simp [go_sem, nM], by simp [go_sem, nM], by simp [go_sem, nM], by simp [go_sem, nM], by simp [go_sem, nM], by simp [go_sem, nM]⟩
  · exact ((((Below.refl _ _).alloc (Nat.le_refl _) _).alloc (by simp) _).alloc (by simp; omega) _).alloc (by simp; omega) _
theorem aw19_eq6 (w : World) : (binOp .eql 61 (.agg #[.int .i64 (-8), .int .i64 6, .int .i64 25, .int .i64 8, .int .i64 (-6), .int .i64 25]) (.agg #[.int .i64 (-8), .int .i64 6, .int .i64 25, .int .i64 8, .int .i64 (-6), .int .i64 25])).run Tryz.prog w = .ok (.bool true) w := by kernel_rfl
theorem aw19_eq3 (w : World) : (binOp .eql 51 (.agg #[.int .i64 3, .int .i64 4, .int .i64 (-1)]) (.agg #[.int .i64 3, .int .i64 4, .int .i64 (-1)])).run Tryz.prog w = .ok (.bool true) w := by kernel_rfl
set_option maxRecDepth 100000 in
set_option maxHeartbeats 8000000 in
theorem bawake_any (w : World) (hT : TabW w) : Calls Tryz.prog 11 #[] w fun e w' => e = .returned (.bool true) ∧ Below w.heap.size w w' := by
  have e6 := aw19_eq6
  have e3 := aw19_eq3
  obtain ⟨AX, AC, EN, hl, hax⟩ := aw19_sg
  have cS := aw19_springs
  rw [hl] at cS
  clear hl
  go_enter Tryz.func11, Tryz.ntmps11
  go_upto_region 2 with (first
    | (go_at_call 25; refine (beam19_any false false _).mono ?_; rintro e w1 ⟨rfl, b1⟩)
    | (go_at_call 24; refine (three19_any false false _).mono ?_; rintro e w2 ⟨g1, g2, rfl, r2, m2, b2⟩; have b12 := b1.trans (b2.mono b1.size); have T2 := tabW_below hT b12)
    | (go_at_call 23; refine (cS _ _ _ _ _ r2 m2 T2).mono ?_; rintro e w3 ⟨lo, lc, rfl, rs, b3⟩; have b13 := b12.trans (b3.mono b12.size)))
  have sr : ∃ b off, lo = some ⟨b, off, none⟩ ∧ SAt w3 b (off + 0 * 11) ⟨0, 1, ⟨-3, -4, 0, 3, 4, 0⟩, AX⟩ ∧ SAt w3 b (off + 1 * 11) ⟨0, 2, ⟨-8, 6, 25, 8, -6, 25⟩, AC⟩ := by
    rcases rs with h | ⟨b, off, e, hc⟩
    · simp at h
    · exact ⟨b, off, e, hc 0 (by simp), hc 1 (by simp)⟩
  obtain ⟨sb, so, rfl, s0, s1⟩ := sr
  clear rs r2 m2 T2 b12 b2 b3 b1 cS
  go_upto_region 3 with (first
    | (go_at_call 25; refine (beam19_any false true _).mono ?_; rintro e w4 ⟨rfl, b4⟩)
    | (go_at_call 24; refine (three19_any false true _).mono ?_; rintro e w5 ⟨g3, g4, rfl, r5, m5, b5⟩; have b45 := b4.trans (b5.mono b4.size))
    | (go_at_call 7; refine (aw19_unknowns _ _ _ _ _ r5 m5).mono ?_; rintro e w6 ⟨uo, uc, rfl, pr, b6⟩; have b46 := b45.trans (b6.mono b45.size)))
  have ur : ∃ b off, uo = some ⟨b, off, none⟩ ∧ w6.cell? ⟨b, off + 1 * 3, none⟩ = some (.int .i64 3) ∧ w6.cell? ⟨b, off + 1 * 3 + 1, none⟩ = some (.int .i64 4) ∧ w6.cell? ⟨b, off + 1 * 3 + 2, none⟩ = some (.int .i64 (-1)) := by
    rcases pr with h | ⟨b, off, e, hc⟩
    · simp at h
    · exact ⟨b, off, e, hc 1 (by simp)⟩
  obtain ⟨ub, uf, rfl, u0, u1, u2⟩ := ur
  have PB := PBox.new w6 (.slice (some ⟨ub, uf, none⟩) 2 uc) (.int .i64 5) 32
  have st : Below w6.heap.size w6 (w6.alloc (.cells #[.slice (some ⟨ub, uf, none⟩) 2 uc, .int .i64 5] 32)) := (Below.refl _ _).alloc (Nat.le_refl _) _
  have b3w := b46.trans (st.mono b46.size)
  have t0 := s0.below b3w
  have t1 := s1.below b3w
  have v0 := (st.cell (p := ⟨ub, uf + 1 * 3, none⟩) (World.block_lt_of_cell? _ _ u0)).trans u0
  have v1 := (st.cell (p := ⟨ub, uf + 1 * 3 + 1, none⟩) (World.block_lt_of_cell? _ _ u1)).trans u1
  have v2 := (st.cell (p := ⟨ub, uf + 1 * 3 + 2, none⟩) (World.block_lt_of_cell? _ _ u2)).trans u2
  have hbw := b13.trans (b3w.mono b13.size)
  have near := t0.c10
  obtain ⟨_, _, c2, c3, c4, c5, c6, c7, _, _, _⟩ := t1
  simp only at c2 c3 c4 c5 c6 c7 near
  rw [hax] at near
  simp only [Nat.one_mul, Nat.zero_mul, Nat.add_zero] at c2 c3 c4 c5 c6 c7 near v0 v1 v2
  clear pr r5 m5 b4 b5 b6 b45 b46 st b3w s0 s1 t0 u0 u1 u2 hax b13 hT
  generalize w6.alloc (.cells #[.slice (some ⟨ub, uf, none⟩) 2 uc, .int .i64 5] 32) = W at *
  generalize w6.heap.size = pb at *
  obtain ⟨p0, p1, _, _, _⟩ := PB
  have heq : FloatKind.f64.format.order 4590429028186199163 4590429028186199163 = some Ordering.eq := by kernel_rfl
  go_wp2
  go_ret
  exact ⟨rfl, hbw⟩
end Go.Proofs.YtomohmjjaijlbaaGreatDoor

namespace Go.Proofs.YtomohmjjaijlbaaGreatDoor
open Go.RowKit

theorem unk_len (js : List Jn) (ms : List Mb) : (unkA js ms).1.1.length ≤ 1125899906842624 := by
  unfold unkA
  split
  · rename_i h
    have := (cp_facts h).2.1
    rw [plK_len]
    omega
  · simp
set_option maxRecDepth 100000 in
set_option maxHeartbeats 8000000 in
theorem bchecks_law (js : List Jn) (ms : List Mb) (ao mo : Option Addr) (ac mc : Nat) (w : World) (hT : TabW w) (hr : JRow w ao js) (hw : JWs js) (hs : ao = none → ac = 0 ∧ js.length = 0) (hn : js.length ≤ 4398046511104) (mr : MRow w mo ms) (mw : MWs ms) (hm : mo = none → mc = 0 ∧ ms.length = 0) (mn : ms.length ≤ 1954687338268) :
    Calls Tryz.prog 3 #[.agg #[.slice ao js.length ac, .slice mo ms.length mc]] w fun e w' => e = .returned (.bool true) ∧ Below w.heap.size w w' := by
  have cl := fun w' (hb : Below w.heap.size w w') => lentPlan_any js ms ao mo ac mc w' (hr.below hb) hs hn (mr.below hb) hm mn
  have cC := fun g1 g2 w' (l1 : LentJ w' g1 js) (l2 : LentM w' g2 ms) => bcheck_any js ms (some ⟨g1, 0, none⟩) (some ⟨g2, 0, none⟩) (js.length + 12) (ms.length + 12) w' l1.row hw (by omega) l2.row mw (by omega)
  have cD := fun w' (hb : Below w.heap.size w w') => dbcheck_any js ms ao mo ac mc w' (hr.below hb) hw (by omega) (mr.below hb) mw (by omega)
  have cU := fun g1 g2 w' (l1 : LentJ w' g1 js) (l2 : LentM w' g2 ms) => bunk_any js ms (some ⟨g1, 0, none⟩) (some ⟨g2, 0, none⟩) (js.length + 12) (ms.length + 12) w' l1.row hw (by omega) l2.row mw (by omega)
  have cV := fun w' (hb : Below w.heap.size w w') => dunk_any js ms ao mo ac mc w' (hr.below hb) hw (by omega) (mr.below hb) mw (by omega)
  have cK := fun g1 g2 w' (hb : Below w.heap.size w w') (l1 : LentJ w' g1 js) (l2 : LentM w' g2 ms) => keptPlan_any js ms g1 g2 ao mo ac mc w' (tabW_below hT hb) l1 l2 (hr.below hb) (mr.below hb) mw hn mn
  have ca := fun w' (h : TabW w') => bawake_any w' h
  have hul := unk_len js ms
  obtain ⟨N, hN⟩ : ∃ N, ms.length = N := ⟨_, rfl⟩
  obtain ⟨A, hA⟩ : ∃ A, js.length = A := ⟨_, rfl⟩
  rw [hN] at cl cC cD cU cV cK ⊢
  rw [hA] at cl cC cD cU cV cK ⊢
  generalize cpA js ms = cp at *
  obtain ⟨⟨⟨ups, un⟩, ue⟩, hu⟩ : ∃ u, unkA js ms = u := ⟨_, rfl⟩
  rw [hu] at cU cV hul
  simp only at hul
  obtain ⟨c1, c2⟩ := cp
  simp only at cC cD
  have cP := fun ao bo ac bc w' (h : TabW w') (r1 : P3Row w' ao ups) (r2 : P3Row w' bo ups) => sameplaces_any ups un ao bo ac bc w' h r1 r2 hul
  obtain ⟨L, hL⟩ : ∃ L, ups.length = L := ⟨_, rfl⟩
  rw [hL] at cP
  have cU2 : ∀ (g1 g2 : Nat) (w' : World), LentJ w' g1 js → LentM w' g2 ms → Calls Tryz.prog 7 #[.agg #[.slice (some ⟨g1, 0, none⟩) A (A + 12), .slice (some ⟨g2, 0, none⟩) N (N + 12)]] w' (fun e w'' => ∃ uo uc, e = .returned (.tuple #[.agg #[.slice uo L uc, .int .i64 un], .int .i64 ue]) ∧ P3Row w'' uo ups ∧ Below w'.heap.size w' w'') := fun g1 g2 w' l1 l2 => (cU g1 g2 w' l1 l2).mono fun e w'' h => by
    obtain ⟨uo, uc, h1, h2, h3⟩ := h
    exact ⟨uo, uc, by rw [h1, ← hL], h2, h3⟩
  have cV2 : ∀ (w' : World), Below w.heap.size w w' → Calls Tryz.prog 8 #[.agg #[.slice ao A ac, .slice mo N mc]] w' (fun e w'' => ∃ uo uc, e = .returned (.tuple #[.agg #[.slice uo L uc, .int .i64 un], .int .i64 ue]) ∧ P3Row w'' uo ups ∧ Below w'.heap.size w' w'') := fun w' hb => (cV w' hb).mono fun e w'' h => by
    obtain ⟨uo, uc, h1, h2, h3⟩ := h
    exact ⟨uo, uc, by rw [h1, ← hL], h2, h3⟩
  have n1 : (c1 == c1) = true := by simp
  have n2 : ((c2 : Int) == (c2 : Int)) = true := by simp
  have n3 : (ue == ue) = true := by simp
  clear hs hr mr hm mn hn mw hw hN hA hu hul hL cU cV
  have X0 := PBox.new w (.slice ao A ac) (.slice mo N mc) 25
  have hb0 : Below w.heap.size w (w.alloc (.cells #[.slice ao A ac, .slice mo N mc] 25)) := (Below.refl _ _).alloc (Nat.le_refl _) _
  go_enter Tryz.func3, Tryz.ntmps3
  go_upto_region 1 with fail
  generalize w.alloc (.cells #[.slice ao A ac, .slice mo N mc] 25) = U0 at *
  obtain ⟨x0, x1, _, _, _⟩ := id X0
  go_upto_region 2 with (go_at_call 4; refine (cl _ hb0).mono ?_; rintro e w1 ⟨g1, g2, rfl, l1, l2, b1⟩)
  have st : Below w1.heap.size w1 (w1.alloc (.cells #[.slice (some ⟨g1, 0, none⟩) A (A + 12), .slice (some ⟨g2, 0, none⟩) N (N + 12)] 25)) := (Below.refl _ _).alloc (Nat.le_refl _) _
  have X1 := PBox.new w1 (.slice (some ⟨g1, 0, none⟩) A (A + 12)) (.slice (some ⟨g2, 0, none⟩) N (N + 12)) 25
  have b1s := b1.trans (st.mono b1.size)
  replace X0 := X0.below b1s
  replace l1 := l1.below st
  replace l2 := l2.below st
  have hb1 := hb0.trans (b1s.mono hb0.size)
  clear x0 x1 st b1 b1s hb0 cl
  generalize w1.alloc (.cells #[.slice (some ⟨g1, 0, none⟩) A (A + 12), .slice (some ⟨g2, 0, none⟩) N (N + 12)] 25) = U1 at *
  generalize w1.heap.size = pb at *
  obtain ⟨y0, y1, _, _, _⟩ := id X1
  go_upto_region 3 with (go_at_call 5; refine (cC _ _ _ l1 l2).mono ?_; rintro e w2 ⟨rfl, b2⟩)
  replace X0 := X0.below b2
  replace X1 := X1.below b2
  replace l1 := l1.below b2
  replace l2 := l2.below b2
  have hb2 := hb1.trans (b2.mono hb1.size)
  clear y0 y1 cC b2 hb1
  obtain ⟨x0, x1, _, _, _⟩ := id X0
  go_upto_region 4 with (go_at_call 6; refine (cD _ hb2).mono ?_; rintro e w3 ⟨rfl, b3⟩)
  replace X0 := X0.below b3
  replace X1 := X1.below b3
  replace l1 := l1.below b3
  replace l2 := l2.below b3
  have hb3 := hb2.trans (b3.mono hb2.size)
  clear x0 x1 cD b3 hb2
  obtain ⟨y0, y1, _, _, _⟩ := id X1
  go_upto_region 5 with (go_at_call 7; refine (cU2 _ _ _ l1 l2).mono ?_; rintro e w4 ⟨uo, uc, rfl, p1, b4⟩)
  have st : Below w4.heap.size w4 (w4.alloc (.cells #[.slice uo L uc, .int .i64 un] 32)) := (Below.refl _ _).alloc (Nat.le_refl _) _
  have P0 := PBox.new w4 (.slice uo L uc) (.int .i64 un) 32
  have b4s := b4.trans (st.mono b4.size)
  replace X0 := X0.below b4s
  replace X1 := X1.below b4s
  replace l1 := l1.below b4s
  replace l2 := l2.below b4s
  replace p1 := p1.below st
  have hb4 := hb3.trans (b4s.mono hb3.size)
  clear y0 y1 cU2 b4 b4s st hb3
  generalize w4.alloc (.cells #[.slice uo L uc, .int .i64 un] 32) = U4 at *
  generalize w4.heap.size = qb at *
  obtain ⟨x0, x1, _, _, _⟩ := id X0
  go_upto_region 6 with (go_at_call 8; refine (cV2 _ hb4).mono ?_; rintro e w5 ⟨vo, vc, rfl, p2, b5⟩)
  have st : Below w5.heap.size w5 (w5.alloc (.cells #[.slice vo L vc, .int .i64 un] 32)) := (Below.refl _ _).alloc (Nat.le_refl _) _
  have Q0 := PBox.new w5 (.slice vo L vc) (.int .i64 un) 32
  have b5s := b5.trans (st.mono b5.size)
  replace X0 := X0.below b5s
  replace X1 := X1.below b5s
  replace P0 := P0.below b5s
  replace l1 := l1.below b5s
  replace l2 := l2.below b5s
  replace p1 := p1.below b5s
  replace p2 := p2.below st
  have hb5 := hb4.trans (b5s.mono hb4.size)
  clear x0 x1 cV2 b5 b5s st hb4
  generalize w5.alloc (.cells #[.slice vo L vc, .int .i64 un] 32) = U5 at *
  generalize w5.heap.size = rb at *
  obtain ⟨x0, x1, _, _, _⟩ := id X0
  obtain ⟨y0, y1, _, _, _⟩ := id X1
  obtain ⟨z0, z1, _, _, _⟩ := id P0
  obtain ⟨t0, t1, _, _, _⟩ := id Q0
  have T5 := tabW_below hT hb5
  go_wp2_with (first
    | (go_at_call 9; refine (cP _ _ _ _ _ T5 p1 p2).mono ?_; rintro e w6 ⟨rfl, b6⟩; obtain ⟨x0', x1', _, _, _⟩ := X0.below b6; obtain ⟨y0', y1', _, _, _⟩ := X1.below b6; have hb6 := hb5.trans (b6.mono hb5.size); have l1' := l1.below b6; have l2' := l2.below b6)
    | (go_at_call 10; refine (cK _ _ _ hb6 l1' l2').mono ?_; rintro e w7 ⟨rfl, b7⟩; have hb7 := hb6.trans (b7.mono hb6.size))
    | (go_at_call 11; refine (ca _ (tabW_below hT hb7)).mono ?_; rintro e w8 ⟨rfl, b8⟩))
  go_ret
  exact ⟨rfl, hb7.trans (b8.mono hb7.size)⟩
end Go.Proofs.YtomohmjjaijlbaaGreatDoor
