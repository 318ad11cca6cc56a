/- What the reference's Told, Whole, Of, Int answer. -/
import Derived.Test.YtjjchlfdaacddaaDoorNm
import Derived.Test.YtjjchlfdaacddaaDoorZr
namespace Go.Proofs.YtjjchlfdaacddaaDoor
open Go.RowKit

theorem NS.setBox {w : World} {ao : Option Addr} {cap : Nat} {xs : List Nat} {B c : Nat} (h : NS w ao cap xs) (hf : Frs B ao) (hc : c < B) (o : Nat) (v : Value) : NS (w.setCell ⟨c, o, none⟩ v) ao cap xs := ⟨h.1.box hf hc o v, h.2⟩
set_option maxHeartbeats 1000000 in
theorem told_any (d : Dy) (ao : Option Addr) (cap : Nat) (w : World) (hr : NS w ao cap d.mag) (hL : Lm d.mag) (hl : d.mag.length ≤ 4398046511104) (he1 : -9223372036854775808 ≤ d.exp) (he2 : d.exp ≤ 9223372036854775807) :
    Calls Tryd.prog 56 #[.agg #[.bool d.neg, .slice ao d.mag.length cap, .int .i64 d.exp]] w (GaveX w (normD d)) := by
  have hN := fun w' (h : NS w' ao cap d.mag) => dnorm_any d ao cap w' h hL hl he1 he2
  obtain ⟨⟨⟨rn, rm, re⟩, rk⟩, hrr⟩ : ∃ r, normD d = r := ⟨_, rfl⟩
  rw [hrr] at hN ⊢
  obtain ⟨neg, xs, ex⟩ := d
  simp only at *
  clear hrr
  go_enter Tryd.func56, Tryd.ntmps56
  go_wp2_with (go_at_call 15; refine (hN _ (hr.below (((Below.refl _ _).alloc (Nat.le_refl _) _).alloc (by simp) _))).mono ?_; rintro e w1 ⟨ao1, cap1, rfl, h1, f1, b1⟩; obtain ⟨⟨c0, c1, c2⟩, ⟨d0, d1, d2⟩, ⟨g0, g1, g2⟩, _⟩ := box2 b1)
  have hfr2 : Frs (w.heap.size + 2) ao1 := f1.mono (by simp)
  refine bodyPost_ret (v := .tuple #[.agg #[.bool rn, .slice ao1 rm.length cap1, .int .i64 re], .int .i64 rk]) (by simp [results, Tryd.results56, go_sem, d0, d1, d2]) rfl ⟨ao1, cap1, rfl, ?_, hfr2.mono (by omega), box2_end b1 _ _ _⟩
  exact ((h1.setBox hfr2 (by omega) _ _).setBox hfr2 (by omega) _ _).setBox hfr2 (by omega) _ _
set_option maxHeartbeats 1000000 in
theorem whole_any (n : Int) (h1 : -9223372036854775808 ≤ n) (h2 : n ≤ 9223372036854775807) (w : World) :
    Calls Tryd.prog 57 #[.int .i64 n] w (GaveM w ⟨decide (n < 0), lo n.natAbs, 0⟩) := by
  obtain ⟨na, hna⟩ : ∃ na, n.natAbs = na := ⟨_, rfl⟩
  rw [hna]
  have hO := fun w => natOf_any na (by omega) w
  by_cases hn : n < 0
  · have hd : decide (n < 0) = true := decide_eq_true hn
    have hw : IntKind.u64.wrap n = 18446744073709551616 + n := by rw [IntKind.wrap_u64]; omega
    have hw2 : IntKind.u64.wrap (-(18446744073709551616 + n)) = (na : Int) := by rw [IntKind.wrap_u64]; omega
    rw [hd]
    clear hna
    go_enter Tryd.func57, Tryd.ntmps57
    go_wp2_with (go_at_call 86; refine (hO _).mono ?_; rintro e w1 ⟨ao', cap', rfl, hrow, hfr, hb1⟩; obtain ⟨⟨c0, c1, c2⟩, ⟨d0, d1, d2⟩, ⟨g0, g1, g2⟩, k0, k1, k2⟩ := box2 hb1)
    have hfr2 : Frs (w.heap.size + 2) ao' := hfr.mono (by simp)
    refine bodyPost_ret (v := .agg #[.bool true, .slice ao' (lo na).length cap', .int .i64 0]) (by simp [results, Tryd.results57, go_sem, c0, c1, c2]) rfl ⟨ao', cap', rfl, ?_, hfr2.mono (by omega), ?_⟩
    · exact (((hrow.setBox hfr2 (by omega) _ _).setBox hfr2 (by omega) _ _).setBox hfr2 (by omega) _ _).setBox hfr2 (by omega) _ _
    · exact ((((box2_old hb1).setCell (by simp) _).setCell (by simp) _).setCell (by simp) _).setCell (by simp) _
  · have hd : decide (n < 0) = false := decide_eq_false hn
    have hnn : n = (na : Int) := by omega
    rw [hd]
    subst hnn
    have hw : IntKind.u64.wrap (na : Int) = (na : Int) := by rw [IntKind.wrap_u64]; omega
    clear hna
    go_enter Tryd.func57, Tryd.ntmps57
    go_wp2_with (go_at_call 86; refine (hO _).mono ?_; rintro e w1 ⟨ao', cap', rfl, hrow, hfr, hb1⟩; obtain ⟨⟨c0, c1, c2⟩, ⟨d0, d1, d2⟩, ⟨g0, g1, g2⟩, k0, k1, k2⟩ := box2 hb1)
    have hfr2 : Frs (w.heap.size + 2) ao' := hfr.mono (by simp)
    refine bodyPost_ret (v := .agg #[.bool false, .slice ao' (lo na).length cap', .int .i64 0]) (by simp [results, Tryd.results57, go_sem, c0, c1, c2]) rfl ⟨ao', cap', rfl, ?_, hfr2.mono (by omega), ?_⟩
    · exact (((hrow.setBox hfr2 (by omega) _ _).setBox hfr2 (by omega) _ _).setBox hfr2 (by omega) _ _).setBox hfr2 (by omega) _ _
    · exact ((((box2_old hb1).setCell (by simp) _).setCell (by simp) _).setCell (by simp) _).setCell (by simp) _
theorem of_norm {a : Nat} (hf : finB a = true) : normD ⟨sgn a, [spF a], spE a⟩ = ofD a := by
  by_cases h0 : rung a = 0
  · have e1 : spF a = 0 := by unfold spF; rw [if_pos h0]
    have e2 : ofD a = (dy0, 0) := by unfold ofD; rw [if_neg (by rw [hf]; simp), if_pos e1]
    rw [e2, e1]
    exact norm_zero rfl
  · have h1 := (sp_bd hf h0).1
    have e2 : ofD a = (⟨sgn a, [spF a], spE a⟩, 0) := by unfold ofD; rw [if_neg (by rw [hf]; simp), if_neg h1]
    obtain ⟨b1, b2, b3, b4, b5, b6⟩ := sp_bd hf h0
    have p2 := (sp_parts h0).2.1
    rw [e2]
    exact nrm_right (d := ⟨sgn a, [spF a], spE a⟩) (fun y hy => by simp at hy; omega) (right_of (by simp) ⟨by simp, by simpa using p2, by simpa using b1, by simp only; omega, by simp only; omega⟩)
theorem NS.one (w : World) (x : Nat) : NS (w.alloc (.cells #[.int .u64 (x : Int)] 49)) (some ⟨w.heap.size, 0, none⟩) 1 [x] :=
  ⟨one_lrow w x _ rfl, fun h => (by cases h), by simp⟩
theorem two_more {W w1 w2 : World} {o1 o2 : Obj} (h1 : Below W.heap.size W w1) (h2 : Below ((w1.alloc o1).alloc o2).heap.size ((w1.alloc o1).alloc o2) w2) : Below W.heap.size W w2 := by
  have h3 : Below W.heap.size W ((w1.alloc o1).alloc o2) := (h1.alloc h1.size _).alloc (by have := h1.size; simp; omega) _
  exact h3.trans (h2.mono h3.size)
set_option maxHeartbeats 2000000 in
theorem dof_any (a : Nat) (ha : a < 18446744073709551616) (w : World) :
    Calls Tryd.prog 20 #[.float .f64 a] w (GaveX w (ofD a)) := by
  cases hf : finB a
  · have e : ofD a = (dy0, 5) := by unfold ofD; rw [if_pos hf]
    rw [e]
    have hsp := fun o => rsplit_inf a ha hf (w.alloc o)
    clear e
    go_enter Tryd.func20, Tryd.ntmps20
    go_wp2_with (go_at_call 55; refine (hsp _).mono ?_; rintro e w1 ⟨rfl, hb1⟩; obtain ⟨⟨c0, c1, c2⟩, ho1⟩ := one_box hb1; obtain ⟨f0, f1, f2⟩ := one_mark hb1; have g0 := mark_alloc c0 f0; have g1 := mark_alloc c1 f1; have g2 := mark_alloc c2 f2; have d0 := cell_alloc c0; have d1 := cell_alloc c1; have d2 := cell_alloc c2)
    exact bodyPost_ret (v := .tuple #[.agg #[.bool false, .slice none 0 0, .int .i64 0], .int .i64 5]) (by simp [results, Tryd.results20, go_sem, d0, d1, d2]) rfl ⟨none, 0, rfl, NS.nil _, Frs.none _, (((ho1.alloc ho1.size _).setCell (by simp) _).setCell (by simp) _).setCell (by simp) _⟩
  · have hsp := fun o => rsplit_fin a ha hf (w.alloc o)
    have hE := of_norm hf
    obtain ⟨⟨⟨rn, rm, re⟩, rk⟩, hrr⟩ : ∃ r, ofD a = r := ⟨_, rfl⟩
    rw [hrr] at hE ⊢
    have hb : spF a < 18446744073709551616 ∧ -100000 ≤ spE a ∧ spE a ≤ 100000 := by
      by_cases h0 : rung a = 0
      · unfold spF spE; rw [if_pos h0, if_pos h0]; omega
      · have := sp_bd hf h0; omega
    generalize sgn a = sg at *
    generalize spF a = sf at *
    generalize spE a = se at *
    have hLm : Lm [sf] := fun x hx => by simp at hx; omega
    have hN := fun W => dnorm_any ⟨sg, [sf], se⟩ (some ⟨World.heap W |>.size, 0, none⟩) 1 (World.alloc W (.cells #[.int .u64 (sf : Int)] 49)) (NS.one W sf) hLm (by simp) (by simp only; omega) (by simp only; omega)
    rw [hE] at hN
    simp only [List.length_singleton] at hN
    clear hE hrr
    go_enter Tryd.func20, Tryd.ntmps20
    go_wp2_with (first
      | (go_at_call 55; refine (hsp _).mono ?_; rintro e w1 ⟨rfl, hb1⟩; obtain ⟨⟨c0, c1, c2⟩, ho1⟩ := one_box hb1; obtain ⟨f0, f1, f2⟩ := one_mark hb1; have g0 := mark_alloc c0 f0; have g1 := mark_alloc c1 f1; have g2 := mark_alloc c2 f2; have d0 := cell_alloc c0; have d1 := cell_alloc c1; have d2 := cell_alloc c2; have hN1 := hN (w1.alloc (.cells #[.bool sg, .int .u64 (sf : Int), .int .i64 se] 55)); rw [show (w1.alloc (.cells #[.bool sg, .int .u64 (sf : Int), .int .i64 se] 55)).heap.size = w1.heap.size + 1 from by go_simp] at hN1)
      | (go_at_call 15; refine hN1.mono ?_; rintro e w2 ⟨ao2, cap2, rfl, h2, fr2, hb2⟩; have hb3 := two_more hb1 hb2; obtain ⟨⟨m0, m1, m2⟩, ho3⟩ := one_box hb3; obtain ⟨n0, n1, n2⟩ := one_mark hb3))
    have hs1 := hb1.size
    simp at hs1
    have hfr : Frs (w.heap.size + 1) ao2 := fr2.mono (by simp; omega)
    refine bodyPost_ret (v := .tuple #[.agg #[.bool rn, .slice ao2 rm.length cap2, .int .i64 re], .int .i64 rk]) (by simp [results, Tryd.results20, go_sem, m0, m1, m2]) rfl ⟨ao2, cap2, rfl, ?_, hfr.mono (by omega), ((ho3.setCell (by simp) _).setCell (by simp) _).setCell (by simp) _⟩
    exact ((h2.setBox hfr (by omega) _ _).setBox hfr (by omega) _ _).setBox hfr (by omega) _ _
theorem intD_lo (n : Int) : (normD ⟨decide (n < 0), lo n.natAbs, 0⟩).1 = intD n := by
  unfold intD normD sv
  have e : vl [n.natAbs] = n.natAbs := by simp [vl]
  simp only [vl_lo, e]
set_option maxHeartbeats 2000000 in
theorem dint_any (n : Int) (h1 : -9223372036854775808 ≤ n) (h2 : n ≤ 9223372036854775807) (w : World) :
    Calls Tryd.prog 22 #[.int .i64 n] w (GaveM w (intD n)) := by
  have hE := intD_lo n
  obtain ⟨⟨⟨rn, rm, re⟩, rk⟩, hrr⟩ : ∃ r, normD ⟨decide (n < 0), lo n.natAbs, 0⟩ = r := ⟨_, rfl⟩
  rw [hrr] at hE
  rw [← hE]
  have hW := fun o => whole_any n h1 h2 (w.alloc o)
  have hl : (lo n.natAbs).length ≤ 1 := by rw [lo_length]; exact nl_le (by omega)
  have hT := fun ao cap w' h => told_any ⟨decide (n < 0), lo n.natAbs, 0⟩ ao cap w' h (lo_lm _) (by simp only; omega) (by simp only; omega) (by simp only; omega)
  rw [hrr] at hT
  simp only at hT hW
  generalize decide (n < 0) = sg at *
  obtain ⟨L, hL⟩ : ∃ L, lo n.natAbs = L := ⟨_, rfl⟩
  rw [hL] at hT hW
  clear hE hrr hL hl
  go_enter Tryd.func22, Tryd.ntmps22
  go_wp2_with (first
    | (go_at_call 57; refine (hW _).mono ?_; rintro e w1 ⟨ao1, cap1, rfl, r1, fr1, hb1⟩)
    | (go_at_call 56; refine (hT _ _ _ r1).mono ?_; rintro e w2 ⟨ao2, cap2, rfl, r2, fr2, hb2⟩; have hb3 := hb1.trans (hb2.mono hb1.size); obtain ⟨⟨c0, c1, c2⟩, ho1⟩ := one_box hb3; obtain ⟨f0, f1, f2⟩ := one_mark hb3; have g0 := mark_alloc c0 f0; have g1 := mark_alloc c1 f1; have g2 := mark_alloc c2 f2; have d0 := cell_alloc c0; have d1 := cell_alloc c1; have d2 := cell_alloc c2))
  have hs1 := hb1.size
  simp at hs1
  have hfr : Frs (w.heap.size + 1) ao2 := fr2.mono (by omega)
  refine bodyPost_ret (v := .agg #[.bool rn, .slice ao2 rm.length cap2, .int .i64 re]) (by simp [results, Tryd.results22, go_sem, d0, d1, d2]) rfl ⟨ao2, cap2, rfl, ?_, hfr.mono (by omega), (((ho1.alloc ho1.size _).setCell (by simp) _).setCell (by simp) _).setCell (by simp) _⟩
  exact (((r2.below ((Below.refl _ _).alloc (Nat.le_refl _) _)).setBox hfr (by omega) _ _).setBox hfr (by omega) _ _).setBox hfr (by omega) _ _
end Go.Proofs.YtjjchlfdaacddaaDoor
