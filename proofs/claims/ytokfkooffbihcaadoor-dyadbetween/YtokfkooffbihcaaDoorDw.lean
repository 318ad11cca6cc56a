/- What Mul answers: the walk. -/
import Derived.Test.YtokfkooffbihcaaDoorDv
namespace Go.Proofs.YtokfkooffbihcaaDoor
open Go.RowKit

/-- Nine cells and three marks read anew behind a further call. -/
theorem three_on {w1 w2 : World} (h : Below w1.heap.size w1 w2) {p : Nat} {x0 x1 x2 : Value} (hc : w1.cell? ⟨p, 0, none⟩ = some x0 ∧ w1.cell? ⟨p, 1, none⟩ = some x1 ∧ w1.cell? ⟨p, 2, none⟩ = some x2) :
    w2.cell? ⟨p, 0, none⟩ = some x0 ∧ w2.cell? ⟨p, 1, none⟩ = some x1 ∧ w2.cell? ⟨p, 2, none⟩ = some x2 := by
  have one : ∀ (o : Nat) (v : Value), w1.cell? ⟨p, o, none⟩ = some v → w2.cell? ⟨p, o, none⟩ = some v := fun o v hc => by
    rw [h.cell (World.block_lt_of_cell? w1 _ hc)]; exact hc
  exact ⟨one _ _ hc.1, one _ _ hc.2.1, one _ _ hc.2.2⟩
theorem marks_on {w1 w2 : World} (h : Below w1.heap.size w1 w2) {p : Nat} {x0 : Value} (hc : w1.cell? ⟨p, 0, none⟩ = some x0) (hf : w1.frozen? ⟨p, 0, none⟩ = false ∧ w1.frozen? ⟨p, 1, none⟩ = false ∧ w1.frozen? ⟨p, 2, none⟩ = false) :
    w2.frozen? ⟨p, 0, none⟩ = false ∧ w2.frozen? ⟨p, 1, none⟩ = false ∧ w2.frozen? ⟨p, 2, none⟩ = false := by
  have hl := World.block_lt_of_cell? w1 _ hc
  exact ⟨by rw [h.frozen hl]; exact hf.1, by rw [h.frozen (p := ⟨p, 1, none⟩) hl]; exact hf.2.1, by rw [h.frozen (p := ⟨p, 2, none⟩) hl]; exact hf.2.2⟩

set_option maxHeartbeats 1000000 in
theorem mul_ok (n1 n2 : Bool) (m1 m2 : List Nat) (e1 e2 : Int) (ao bo : Option Addr) (cap bcap : Nat) (w : World) (hr : LRow w ao m1) (hs : LRow w bo m2) (la : Lm m1) (lb : Lm m2) (hT : TabW w)
    (ra : rightB ⟨n1, m1, e1⟩ = true) (rb : rightB ⟨n2, m2, e2⟩ = true) :
    Calls Tryd.prog 12 #[.agg #[.bool n1, .slice ao m1.length cap, .int .i64 e1], .agg #[.bool n2, .slice bo m2.length bcap, .int .i64 e2]] w (Gave w (mulD ⟨n1, m1, e1⟩ ⟨n2, m2, e2⟩)) := by
  have xa := right_exp ra
  have xb := right_exp rb
  simp only at xa xb
  have hwr : IntKind.i64.wrap (e1 + e2) = e1 + e2 := by rw [IntKind.wrap_i64]; omega
  have l1 : m1.length ≤ 1000 := by omega
  have l2 : m2.length ≤ 1000 := by omega
  obtain ⟨⟨⟨rn, rm, re⟩, rk⟩, hrr⟩ : ∃ r, mulD ⟨n1, m1, e1⟩ ⟨n2, m2, e2⟩ = r := ⟨_, rfl⟩
  have HN : Hid (∀ f, Prod' m1 m2 (m1.length + m2.length) m1.length f → normD ⟨n1 != n2, toL (m1.length + m2.length) f, e1 + e2⟩ = (⟨rn, rm, re⟩, rk)) := fun f hf => by
    rw [← hrr]
    refine mul_norm (a := ⟨n1, m1, e1⟩) (b := ⟨n2, m2, e2⟩) ra rb ?_
    have := hf.2.1
    rw [List.take_length] at this
    rw [toL_vl, this]
  rw [hrr]
  clear hrr
  have ne1 : ¬ w.heap.size = w.heap.size + 1 + 1 := by omega
  have ne2 : ¬ w.heap.size + 1 + 1 = w.heap.size := by omega
  go_enter Tryd.func12, Tryd.ntmps12
  go_wp2_with (first
    | (go_at_call_of 22 (Value.agg #[Value.bool n1, Value.slice ao m1.length cap, Value.int IntKind.i64 e1]); refine (right_any ⟨n1, m1, e1⟩ ao cap _ (((hr.alloc _).alloc _).alloc _) la).mono ?_; rintro e w1 ⟨rfl, hb1⟩; obtain ⟨⟨c0, c1, c2, d0, d1, d2⟩, ⟨z0, z1, z2⟩, ⟨f0, f1, f2⟩, ho1⟩ := box3 hb1)
    | (go_at_call_of 22 (Value.agg #[Value.bool n2, Value.slice bo m2.length bcap, Value.int IntKind.i64 e2]); refine (right_any ⟨n2, m2, e2⟩ bo bcap _ (hs.below ho1) lb).mono ?_; rintro e w2 ⟨rfl, hb2⟩; obtain ⟨k0, k1, k2, j0, j1, j2⟩ := six_on (p := w.heap.size) (q := w.heap.size + 1) hb2 ⟨c0, c1, c2, d0, d1, d2⟩; obtain ⟨y0, y1, y2⟩ := three_on (p := w.heap.size + 1 + 1) hb2 ⟨z0, z1, z2⟩; obtain ⟨q0, q1, q2⟩ := marks_on (p := w.heap.size + 1 + 1) hb2 z0 ⟨f0, f1, f2⟩; have ho2 : Below w.heap.size w w2 := ho1.trans (hb2.mono ho1.size)))
  clear hb1 hb2 c0 c1 c2 d0 d1 d2 z0 z1 z2 f0 f1 f2 ho1
  go_region_held3 (fun w' => w'.cell? ⟨w.heap.size, 0, none⟩ = some (.bool n1) ∧ w'.cell? ⟨w.heap.size, 1, none⟩ = some (.slice ao m1.length cap) ∧ w'.cell? ⟨w.heap.size, 2, none⟩ = some (.int .i64 e1) ∧ w'.cell? ⟨w.heap.size + 1, 0, none⟩ = some (.bool n2) ∧ w'.cell? ⟨w.heap.size + 1, 1, none⟩ = some (.slice bo m2.length bcap) ∧ w'.cell? ⟨w.heap.size + 1, 2, none⟩ = some (.int .i64 e2)) (go_keep)
    (first
    | (go_at_call 29; refine (product_any m1 m2 ao bo cap bcap w2.drew (hr.below ho2).drew (hs.below ho2).drew la lb l1 l2).mono ?_; rintro e w3 ⟨f, rfl, hP, hrow, hb3⟩; replace hb3 := undrew hb3; obtain ⟨p0, p1, p2, r0, r1, r2⟩ := six_on (p := w.heap.size) (q := w.heap.size + 1) hb3 ⟨k0, k1, k2, j0, j1, j2⟩; obtain ⟨s0, s1, s2⟩ := three_on (p := w.heap.size + 1 + 1) hb3 ⟨y0, y1, y2⟩; obtain ⟨t0, t1, t2⟩ := marks_on (p := w.heap.size + 1 + 1) hb3 y0 ⟨q0, q1, q2⟩; have ho3 : Below w.heap.size w w3 := ho2.trans (hb3.mono ho2.size))
    | (go_at_call 13; have hnm := norm_at (n1 != n2) (toL (m1.length + m2.length) f) (e1 + e2) (m1.length + m2.length) (toL_length _ _) (some ⟨w2.drew.heap.size, 0, none⟩) (m1.length + m2.length) w3 (FRow.lrow hrow (toL_length _ _) (fun j hj => toL_getD hj)) (toL_lm hP.1) (tabW_below hT ho3) (by omega); rw [HN.out f hP] at hnm; refine hnm.mono ?_; rintro e w4 ⟨ao', cap', rfl, hrow4, hfr4, hb4⟩; obtain ⟨p0, p1, p2, r0, r1, r2⟩ := six_on (p := w.heap.size) (q := w.heap.size + 1) hb4 ⟨p0, p1, p2, r0, r1, r2⟩; have hlt3 : w.heap.size + 1 + 1 < w3.heap.size := World.block_lt_of_cell? w3 _ s0; obtain ⟨t0, t1, t2⟩ := marks_on (p := w.heap.size + 1 + 1) hb4 s0 ⟨t0, t1, t2⟩; obtain ⟨s0, s1, s2⟩ := three_on (p := w.heap.size + 1 + 1) hb4 ⟨s0, s1, s2⟩; have ho4 : Below w.heap.size w w4 := ho3.trans (hb4.mono ho3.size); have hfr5 : Frs (w.heap.size + 3) ao' := hfr4.mono (by omega)))
  clear hnm HN hP hrow hb3 hb4 hfr4 k0 k1 k2 j0 j1 j2 y0 y1 y2 q0 q1 q2
  go_wp2
  exact bodyPost_ret (v := .tuple #[.agg #[.bool rn, .slice ao' rm.length cap', .int .i64 re], .int .i64 rk]) (by simp [results, Tryd.results12, go_sem, s0, s1, s2]) rfl ⟨ao', cap', rfl, ((hrow4.box hfr5 (by omega) _ _).box hfr5 (by omega) _ _).box hfr5 (by omega) _ _, hfr5.mono (by omega), ((ho4.setCell (by simp; omega) _).setCell (by simp; omega) _).setCell (by simp; omega) _⟩

set_option maxHeartbeats 1000000 in
theorem mul_arg (n1 n2 : Bool) (m1 m2 : List Nat) (e1 e2 : Int) (ao bo : Option Addr) (cap bcap : Nat) (w : World) (hr : LRow w ao m1) (hs : LRow w bo m2) (la : Lm m1) (lb : Lm m2)
    (h : rightB ⟨n1, m1, e1⟩ = false ∨ rightB ⟨n2, m2, e2⟩ = false) :
    Calls Tryd.prog 12 #[.agg #[.bool n1, .slice ao m1.length cap, .int .i64 e1], .agg #[.bool n2, .slice bo m2.length bcap, .int .i64 e2]] w (Gave w (dy0, 2)) := by
  cases ra : rightB ⟨n1, m1, e1⟩
  · clear h
    go_enter Tryd.func12, Tryd.ntmps12
    go_wp2_with (first
      | (go_at_call_of 22 (Value.agg #[Value.bool n1, Value.slice ao m1.length cap, Value.int IntKind.i64 e1]); refine (right_any ⟨n1, m1, e1⟩ ao cap _ (((hr.alloc _).alloc _).alloc _) la).mono ?_; rintro e w1 ⟨rfl, hb1⟩; obtain ⟨⟨c0, c1, c2, d0, d1, d2⟩, ⟨z0, z1, z2⟩, ⟨f0, f1, f2⟩, ho1⟩ := box3 hb1))
    exact bodyPost_ret (v := .tuple #[.agg #[.bool false, .slice none 0 0, .int .i64 0], .int .i64 2]) (by simp [results, Tryd.results12, go_sem, z0, z1, z2]) rfl ⟨none, 0, rfl, LRow.nil _ _, Frs.none _, ((ho1.setCell (by simp; omega) _).setCell (by simp; omega) _).setCell (by simp; omega) _⟩
  · have rb : rightB ⟨n2, m2, e2⟩ = false := by
      rcases h with h | h
      · rw [ra] at h; cases h
      · exact h
    clear h
    go_enter Tryd.func12, Tryd.ntmps12
    go_wp2_with (first
      | (go_at_call_of 22 (Value.agg #[Value.bool n1, Value.slice ao m1.length cap, Value.int IntKind.i64 e1]); refine (right_any ⟨n1, m1, e1⟩ ao cap _ (((hr.alloc _).alloc _).alloc _) la).mono ?_; rintro e w1 ⟨rfl, hb1⟩; obtain ⟨⟨c0, c1, c2, d0, d1, d2⟩, ⟨z0, z1, z2⟩, ⟨f0, f1, f2⟩, ho1⟩ := box3 hb1)
      | (go_at_call_of 22 (Value.agg #[Value.bool n2, Value.slice bo m2.length bcap, Value.int IntKind.i64 e2]); refine (right_any ⟨n2, m2, e2⟩ bo bcap _ (hs.below ho1) lb).mono ?_; rintro e w2 ⟨rfl, hb2⟩; obtain ⟨y0, y1, y2⟩ := three_on (p := w.heap.size + 1 + 1) hb2 ⟨z0, z1, z2⟩; obtain ⟨q0, q1, q2⟩ := marks_on (p := w.heap.size + 1 + 1) hb2 z0 ⟨f0, f1, f2⟩; have ho2 : Below w.heap.size w w2 := ho1.trans (hb2.mono ho1.size)))
    exact bodyPost_ret (v := .tuple #[.agg #[.bool false, .slice none 0 0, .int .i64 0], .int .i64 2]) (by simp [results, Tryd.results12, go_sem, y0, y1, y2]) rfl ⟨none, 0, rfl, LRow.nil _ _, Frs.none _, ((ho2.setCell (by simp; omega) _).setCell (by simp; omega) _).setCell (by simp; omega) _⟩

theorem mul_any (a b : Dy) (ao bo : Option Addr) (cap bcap : Nat) (w : World) (hr : LRow w ao a.mag) (hs : LRow w bo b.mag) (la : Lm a.mag) (lb : Lm b.mag) (hT : TabW w) :
    Calls Tryd.prog 12 #[.agg #[.bool a.neg, .slice ao a.mag.length cap, .int .i64 a.exp], .agg #[.bool b.neg, .slice bo b.mag.length bcap, .int .i64 b.exp]] w (Gave w (mulD a b)) := by
  by_cases h : rightB a = true ∧ rightB b = true
  · exact mul_ok a.neg b.neg a.mag b.mag a.exp b.exp ao bo cap bcap w hr hs la lb hT h.1 h.2
  · have e : mulD a b = (dy0, 2) := by
      unfold mulD; rw [if_neg]; simpa using h
    rw [e]
    refine mul_arg a.neg b.neg a.mag b.mag a.exp b.exp ao bo cap bcap w hr hs la lb ?_
    rcases Bool.eq_false_or_eq_true (rightB a) with h1 | h1
    · rcases Bool.eq_false_or_eq_true (rightB b) with h2 | h2
      · exact absurd ⟨h1, h2⟩ h
      · exact Or.inr h2
    · exact Or.inl h1
end Go.Proofs.YtokfkooffbihcaaDoor
