/- What Add, Sub, Sign, Cmp answer. -/
import Derived.Test.YtokfkooffbihcaaDoorEb
namespace Go.Proofs.YtokfkooffbihcaaDoor
open Go.RowKit

theorem add_any (a b : Dy) (ao bo : Option Addr) (cap bcap : Nat) (w : World) (hr : LRow w ao a.mag) (hs : LRow w bo b.mag) (la : Lm a.mag) (lb : Lm b.mag) (hT : TabW w) (ra : rightB a = true) (rb : rightB b = true) :
    Calls Tryd.prog 27 #[.agg #[.bool a.neg, .slice ao a.mag.length cap, .int .i64 a.exp], .agg #[.bool b.neg, .slice bo b.mag.length bcap, .int .i64 b.exp]] w (Gave w (addD a b)) := by
  by_cases h1 : a.mag.length = 0
  · have ea := right_nil ra h1
    have e : addD a b = (b, 0) := by rw [ea]; exact add_zero_left rb lb
    rw [e]
    exact add_left0 a.neg b.neg a.mag b.mag a.exp b.exp ao bo cap bcap w hs h1 (right_exp rb).2.2
  · by_cases h2 : b.mag.length = 0
    · have eb := right_nil rb h2
      have e : addD a b = (a, 0) := by rw [eb, add_comm']; exact add_zero_left ra la
      rw [e]
      exact add_right0 a.neg b.neg a.mag b.mag a.exp b.exp ao bo cap bcap w hr h2 h1 (right_exp ra).2.2
    · exact add_both a.neg b.neg a.mag b.mag a.exp b.exp ao bo cap bcap w hr hs la lb hT ra rb h1 h2
theorem trn_right {d : Dy} (h : rightB d = true) : rightB (trn d) = true := by
  rcases right_cases h with rfl | ⟨h1, h2⟩
  · rfl
  · exact right_of (d := trn d) h1 h2
theorem trn_qd {d : Dy} (h : rightB d = true) : qd (trn d) = -qd d := by
  rcases right_cases h with rfl | ⟨h1, h2⟩
  · unfold qd; rw [show sv (trn dy0) = 0 from rfl, show sv dy0 = 0 from rfl]; simp
  · have e : sv (trn d) = -sv d := by
      unfold sv trn
      have : decide (0 < d.mag.length) = true := decide_eq_true (by omega)
      simp only [this, Bool.and_true]
      cases d.neg <;> simp
    unfold qd
    rw [e, Int.neg_mul]
    rfl
theorem sub_add {a b : Dy} (rb : rightB b = true) : subD a b = addD a (trn b) := by
  unfold subD addD
  rw [rb, trn_right rb, trn_qd rb, Int.sub_eq_add_neg]

set_option maxHeartbeats 1000000 in
theorem Add_ok (n1 n2 : Bool) (m1 m2 : List Nat) (e1 e2 : Int) (ao bo : Option Addr) (cap bcap : Nat) (w : World) (hr : LRow w ao m1) (hs : LRow w bo m2) (la : Lm m1) (lb : Lm m2) (hT : TabW w)
    (ra : rightB ⟨n1, m1, e1⟩ = true) (rb : rightB ⟨n2, m2, e2⟩ = true) :
    Calls Tryd.prog 11 #[.agg #[.bool n1, .slice ao m1.length cap, .int .i64 e1], .agg #[.bool n2, .slice bo m2.length bcap, .int .i64 e2]] w (Gave w (addD ⟨n1, m1, e1⟩ ⟨n2, m2, e2⟩)) := by
  have hadd := fun w' hr' hs' hT' => add_any ⟨n1, m1, e1⟩ ⟨n2, m2, e2⟩ ao bo cap bcap w' hr' hs' la lb hT' ra rb
  obtain ⟨⟨⟨rn, rm, re⟩, rk⟩, hrr⟩ : ∃ r, addD ⟨n1, m1, e1⟩ ⟨n2, m2, e2⟩ = r := ⟨_, rfl⟩
  rw [hrr] at hadd ⊢
  clear hrr
  have ne1 : ¬ w.heap.size = w.heap.size + 1 + 1 := by omega
  have ne2 : ¬ w.heap.size + 1 + 1 = w.heap.size := by omega
  go_enter Tryd.func11, Tryd.ntmps11
  go_wp2_with (first
    | (go_at_call_of 22 (Value.agg #[Value.bool n1, Value.slice ao m1.length cap, Value.int IntKind.i64 e1]); refine (right_any ⟨n1, m1, e1⟩ ao cap _ (((hr.alloc _).alloc _).alloc _) la).mono ?_; rintro e w1 ⟨rfl, hb1⟩; obtain ⟨⟨c0, c1, c2, d0, d1, d2⟩, ⟨z0, z1, z2⟩, ⟨f0, f1, f2⟩, ho1⟩ := box3 hb1)
    | (go_at_call_of 22 (Value.agg #[Value.bool n2, Value.slice bo m2.length bcap, Value.int IntKind.i64 e2]); refine (right_any ⟨n2, m2, e2⟩ bo bcap _ (hs.below ho1) lb).mono ?_; rintro e w2 ⟨rfl, hb2⟩; obtain ⟨k0, k1, k2, j0, j1, j2⟩ := six_on (p := w.heap.size) (q := w.heap.size + 1) hb2 ⟨c0, c1, c2, d0, d1, d2⟩; obtain ⟨y0, y1, y2⟩ := three_on (p := w.heap.size + 1 + 1) hb2 ⟨z0, z1, z2⟩; obtain ⟨q0, q1, q2⟩ := marks_on (p := w.heap.size + 1 + 1) hb2 z0 ⟨f0, f1, f2⟩; have ho2 : Below w.heap.size w w2 := ho1.trans (hb2.mono ho1.size); have hlt2 : w.heap.size + 1 + 1 < w2.heap.size := World.block_lt_of_cell? w2 _ y0)
    | (go_at_call 27; refine (hadd _ (hr.below ho2) (hs.below ho2) (tabW_below hT ho2)).mono ?_; rintro e w4 ⟨ao', cap', rfl, hrow4, hfr4, hb4⟩; obtain ⟨t0, t1, t2⟩ := marks_on (p := w.heap.size + 1 + 1) hb4 y0 ⟨q0, q1, q2⟩; obtain ⟨v0, v1, v2⟩ := three_on (p := w.heap.size + 1 + 1) hb4 ⟨y0, y1, y2⟩; have ho4 : Below w.heap.size w w4 := ho2.trans (hb4.mono ho2.size); have hfr5 : Frs (w.heap.size + 3) ao' := hfr4.mono (by omega)))
  exact bodyPost_ret (v := .tuple #[.agg #[.bool rn, .slice ao' rm.length cap', .int .i64 re], .int .i64 rk]) (by simp [results, Tryd.results11, go_sem, v0, v1, v2]) rfl ⟨ao', cap', rfl, ((hrow4.box hfr5 (by omega) _ _).box hfr5 (by omega) _ _).box hfr5 (by omega) _ _, hfr5.mono (by omega), ((ho4.setCell (by simp; omega) _).setCell (by simp; omega) _).setCell (by simp; omega) _⟩
end Go.Proofs.YtokfkooffbihcaaDoor
