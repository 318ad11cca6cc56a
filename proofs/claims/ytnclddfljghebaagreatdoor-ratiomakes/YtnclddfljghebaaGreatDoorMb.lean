/- What the kit's LentDyad, KeptLimbs, KeptDyad, OverLimbs, OverDyad answer. -/
import Derived.Test.YtnclddfljghebaaGreatDoorMa
import Derived.Test.YtnclddfljghebaaGreatDoorZl
import Derived.Deep.QuietTactic
import Derived.BigQuiet
namespace Go.Proofs.YtnclddfljghebaaGreatDoor
open Go.RowKit

theorem Lent.setBox {w : World} {g : Nat} {xs : List Nat} (h : Lent w g xs) {c : Nat} (hc : c ≠ g) (o : Nat) (v : Value) : Lent (w.setCell ⟨c, o, none⟩ v) g xs := by
  refine ⟨h.1, ?_⟩
  rcases h.2 with ⟨e, _⟩ | ⟨g', cap, cur, e, h1, h2, h3⟩
  · cases e
  · cases e
    exact Or.inr ⟨g, xs.length + 12, cur, rfl, h1, by rw [Below.heap_setCell w ⟨c, o, none⟩ v g (Ne.symm hc)]; exact h2, h3⟩
theorem Lent.alloc {w : World} {g : Nat} {xs : List Nat} (h : Lent w g xs) (o : Obj) : Lent (w.alloc o) g xs := h.below ((Below.refl _ _).alloc (Nat.le_refl _) _)
set_option maxHeartbeats 1000000 in
theorem lentDyad_any (d : Dy) (ao : Option Addr) (cap : Nat) (w : World) (hr : LRow w ao d.mag) (hs : ao = none → cap = 0 ∧ d.mag.length = 0) (hn : d.mag.length ≤ 17592186044416) :
    Calls Tryz.prog 16 #[.agg #[.bool d.neg, .slice ao d.mag.length cap, .int .i64 d.exp]] w fun e w' => ∃ g, e = .returned (.agg #[.bool d.neg, .slice (some ⟨g, 0, none⟩) d.mag.length (d.mag.length + 12), .int .i64 d.exp]) ∧ Lent w' g d.mag ∧ w.heap.size ≤ g ∧ Below w.heap.size w w' := by
  obtain ⟨neg, xs, ex⟩ := d
  simp only at *
  have hL := lentLimbs_any xs ao cap ((w.alloc (.cells #[.bool neg, .slice ao xs.length cap, .int .i64 ex] 27)).alloc (.cells #[.bool false, .slice none 0 0, .int .i64 0] 27)) ((hr.alloc _).alloc _) hs hn
  rw [show ((w.alloc (.cells #[.bool neg, .slice ao xs.length cap, .int .i64 ex] 27)).alloc (.cells #[.bool false, .slice none 0 0, .int .i64 0] 27)).heap.size = w.heap.size + 2 from by go_simp] at hL
  go_enter Tryz.func16, Tryz.ntmps16
  go_wp2_with (go_at_call 34; refine hL.mono ?_; rintro e w1 ⟨rfl, hrow, hb0⟩; have hb : Below ((w.alloc (.cells #[.bool neg, .slice ao xs.length cap, .int .i64 ex] 27)).alloc (.cells #[.bool false, .slice none 0 0, .int .i64 0] 27)).heap.size ((w.alloc (.cells #[.bool neg, .slice ao xs.length cap, .int .i64 ex] 27)).alloc (.cells #[.bool false, .slice none 0 0, .int .i64 0] 27)) w1 := (by rw [show ((w.alloc (.cells #[.bool neg, .slice ao xs.length cap, .int .i64 ex] 27)).alloc (.cells #[.bool false, .slice none 0 0, .int .i64 0] 27)).heap.size = w.heap.size + 2 from by go_simp]; exact hb0); obtain ⟨⟨c0, c1, c2⟩, ⟨d0, d1, d2⟩, ⟨f0, f1, f2⟩, g0, g1, g2⟩ := box2 hb)
  refine bodyPost_ret (v := .agg #[.bool neg, .slice (some ⟨w.heap.size + 2, 0, none⟩) xs.length (xs.length + 12), .int .i64 ex]) (by simp [results, Tryz.results16, go_sem, d0, d1, d2]) rfl ⟨w.heap.size + 2, rfl, ?_, by omega, ?_⟩
  · exact (((hrow.setBox (by omega) _ _).setBox (by omega) _ _).setBox (by omega) _ _).setBox (by omega) _ _
  · exact ((((box2_old hb).setCell (by simp) _).setCell (by simp) _).setCell (by simp) _).setCell (by simp) _
theorem below_quiet {B : Nat} {w w1 : World} (h : Below B w w1) (n : Nat) : Below B w (w1.drewN n) := ⟨h.os, h.tape, h.output, h.size, h.block⟩
theorem lent_low {xs : List Nat} {k : Nat} (h : k < xs.length) : (xs ++ mks 1 12).getD k 0 = xs.getD k 0 := by
  rw [List.getD_eq_getElem?_getD, List.getD_eq_getElem?_getD, List.getElem?_append_left h]
theorem lent_high {xs : List Nat} {k : Nat} (h : xs.length ≤ k) (h2 : k < xs.length + 12) : (xs ++ mks 1 12).getD k 0 = 1000003 * (1 + 7) + (k - xs.length) := by
  rw [List.getD_eq_getElem?_getD, List.getElem?_append_right h, ← List.getD_eq_getElem?_getD, mks_getD (by omega)]
set_option maxHeartbeats 4000000 in
set_option maxRecDepth 100000 in
theorem keptLimbs_any (xs : List Nat) (ao : Option Addr) (cap g : Nat) (w : World) (hr : LRow w ao xs) (hl : Lent w g xs) (hn : xs.length ≤ 17592186044416) :
    Calls Tryz.prog 50 #[.slice (some ⟨g, 0, none⟩) xs.length (xs.length + 12), .slice ao xs.length cap] w fun e w' => e = .returned (.bool true) ∧ Below w.heap.size w w' := by
  have c0 : ((xs.length : Int) != (xs.length : Int)) = false := by simp
  have c1 : (xs.length : Int) + 12 ≤ ((xs.length + 12 : Nat) : Int) := by omega
  go_enter Tryz.func50, Tryz.ntmps50
  go_wp2
  go_loopg [6] (xs.length + 12) (fun gg i wr => ∃ k : Nat, k ≤ xs.length + 12 ∧ gg = xs.length + 12 - k ∧ i = .int .i64 k ∧ Below w.heap.size w wr)
  case atStart => exact ⟨0, by omega, rfl, rfl, Below.refl _ _⟩
  case round =>
    obtain ⟨k, hk, hg, rfl, hb⟩ := hrel
    have hr2 := hr.below hb
    have hl2 := hl.below hb
    by_cases hlt : k < xs.length + 12
    · have g1 := hl2.cell hlt
      have i0 : (k : Int) < ((xs.length + 12 : Nat) : Int) := by omega
      have i0' : (k : Int) < (xs.length : Int) + 12 := by omega
      by_cases hlo : k < xs.length
      · rcases hr2 with h | ⟨b, off, rfl, hc⟩
        · omega
        · have g2 := hc k hlo
          rw [lent_low hlo] at g1
          obtain ⟨x, hx⟩ : ∃ x, xs.getD k 0 = x := ⟨_, rfl⟩
          rw [hx] at g1 g2
          have i1 : (k : Int) < (xs.length : Int) := by omega
          have i2 : decide ((k : Int) < (xs.length : Int)) = true := decide_eq_true i1
          have i3 : decide (xs.length ≤ k) = false := decide_eq_false (by omega)
          clear hc hx
          go_wp2
          go_quiet (fail)
          go_wp2
          go_roundg (xs.length + 12 - (k + 1))
          case measure => omega
          case rel => exact ⟨k + 1, by omega, rfl, by go_num, below_quiet hb _⟩
      · rw [lent_high (by omega) hlt] at g1
        obtain ⟨m, hm⟩ : ∃ m, 1000003 * (1 + 7) + (k - xs.length) = m := ⟨_, rfl⟩
        rw [hm] at g1
        have e1 : ((k - xs.length : Nat) : Int) = (k : Int) - (xs.length : Int) := by omega
        have hmk : ∀ w, Calls Tryz.prog 74 #[.int .i64 1, .int .i64 ((k : Int) - (xs.length : Int))] w fun e w' => e = .returned (.int .i64 (m : Int)) ∧ w' = w := fun w => by
          have h := mark_any 1 (k - xs.length) m (by omega) (by omega) hm w
          rw [e1] at h
          exact h
        have hml : m ≤ 9000000 := by omega
        have e2 : IntKind.i64.wrap ((k : Int) - (xs.length : Int)) = (k : Int) - (xs.length : Int) := by rw [IntKind.wrap_i64]; omega
        have e3 : IntKind.u64.wrap (m : Int) = (m : Int) := by rw [IntKind.wrap_u64]; omega
        have i1 : ¬ (k : Int) < (xs.length : Int) := by omega
        have i2 : decide ((k : Int) < (xs.length : Int)) = false := decide_eq_false i1
        have i3 : decide (xs.length ≤ k) = true := decide_eq_true (by omega)
        have i5 : decide (k < xs.length) = false := decide_eq_false (by omega)
        have i4 : (xs.length : Int) ≤ (k : Int) := by omega
        clear hm e1
        go_wp2
        go_quiet ((go_at_call 74; exact Calls.quiet_of_same (hmk _)))
        go_wp2
        go_roundg (xs.length + 12 - (k + 1))
        case measure => omega
        case rel => exact ⟨k + 1, by omega, rfl, by go_num, below_quiet hb _⟩
    · have i0 : ¬ (k : Int) < ((xs.length + 12 : Nat) : Int) := by omega
      have i0' : ¬ (k : Int) < (xs.length : Int) + 12 := by omega
      go_wp2
      go_ret
      exact ⟨rfl, hb⟩
set_option maxHeartbeats 1000000 in
theorem keptDyad_any (d : Dy) (ao : Option Addr) (cap g : Nat) (w : World) (hr : LRow w ao d.mag) (hl : Lent w g d.mag) (hn : d.mag.length ≤ 17592186044416) :
    Calls Tryz.prog 19 #[.agg #[.bool d.neg, .slice (some ⟨g, 0, none⟩) d.mag.length (d.mag.length + 12), .int .i64 d.exp], .agg #[.bool d.neg, .slice ao d.mag.length cap, .int .i64 d.exp]] w fun e w' => e = .returned (.bool true) ∧ Below w.heap.size w w' := by
  have hS := fun w' (h1 : LRow w' (some ⟨g, 0, none⟩) d.mag) (h2 : LRow w' ao d.mag) => sameDyad_any d d (some ⟨g, 0, none⟩) ao (d.mag.length + 12) cap w' h1 h2 (by omega)
  rw [eqB_self] at hS
  obtain ⟨neg, xs, ex⟩ := d
  simp only at *
  have hK := fun w' (h1 : LRow w' ao xs) (h2 : Lent w' g xs) => keptLimbs_any xs ao cap g w' h1 h2 hn
  go_enter Tryz.func19, Tryz.ntmps19
  go_wp2_with (first
    | (go_at_call 59; refine (hS _ ((hl.alloc _).alloc _).lrow ((hr.alloc _).alloc _)).mono ?_; rintro e w1 ⟨rfl, hb⟩; obtain ⟨⟨c0, c1, c2⟩, ⟨d0, d1, d2⟩, _⟩ := box2 hb)
    | (go_at_call 50; refine (hK _ (((hr.alloc _).alloc _).below hb) (((hl.alloc _).alloc _).below hb)).mono ?_; rintro e w2 ⟨rfl, hb2⟩))
  go_ret
  have h3 := box2_old hb
  exact ⟨rfl, h3.trans (hb2.mono h3.size)⟩
theorem grown_set {w w1 : World} {g : Nat} (h : w.grownBy w1 (some g)) (k : Nat) (v : Value) : w.grownBy (w1.setCell ⟨g, k, none⟩ v) (some g) := by
  have hB : Below 0 w1 (w1.setCell ⟨g, k, none⟩ v) := (Below.refl 0 w1).setCell (Nat.zero_le _) _
  exact ⟨hB.os.trans h.os, hB.tape.trans h.tape, hB.output.trans h.output, Nat.le_trans h.size hB.size, fun b hb hne => by
    rw [Below.heap_setCell w1 ⟨g, k, none⟩ v b (fun e => hne (by rw [e]))]; exact h.block b hb hne⟩
theorem LRow.far {w w1 : World} {g : Nat} {ao : Option Addr} {xs : List Nat} (h : LRow w ao xs) (hg : w.grownBy w1 (some g)) (hne : ∀ a, ao = some a → a.block ≠ g) : LRow w1 ao xs := by
  rcases h with h | ⟨b, off, rfl, hc⟩
  · exact Or.inl h
  · exact Or.inr ⟨b, off, rfl, fun j hj => hg.cell (hc j hj) (fun e => hne _ rfl (by injection e))⟩
theorem Lent.frow {w : World} {g : Nat} {xs : List Nat} (h : Lent w g xs) : ∃ f, FRow w g (xs.length + 12) f := by
  refine ⟨fun j => (xs ++ mks 1 12).getD j 0, ?_⟩
  rcases h.2 with ⟨e, _⟩ | ⟨g', cap, cur, e, h1, h2, h3, h4, h5, h6⟩
  · cases e
  · cases e
    rw [Nat.mul_one] at h5 h6
    refine ⟨cur, h2, h5, fun i hi => ?_⟩
    have e1 : cur.toList = uv (xs ++ mks 1 12) := by rw [← h6, List.take_of_length_le (by simp [h5])]
    have e2 := uv_at (xs := xs ++ mks 1 12) (j := i) (by rw [List.length_append, mks_length]; exact hi)
    rw [← e1] at e2
    simpa using e2
end Go.Proofs.YtnclddfljghebaaGreatDoor
