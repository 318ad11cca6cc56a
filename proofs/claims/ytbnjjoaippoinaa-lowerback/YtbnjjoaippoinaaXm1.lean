/- What Mul and Apply of the document answer, right or not. -/
import Derived.Test.YtbnjjoaippoinaaMx7
import Derived.Deep.RegionHeld3
import Derived.Test.YtbnjjoaippoinaaMx9
import Derived.Test.YtbnjjoaippoinaaMx8
namespace Go.Proofs.Ytbnjjoaippoinaa
open Go.RowKit

set_option maxHeartbeats 400000 in
theorem rmay_any (n : Int) (w : World) : Calls Try.prog 61 #[.int .i64 n] w fun e w' => e = .returned (.bool (okN n)) ∧ w' = w := by
  unfold okN
  by_cases h1 : 0 ≤ n
  · rw [decide_eq_true h1]
    by_cases h2 : n ≤ 48
    · rw [decide_eq_true h2]
      go_enter Try.func61, Try.ntmps61
      go_wp2
      go_ret
      exact ⟨rfl, rfl⟩
    · rw [decide_eq_false h2]
      go_enter Try.func61, Try.ntmps61
      go_wp2
      go_ret
      exact ⟨rfl, rfl⟩
  · rw [decide_eq_false h1]
    go_enter Try.func61, Try.ntmps61
    go_wp2
    go_ret
    exact ⟨rfl, rfl⟩
set_option maxHeartbeats 1000000 in
theorem rright_any (r c : Int) (ao : Option Addr) (n cap : Nat) (w : World) :
    Calls Try.prog 47 #[mxV r c ao n cap] w fun e w' => e = .returned (.bool (rightM r c n)) ∧ Below w.heap.size w w' := by
  have hb : ∀ o, Below w.heap.size w (w.alloc o) := fun o => below_one w o
  have co := rmay_any
  cases q1 : okN r
  · have HE : Hid (rightM r c n = false) := (show rightM r c n = false by unfold rightM; rw [q1]; rfl)
    have c1 := fun w => co r w
    rw [q1] at c1
    clear q1 co
    go_enter Try.func47, Try.ntmps47
    go_wp2_with (go_at_call 61; refine (c1 _).mono ?_; rintro e w' ⟨rfl, h'⟩; subst w')
    go_ret
    exact ⟨end_bool HE.out.symm, hb _⟩
  · cases q2 : okN c
    · have HE : Hid (rightM r c n = false) := (show rightM r c n = false by unfold rightM; rw [q1, q2]; rfl)
      have c1 := fun w => co r w
      have c2 := fun w => co c w
      rw [q1] at c1
      rw [q2] at c2
      clear q1 q2 co
      go_enter Try.func47, Try.ntmps47
      go_wp2_with (first | (go_at_call_of 61 (Value.int IntKind.i64 r); refine (c1 _).mono ?_; rintro e w' ⟨rfl, h'⟩; subst w') | (go_at_call_of 61 (Value.int IntKind.i64 c); refine (c2 _).mono ?_; rintro e w' ⟨rfl, h'⟩; subst w'))
      go_ret
      exact ⟨end_bool HE.out.symm, hb _⟩
    · have c1 := fun w => co r w
      have c2 := fun w => co c w
      rw [q1] at c1
      rw [q2] at c2
      obtain ⟨R, rfl, hR⟩ := okN_nat q1
      obtain ⟨C, rfl, hC⟩ := okN_nat q2
      obtain ⟨p, hp⟩ : ∃ p, R * C = p := ⟨_, rfl⟩
      have hpb : p ≤ 2304 := by rw [← hp]; exact mul48 hR hC
      have eM : (R : Int) * (C : Int) = (p : Int) := by rw [mulI, hp]
      have e1 : rightM R C n = decide (n = p) := by
        unfold rightM
        rw [q1, q2, eM]
        by_cases h : n = p
        · subst h; simp
        · rw [decide_eq_false h, decide_eq_false (by omega)]; rfl
      rw [e1]
      clear e1 q1 q2 co hp hR hC
      by_cases h : n = p
      · rw [decide_eq_true h]
        have b1 : ((n : Int) == (p : Int)) = true := by simp [h]
        clear h
        go_enter Try.func47, Try.ntmps47
        go_wp2_with (first | (go_at_call_of 61 (Value.int IntKind.i64 (R : Int)); refine (c1 _).mono ?_; rintro e w' ⟨rfl, h'⟩; subst w') | (go_at_call_of 61 (Value.int IntKind.i64 (C : Int)); refine (c2 _).mono ?_; rintro e w' ⟨rfl, h'⟩; subst w'))
        go_ret
        exact ⟨rfl, hb _⟩
      · rw [decide_eq_false h]
        have b1 : ((n : Int) == (p : Int)) = false := by simp; omega
        clear h
        go_enter Try.func47, Try.ntmps47
        go_wp2_with (first | (go_at_call_of 61 (Value.int IntKind.i64 (R : Int)); refine (c1 _).mono ?_; rintro e w' ⟨rfl, h'⟩; subst w') | (go_at_call_of 61 (Value.int IntKind.i64 (C : Int)); refine (c2 _).mono ?_; rintro e w' ⟨rfl, h'⟩; subst w'))
        go_ret
        exact ⟨rfl, hb _⟩
set_option maxHeartbeats 1000000 in
theorem rat_any (xs : List Nat) (R : Int) (C i j p n cap : Nat) (ao : Option Addr) (w : World) (hr : GRow w ao xs) (hi : i ≤ 48) (hC : C ≤ 48) (hj : j ≤ 48) (hp : i * C + j = p) (hl : p < xs.length) (hn : xs.length = n) :
    Calls Try.prog 49 #[mxV R C ao n cap, .int .i64 i, .int .i64 j] w fun e w' => e = .returned (.float .f64 (xs.getD p 0)) ∧ Below w.heap.size w w' := by
  rcases hr with h | ⟨b, off, rfl, hc⟩
  · omega
  have g := hc p hl
  rw [hn] at hl
  have hm := mul48 hi hC
  obtain ⟨q, hq⟩ : ∃ q, i * C = q := ⟨_, rfl⟩
  have e1 : (i : Int) * (C : Int) = (q : Int) := by rw [mulI, hq]
  rw [hq] at hm hp
  clear hq
  subst hp
  generalize xs.getD (q + j) 0 = x at *
  have hlI : (q : Int) + (j : Int) < (n : Int) := by omega
  have n1 : ((q : Int) + (j : Int)).toNat = q + j := by omega
  have hold : ∀ o, Below w.heap.size w (w.alloc o) := fun o => below_one w o
  have k3 : ∀ o, (w.alloc o).cell? ⟨b, off + (q + j), none⟩ = some (.float .f64 x) := fun o => by rw [(hold o).cell (World.block_lt_of_cell? w _ g)]; exact g
  clear hc
  go_enter Try.func49, Try.ntmps49
  go_wp2
  go_ret
  exact ⟨rfl, hold _⟩
/-- What stands in memory while the document fills a matrix: the answer's box, the matrix's box, its row. -/
structure OutS (w wr : World) (S M g R C N : Nat) (f : Nat → Nat) : Prop where
  res : B3 wr S (.int .i64 0) (.int .i64 0) (.slice none 0 0)
  mbox : B3 wr M (.int .i64 R) (.int .i64 C) (.slice (some ⟨g, 0, none⟩) N N)
  row : RRow wr g N f
  lo : w.heap.size ≤ S ∧ S < g ∧ g < M ∧ g < wr.heap.size
  below : Below w.heap.size w wr
theorem OutS.drew {w wr : World} {S M g R C N : Nat} {f : Nat → Nat} (h : OutS w wr S M g R C N f) : OutS w wr.drew S M g R C N f := ⟨h.res.drew, h.mbox.drew, h.row, h.lo, h.below.drew⟩
theorem OutS.later {w wr w1 : World} {S M g R C N : Nat} {f : Nat → Nat} (h : OutS w wr S M g R C N f) (hb : Below wr.heap.size wr w1) : OutS w w1 S M g R C N f :=
  ⟨h.res.below hb, h.mbox.below hb, h.row.below hb h.lo.2.2.2, ⟨h.lo.1, h.lo.2.1, h.lo.2.2.1, Nat.lt_of_lt_of_le h.lo.2.2.2 hb.size⟩, h.below.trans (hb.mono h.below.size)⟩
theorem OutS.set {w wr : World} {S M g R C N : Nat} {f : Nat → Nat} (h : OutS w wr S M g R C N f) (q r : Nat) : OutS w (wr.setCell ⟨g, q, none⟩ (.float .f64 r)) S M g R C N (fun p => if p = q then r else f p) := by
  have := h.lo
  exact ⟨h.res.far (by omega) _, h.mbox.far (by omega) _, h.row.set q r, ⟨this.1, this.2.1, this.2.2.1, by simp [World.setCell]; exact this.2.2.2⟩, h.below.setCell (by show w.heap.size ≤ g; omega) _⟩
theorem OutS.fin {w wr : World} {S M g R C N : Nat} {f : Nat → Nat} (h : OutS w wr S M g R C N f) {x y z : Value} : RRow (((wr.setCell ⟨S, 0, none⟩ x).setCell ⟨S, 1, none⟩ y).setCell ⟨S, 2, none⟩ z) g N f ∧ Below w.heap.size w (((wr.setCell ⟨S, 0, none⟩ x).setCell ⟨S, 1, none⟩ y).setCell ⟨S, 2, none⟩ z) := by
  have := h.lo
  refine ⟨?_, set_three h.below (by omega) _ _ _⟩
  have n1 : g ≠ S := by omega
  exact World.rowIs.setOther (World.rowIs.setOther (World.rowIs.setOther h.row (by exact n1) _) (by exact n1) _) (by exact n1) _
/-- The answer, once all is filled. -/
theorem OutS.gave {w wr : World} {S M g R C N : Nat} {f : Nat → Nat} {o : Nat → Nat → Option Nat} (h : OutS w wr S M g R C N f) (hN : R * C = N) (hv : ∀ p, p < N → NR (o (p / C) (p % C)) (f p)) (x y z : Value) : GaveF w (tabM R C o) (.slice (some ⟨g, 0, none⟩) N N) (((wr.setCell ⟨S, 0, none⟩ x).setCell ⟨S, 1, none⟩ y).setCell ⟨S, 2, none⟩ z) := by
  have := h.lo
  unfold tabM
  rw [hN]
  exact ⟨some ⟨g, 0, none⟩, N, toL' N f, by rw [toL'_len], LN_tab (toL'_len _ _) (fun i hi => by rw [toL'_at hi]; exact hv i hi), (h.fin).1.grow (toL'_len _ _) (fun j hj => toL'_at hj), by rw [toL'_len]; exact Nat.le_refl _, fun a e => by cases e; show w.heap.size ≤ g; omega, (h.fin).2⟩
end Go.Proofs.Ytbnjjoaippoinaa

namespace Go.Proofs.Ytbnjjoaippoinaa
open Go.RowKit

end Go.Proofs.Ytbnjjoaippoinaa

namespace Go.Proofs.Ytbnjjoaippoinaa
open Go.RowKit

theorem own_later {w w' : World} {b : Nat} {e : TypeId} {v : Value} {n : Nat} {xs : List Value} (h : w.ownsRow b e 1 v n xs) (hb : Below w.heap.size w w') : w'.ownsRow b e 1 v n xs := by
  have hl := h.lt
  refine ⟨h.1, ?_⟩
  rcases h.2 with hn | ⟨g, cap, cur, rfl, h2, h3, h4⟩
  · exact Or.inl hn
  · exact Or.inr ⟨g, cap, cur, rfl, h2, by rw [hb.block g (hl g rfl).2]; exact h3, h4⟩
end Go.Proofs.Ytbnjjoaippoinaa
