/- A matrix in a box; what alike, Right, Same, finite of the program answer. -/
import Derived.Test.YtclldmdhpojciaaMx1
namespace Go.Proofs.Ytclldmdhpojciaa
open Go.RowKit

/-- A box of three cells that may be written. -/
def B3 (w : World) (b : Nat) (x y z : Value) : Prop := w.cell? ⟨b, 0, none⟩ = some x ∧ w.cell? ⟨b, 1, none⟩ = some y ∧ w.cell? ⟨b, 2, none⟩ = some z ∧ w.frozen? ⟨b, 0, none⟩ = false ∧ w.frozen? ⟨b, 1, none⟩ = false ∧ w.frozen? ⟨b, 2, none⟩ = false ∧ b < w.heap.size
theorem B3.below {w w1 : World} {b : Nat} {x y z : Value} (h : B3 w b x y z) (hb : Below w.heap.size w w1) : B3 w1 b x y z := by
  obtain ⟨h0, h1, h2, g0, g1, g2, h5⟩ := h
  obtain ⟨hc, hf⟩ := oldc hb
  exact ⟨by rw [hc _ _ h5]; exact h0, by rw [hc _ _ h5]; exact h1, by rw [hc _ _ h5]; exact h2, by rw [hf _ _ h5]; exact g0, by rw [hf _ _ h5]; exact g1, by rw [hf _ _ h5]; exact g2, Nat.lt_of_lt_of_le h5 hb.size⟩
theorem B3.alloc {w : World} {b : Nat} {x y z : Value} (h : B3 w b x y z) (o : Obj) : B3 (w.alloc o) b x y z := h.below ((Below.refl _ _).alloc (Nat.le_refl _) o)
theorem B3.drew {w : World} {b : Nat} {x y z : Value} (h : B3 w b x y z) : B3 w.drew b x y z := h
theorem B3.new (w : World) (x y z : Value) (t : TypeId) : B3 (w.alloc (.cells #[x, y, z] t)) w.heap.size x y z := by
  refine ⟨?_, ?_, ?_, ?_, ?_, ?_, ?_⟩ <;> go_simp
theorem B3.newAt {w : World} {n : Nat} (hn : w.heap.size = n) (x y z : Value) (t : TypeId) : B3 (w.alloc (.cells #[x, y, z] t)) n x y z := by subst hn; exact B3.new w x y z t
theorem B3.far {w : World} {b : Nat} {x y z : Value} (h : B3 w b x y z) {c o : Nat} (hc : c ≠ b) (v : Value) : B3 (w.setCell ⟨c, o, none⟩ v) b x y z := by
  obtain ⟨h0, h1, h2, g0, g1, g2, h5⟩ := h
  have n : ∀ p, (⟨b, p, none⟩ : Addr) ≠ ⟨c, o, none⟩ := fun p e => hc (by cases e; rfl)
  have n' : ∀ p, (⟨c, o, none⟩ : Addr) ≠ ⟨b, p, none⟩ := fun p e => hc (by cases e; rfl)
  refine ⟨?_, ?_, ?_, ?_, ?_, ?_, ?_⟩
  · exact (World.cell?_setCell_other _ _ _ v (by first | exact n _ | exact n' _)).trans h0
  · exact (World.cell?_setCell_other _ _ _ v (by first | exact n _ | exact n' _)).trans h1
  · exact (World.cell?_setCell_other _ _ _ v (by first | exact n _ | exact n' _)).trans h2
  · simp [go_sem, g0]
  · simp [go_sem, g1]
  · simp [go_sem, g2]
  · simp [go_sem]; exact h5
theorem old_one {w w1 : World} {o : Obj} (hb : Below (w.alloc o).heap.size (w.alloc o) w1) : Below w.heap.size w w1 :=
  ((Below.refl _ _).alloc (Nat.le_refl _) o).trans (hb.mono (by go_simp))
theorem old_two {w w1 : World} {o p : Obj} (hb : Below ((w.alloc o).alloc p).heap.size ((w.alloc o).alloc p) w1) : Below w.heap.size w w1 := old_one (old_one hb)
theorem old_three {w w1 : World} {o p q : Obj} (hb : Below (((w.alloc o).alloc p).alloc q).heap.size (((w.alloc o).alloc p).alloc q) w1) : Below w.heap.size w w1 := old_one (old_two hb)
theorem set_three {w w1 : World} {b : Nat} (h : Below w.heap.size w w1) (hb : w.heap.size ≤ b) (x y z : Value) : Below w.heap.size w (((w1.setCell ⟨b, 0, none⟩ x).setCell ⟨b, 1, none⟩ y).setCell ⟨b, 2, none⟩ z) :=
  ((h.setCell hb _).setCell hb _).setCell hb _
def alikeM (r c r2 c2 : Int) : Bool := decide (r = r2) && decide (c = c2)
set_option maxHeartbeats 1000000 in
theorem mright_any (r c : Int) (ao : Option Addr) (n cap : Nat) (w : World) :
    Calls Try.prog 56 #[mxV r c ao n cap] w fun e w' => e = .returned (.bool (rightM r c n)) ∧ Below w.heap.size w w' := by
  have hb : ∀ o k, Below w.heap.size w ((w.alloc o).drewN k) := fun o k => below_drewN (old_one (Below.refl _ _)) _
  have co := morder_any
  cases q1 : okN r
  · have HE : Hid (rightM r c n = false) := (show rightM r c n = false by unfold rightM; rw [q1]; rfl)
    have c1 := fun w => co r w
    rw [q1] at c1
    clear q1 co
    go_enter Try.func56, Try.ntmps56
    go_wp2
    go_quiet ((go_at_call 53; exact Calls.quiet_of_same (c1 _)))
    go_wp2
    go_ret
    exact ⟨end_bool HE.out.symm, hb _ _⟩
  · cases q2 : okN c
    · have HE : Hid (rightM r c n = false) := (show rightM r c n = false by unfold rightM; rw [q1, q2]; rfl)
      have c1 := fun w => co r w
      have c2 := fun w => co c w
      rw [q1] at c1
      rw [q2] at c2
      clear q1 q2 co
      go_enter Try.func56, Try.ntmps56
      go_wp2
      go_quiet (first | (go_at_call_of 53 (Value.int IntKind.i64 r); exact Calls.quiet_of_same (c1 _)) | (go_at_call_of 53 (Value.int IntKind.i64 c); exact Calls.quiet_of_same (c2 _)))
      go_wp2
      go_ret
      exact ⟨end_bool HE.out.symm, hb _ _⟩
    · have c1 := fun w => co r w
      have c2 := fun w => co c w
      rw [q1] at c1
      rw [q2] at c2
      obtain ⟨R, rfl, hR⟩ := okN_nat q1
      obtain ⟨C, rfl, hC⟩ := okN_nat q2
      obtain ⟨p, hp⟩ : ∃ p, R * C = p := ⟨_, rfl⟩
      have cc := fun w => mcount_any R C p hR hC hp w
      have e1 : rightM R C n = decide (n = p) := by
        unfold rightM
        rw [q1, q2, mulI, hp]
        by_cases h : n = p
        · subst h; simp
        · rw [decide_eq_false h, decide_eq_false (by omega)]; rfl
      rw [e1]
      clear e1 q1 q2 co hp hR hC
      by_cases h : n = p
      · rw [decide_eq_true h]
        have b1 : ((n : Int) == (p : Int)) = true := by simp [h]
        clear h
        go_enter Try.func56, Try.ntmps56
        go_wp2
        go_quiet (first | (go_at_call 59; exact Calls.quiet_of_same (cc _)) | (go_at_call_of 53 (Value.int IntKind.i64 (R : Int)); exact Calls.quiet_of_same (c1 _)) | (go_at_call_of 53 (Value.int IntKind.i64 (C : Int)); exact Calls.quiet_of_same (c2 _)))
        go_wp2
        go_ret
        exact ⟨rfl, hb _ _⟩
      · rw [decide_eq_false h]
        have b1 : ((n : Int) == (p : Int)) = false := by simp; omega
        clear h
        go_enter Try.func56, Try.ntmps56
        go_wp2
        go_quiet (first | (go_at_call 59; exact Calls.quiet_of_same (cc _)) | (go_at_call_of 53 (Value.int IntKind.i64 (R : Int)); exact Calls.quiet_of_same (c1 _)) | (go_at_call_of 53 (Value.int IntKind.i64 (C : Int)); exact Calls.quiet_of_same (c2 _)))
        go_wp2
        go_ret
        exact ⟨rfl, hb _ _⟩
/-- Are both the same, right or not? -/
def sameM (r c : Int) (xs : List Nat) (r2 c2 : Int) (ys : List Nat) : Bool := alikeM r c r2 c2 && sameL xs ys
end Go.Proofs.Ytclldmdhpojciaa
