/- What Make, Identity, Transpose, Sub, Mul, Apply, Symmetric of the program answer. -/
import Derived.Test.YthbnffnoldmcnaaMx4
namespace Go.Proofs.Ythbnffnoldmcnaa
open Go.RowKit

/-- An answer: rows, columns, numbers (a NaN as none), the error. -/
structure An where
  rows : Int
  cols : Int
  os : List (Option Nat)
  err : Int
/-- A matrix and an error handed back: what they are, the numbers in new memory. -/
def GaveA (w : World) (a : An) (e : Ending) (w' : World) : Prop := ∃ v, e = .returned (.tuple #[.agg #[.int .i64 a.rows, .int .i64 a.cols, v], .int .i64 a.err]) ∧ GaveF w a.os v w'
def noA (q : Int) : An := ⟨0, 0, [], q⟩
def mkA (r c : Int) : An := if okN r && okN c then ⟨r, c, tabM r.toNat c.toNat (fun _ _ => some 0), 0⟩ else noA 2
def idA (n : Int) : An := if okN n then ⟨n, n, tabM n.toNat n.toNat idO, 0⟩ else noA 2
def trA (r c : Int) (xs : List Nat) : An := if rightM r c xs.length then ⟨c, r, tabM c.toNat r.toNat (fun i j => enO c.toNat xs j i), 0⟩ else noA 4
def sbA (r c : Int) (xs : List Nat) (r2 c2 : Int) (ys : List Nat) : An := if rightM r c xs.length && rightM r2 c2 ys.length && alikeM r c r2 c2 then ⟨r, c, tabM r.toNat c.toNat (fun i j => opO .sub (enO c.toNat xs i j) (enO c.toNat ys i j)), 0⟩ else noA 4
def mlA (r c : Int) (xs : List Nat) (r2 c2 : Int) (ys : List Nat) : An := if rightM r c xs.length && rightM r2 c2 ys.length && decide (c = r2) then ⟨r, c2, tabM r.toNat c2.toNat (fun i j => muO c.toNat c2.toNat xs ys i j c.toNat), 0⟩ else noA 4
theorem GaveF.up' {w0 w w' : World} {os : List (Option Nat)} {v : Value} (h : GaveF w os v w') (hb : Below w0.heap.size w0 w) : GaveF w0 os v w' := by
  obtain ⟨ao, cap, rs, h1, h2, h3, h4, h5, h6⟩ := h
  exact ⟨ao, cap, rs, h1, h2, h3, h4, h5.mono hb.size, hb.trans (h6.mono hb.size)⟩
/-- A list handed back, its address, room and numbers told. -/
def GvL (w : World) (os : List (Option Nat)) (ao : Option Addr) (cap : Nat) (rs : List Nat) (w' : World) : Prop := LN os rs ∧ GRow w' ao rs ∧ rs.length ≤ cap ∧ Frs w.heap.size ao ∧ Below w.heap.size w w'
theorem GRow.boxed {w : World} {ao : Option Addr} {xs : List Nat} {n b : Nat} (h : GRow w ao xs) (hf : Frs n ao) (hb : b < n) (x y z : Value) : GRow (((w.setCell ⟨b, 0, none⟩ x).setCell ⟨b, 1, none⟩ y).setCell ⟨b, 2, none⟩ z) ao xs := by
  rcases h with h | ⟨c, off, rfl, hc⟩
  · exact Or.inl h
  · have hge : n ≤ c := hf _ rfl
    have hne : ∀ o p, (⟨c, o, none⟩ : Addr) ≠ ⟨b, p, none⟩ := fun o p e => by cases e; omega
    have hne' : ∀ o p, (⟨b, p, none⟩ : Addr) ≠ ⟨c, o, none⟩ := fun o p e => by cases e; omega
    refine Or.inr ⟨c, off, rfl, fun j hj => ?_⟩
    exact (World.cell?_setCell_other _ _ _ z (by first | exact hne _ _ | exact hne' _ _)).trans ((World.cell?_setCell_other _ _ _ y (by first | exact hne _ _ | exact hne' _ _)).trans ((World.cell?_setCell_other _ _ _ x (by first | exact hne _ _ | exact hne' _ _)).trans (hc j hj)))
theorem GvL.put {w w1 w2 : World} {os : List (Option Nat)} {ao : Option Addr} {cap : Nat} {rs : List Nat} {b : Nat} (h : GvL w1 os ao cap rs w2) (h1 : Below w.heap.size w w1) (hb : w.heap.size ≤ b) (hb1 : b < w1.heap.size) (x y z : Value) : GaveF w os (.slice ao rs.length cap) (((w2.setCell ⟨b, 0, none⟩ x).setCell ⟨b, 1, none⟩ y).setCell ⟨b, 2, none⟩ z) := by
  obtain ⟨e2, e3, e4, e5, e6⟩ := h
  exact ⟨ao, cap, rs, rfl, e2, e3.boxed e5 hb1 x y z, e4, e5.mono h1.size, set_three (h1.trans (e6.mono h1.size)) hb _ _ _⟩
theorem GaveF.none_put {w w1 : World} {b : Nat} (h1 : Below w.heap.size w w1) (hb : w.heap.size ≤ b) (x y z : Value) : GaveF w [] (.slice none 0 0) (((w1.setCell ⟨b, 0, none⟩ x).setCell ⟨b, 1, none⟩ y).setCell ⟨b, 2, none⟩ z) := GaveF.nil (set_three h1 hb _ _ _)
set_option maxHeartbeats 1000000 in
theorem mmake_any (r c : Int) (w : World) : Calls Try.prog 9 #[.int .i64 r, .int .i64 c] w fun e w' => GaveA w (mkA r c) e w' := by
  have hB : ∀ o, Below w.heap.size w (w.alloc o) := fun o => below_one w o
  have co := morder_any
  unfold mkA
  cases q1 : okN r
  · have c1 := fun w => co r w
    rw [q1] at c1
    have hG := fun o => GaveF.nil (hB o)
    go_enter Try.func9, Try.ntmps9
    go_wp2_with (go_at_call 45; refine (c1 _).mono ?_; rintro e w' ⟨rfl, h'⟩; subst w')
    exact bodyPost_ret (v := .tuple #[.agg #[.int .i64 0, .int .i64 0, .slice none 0 0], .int .i64 2]) (by simp [results, Try.results9, go_sem]) rfl ⟨_, rfl, hG _⟩
  · cases q2 : okN c
    · have c1 := fun w => co r w
      have c2 := fun w => co c w
      rw [q1] at c1
      rw [q2] at c2
      have hG := fun o => GaveF.nil (hB o)
      go_enter Try.func9, Try.ntmps9
      go_wp2_with (first | (go_at_call_of 45 (Value.int IntKind.i64 r); refine (c1 _).mono ?_; rintro e w' ⟨rfl, h'⟩; subst w') | (go_at_call_of 45 (Value.int IntKind.i64 c); refine (c2 _).mono ?_; rintro e w' ⟨rfl, h'⟩; subst w'))
      exact bodyPost_ret (v := .tuple #[.agg #[.int .i64 0, .int .i64 0, .slice none 0 0], .int .i64 2]) (by simp [results, Try.results9, go_sem]) rfl ⟨_, rfl, hG _⟩
    · have c1 := fun w => co r w
      have c2 := fun w => co c w
      rw [q1] at c1
      rw [q2] at c2
      obtain ⟨R, rfl, hR⟩ := okN_nat q1
      obtain ⟨C, rfl, hC⟩ := okN_nat q2
      have cf := fun w => mfill_make (fun _ _ => some 0) R C w hR hC (fun i j wr _ _ _ => make1_all i j wr)
      simp only [Bool.and_self, if_true, Int.toNat_natCast]
      generalize tabM R C (fun _ _ => some 0) = os at *
      clear q1 q2 co
      go_enter Try.func9, Try.ntmps9
      go_wp2_with (first | (go_at_call 46; refine (cf _).mono ?_; rintro e w1 ⟨_, rfl, zo, zc, zs, rfl, hz⟩; have hv : GvL _ os zo zc zs w1 := hz; clear hz; obtain ⟨r0, r1, r2, s0, s1, s2, _⟩ := (B3.new _ _ _ _ _).below hv.2.2.2.2) | (go_at_call_of 45 (Value.int IntKind.i64 (R : Int)); refine (c1 _).mono ?_; rintro e w' ⟨rfl, h'⟩; subst w') | (go_at_call_of 45 (Value.int IntKind.i64 (C : Int)); refine (c2 _).mono ?_; rintro e w' ⟨rfl, h'⟩; subst w'))
      exact bodyPost_ret (v := .tuple #[.agg #[.int .i64 R, .int .i64 C, .slice zo zs.length zc], .int .i64 0]) (by simp [results, Try.results9, go_sem, r0, r1, r2]) rfl ⟨_, rfl, hv.put (hB _) (Nat.le_refl _) (by go_simp) _ _ _⟩
set_option maxHeartbeats 1000000 in
theorem mident_any (n : Int) (w : World) : Calls Try.prog 10 #[.int .i64 n] w fun e w' => GaveA w (idA n) e w' := by
  have hB : ∀ o, Below w.heap.size w (w.alloc o) := fun o => below_one w o
  have c1 := fun w => morder_any n w
  unfold idA
  cases q1 : okN n
  · rw [q1] at c1
    have hG := fun o => GaveF.nil (hB o)
    go_enter Try.func10, Try.ntmps10
    go_wp2_with (go_at_call 45; refine (c1 _).mono ?_; rintro e w' ⟨rfl, h'⟩; subst w')
    exact bodyPost_ret (v := .tuple #[.agg #[.int .i64 0, .int .i64 0, .slice none 0 0], .int .i64 2]) (by simp [results, Try.results10, go_sem]) rfl ⟨_, rfl, hG _⟩
  · rw [q1] at c1
    obtain ⟨R, rfl, hR⟩ := okN_nat q1
    have cf := fun w => mfill_ident idO R R w hR hR (fun i j wr _ _ _ => ident1_all i j wr)
    simp only [if_true, Int.toNat_natCast]
    generalize tabM R R idO = os at *
    clear q1
    go_enter Try.func10, Try.ntmps10
    go_wp2_with (first | (go_at_call 46; refine (cf _).mono ?_; rintro e w1 ⟨_, rfl, zo, zc, zs, rfl, hz⟩; have hv : GvL _ os zo zc zs w1 := hz; clear hz; obtain ⟨r0, r1, r2, s0, s1, s2, _⟩ := (B3.new _ _ _ _ _).below hv.2.2.2.2) | (go_at_call 45; refine (c1 _).mono ?_; rintro e w' ⟨rfl, h'⟩; subst w'))
    exact bodyPost_ret (v := .tuple #[.agg #[.int .i64 R, .int .i64 R, .slice zo zs.length zc], .int .i64 0]) (by simp [results, Try.results10, go_sem, r0, r1, r2]) rfl ⟨_, rfl, hv.put (hB _) (Nat.le_refl _) (by go_simp) _ _ _⟩
set_option maxHeartbeats 1000000 in
theorem mtrans_any (r c : Int) (xs : List Nat) (ao : Option Addr) (cap : Nat) (w : World) (hr : GRow w ao xs) (hF : FW xs) :
    Calls Try.prog 28 #[mxV r c ao xs.length cap] w fun e w' => GaveA w (trA r c xs) e w' := by
  have c1 := fun w => mright_any r c ao xs.length cap w
  unfold trA
  cases q1 : rightM r c xs.length
  · rw [q1] at c1
    go_enter Try.func28, Try.ntmps28
    go_wp2_with (go_at_call 19; refine (c1 _).mono ?_; rintro e w1 ⟨rfl, b1⟩; obtain ⟨r0, r1, r2, s0, s1, s2, _⟩ := (B3.newAt (n := w.heap.size + 1) (by go_simp) _ _ _ _).below b1)
    exact bodyPost_ret (v := .tuple #[.agg #[.int .i64 0, .int .i64 0, .slice none 0 0], .int .i64 4]) (by simp [results, Try.results28, go_sem, r0, r1, r2]) rfl ⟨_, rfl, GaveF.none_put (old_two b1) (by omega) _ _ _⟩
  · rw [q1] at c1
    obtain ⟨R, C, rfl, rfl, hR, hC, hl⟩ := rightM_nat q1
    simp only [if_true, Int.toNat_natCast]
    have cf := fun w1 (b1 : Below w.heap.size w w1) (hM : B3 w1 w.heap.size (.int .i64 R) (.int .i64 C) (.slice ao xs.length cap)) => mfill_trans (fun i j => enO C xs j i) C R w.heap.size w1 hC hR (fun i j wr hi hj hb => trans1_all R C xs ao cap w.heap.size i j wr (hr.below (b1.trans (hb.mono b1.size))) hF hl hR hC hi hj (hM.below hb))
    generalize tabM C R (fun i j => enO C xs j i) = os at *
    clear q1 hl hr hF
    generalize xs.length = n at *
    go_enter Try.func28, Try.ntmps28
    go_wp2_with (first
      | (go_at_call 19; refine (c1 _).mono ?_; rintro e w1 ⟨rfl, b1⟩; have bb := old_two b1; have MB := ((B3.new _ _ _ _ _).alloc _).below b1; have a0 := MB.1; have a1 := MB.2.1; have a2 := MB.2.2.1; have RB := (B3.newAt (n := w.heap.size + 1) (by go_simp) _ _ _ _).below b1)
      | (go_at_call 46; refine (cf _ bb MB).mono ?_; rintro e w2 ⟨_, rfl, zo, zc, zs, rfl, hz⟩; have hv : GvL _ os zo zc zs w2 := hz; clear hz; have hlt := RB.2.2.2.2.2.2; obtain ⟨r0, r1, r2, s0, s1, s2, _⟩ := RB.below hv.2.2.2.2))
    exact bodyPost_ret (v := .tuple #[.agg #[.int .i64 C, .int .i64 R, .slice zo zs.length zc], .int .i64 0]) (by simp [results, Try.results28, go_sem, r0, r1, r2]) rfl ⟨_, rfl, hv.put bb (by omega) hlt _ _ _⟩
end Go.Proofs.Ythbnffnoldmcnaa
