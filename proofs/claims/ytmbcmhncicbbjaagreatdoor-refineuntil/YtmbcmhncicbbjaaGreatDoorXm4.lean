/- What Sub, Mul, Apply and Symmetric of the program answer. -/
import Derived.Test.YtmbcmhncicbbjaaGreatDoorU4
namespace Go.Proofs.YtmbcmhncicbbjaaGreatDoor
open Go.RowKit

theorem below_one (w : World) (o : Obj) : Below w.heap.size w (w.alloc o) := (Below.refl _ _).alloc (Nat.le_refl _) _
/-- What is told of each place, row by row. -/
def tabM (R C : Nat) (o : Nat → Nat → Option Nat) : List (Option Nat) := tab (R * C) (fun p => o (p / C) (p % C))
theorem tabM_len (R C : Nat) (o : Nat → Nat → Option Nat) : (tabM R C o).length = R * C := tab_len _ _
theorem NR_next {o : Nat → Nat → Option Nat} {C k j r : Nat} {f : Nat → Nat} (hj : j < C) (h : ∀ p, p < k * C + j → NR (o (p / C) (p % C)) (f p)) (hr : NR (o k j) r) : ∀ p, p < k * C + (j + 1) → NR (o (p / C) (p % C)) (if p = k * C + j then r else f p) := by
  intro p hp
  by_cases e : p = k * C + j
  · subst e
    rw [if_pos rfl, (at_div hj).1, (at_div hj).2]
    exact hr
  · rw [if_neg e]
    exact h p (by omega)
/-- What stands in memory while a matrix is filled: the answer's box, the row, the matrix's box. -/
structure FillS (w wr : World) (R C N : Nat) (f : Nat → Nat) : Prop where
  res : B3 wr w.heap.size (.int .i64 0) (.int .i64 0) (.slice none 0 0)
  row : RRow wr (w.heap.size + 1) N f
  mbox : B3 wr (w.heap.size + 1 + 1) (.int .i64 R) (.int .i64 C) (.slice (some ⟨w.heap.size + 1, 0, none⟩) N N)
  below : Below w.heap.size w wr
theorem FillS.start (w : World) (R C N : Nat) (s u : TypeId) : FillS w (((w.alloc (.cells #[.int .i64 0, .int .i64 0, .slice none 0 0] s)).alloc (.cells (madeCells #[.float .f64 0] N) 48)).alloc (.cells #[.int .i64 R, .int .i64 C, .slice (some ⟨w.heap.size + 1, 0, none⟩) N N] u)) R C N (fun _ => 0) := by
  have e1 : (w.alloc (.cells #[.int .i64 0, .int .i64 0, .slice none 0 0] s)).heap.size = w.heap.size + 1 := by go_simp
  have e2 : ((w.alloc (.cells #[.int .i64 0, .int .i64 0, .slice none 0 0] s)).alloc (.cells (madeCells #[.float .f64 0] N) 48)).heap.size = w.heap.size + 1 + 1 := by go_simp
  refine ⟨((B3.new _ _ _ _ _).alloc _).alloc _, ?_, B3.newAt e2 _ _ _ _, old_three (Below.refl _ _)⟩
  have h := RRow.made (w.alloc (.cells #[.int .i64 0, .int .i64 0, .slice none 0 0] s)) N
  rw [e1] at h
  exact h.below (below_one _ _) (by rw [e2]; omega)
theorem FillS.drew {w wr : World} {R C N : Nat} {f : Nat → Nat} (h : FillS w wr R C N f) : FillS w wr.drew R C N f := ⟨h.res.drew, h.row, h.mbox.drew, h.below.drew⟩
theorem FillS.later {w wr w1 : World} {R C N : Nat} {f : Nat → Nat} (h : FillS w wr R C N f) (hb : Below wr.heap.size wr w1) : FillS w w1 R C N f :=
  ⟨h.res.below hb, h.row.below hb (by have := h.mbox.2.2.2.2.2.2; omega), h.mbox.below hb, h.below.trans (hb.mono h.below.size)⟩
theorem FillS.set {w wr : World} {R C N : Nat} {f : Nat → Nat} (h : FillS w wr R C N f) {q : Nat} (_hq : q < N) (r : Nat) : FillS w (wr.setCell ⟨w.heap.size + 1, q, none⟩ (.float .f64 r)) R C N (fun p => if p = q then r else f p) :=
  ⟨h.res.far (by omega) _, h.row.set q r, h.mbox.far (by omega) _, h.below.setCell (by show w.heap.size ≤ w.heap.size + 1; omega) _⟩
theorem FillS.fin {w wr : World} {R C N : Nat} {f : Nat → Nat} (h : FillS w wr R C N f) {x y z : Value} : RRow (((wr.setCell ⟨w.heap.size, 0, none⟩ x).setCell ⟨w.heap.size, 1, none⟩ y).setCell ⟨w.heap.size, 2, none⟩ z) (w.heap.size + 1) N f ∧ Below w.heap.size w (((wr.setCell ⟨w.heap.size, 0, none⟩ x).setCell ⟨w.heap.size, 1, none⟩ y).setCell ⟨w.heap.size, 2, none⟩ z) := by
  refine ⟨?_, set_three h.below (Nat.le_refl _) _ _ _⟩
  have n1 : w.heap.size + 1 ≠ w.heap.size := by omega
  exact World.rowIs.setOther (World.rowIs.setOther (World.rowIs.setOther h.row (by exact n1) _) (by exact n1) _) (by exact n1) _
end Go.Proofs.YtmbcmhncicbbjaaGreatDoor

namespace Go.Proofs.YtmbcmhncicbbjaaGreatDoor
open Go.RowKit

/-- An answer: rows, columns, numbers (a NaN as none), the error. -/
structure An where
  rows : Int
  cols : Int
  os : List (Option Nat)
  err : Int
/-- A matrix and an error handed back: what they are, the numbers in new memory. -/
def GaveA (w : World) (a : An) (e : Ending) (w' : World) : Prop := ∃ v, e = .returned (.tuple #[.agg #[.int .i64 a.rows, .int .i64 a.cols, v], .int .i64 a.err]) ∧ GaveF w a.os v w'
def noA (q : Int) : An := ⟨0, 0, [], q⟩
def mkA (r c : Int) : An := if okN r && okN c then ⟨r, c, tabM r.toNat c.toNat (fun _ _ => some 0), 0⟩ else noA 2
def idA (n : Int) : An := if okN n then ⟨n, n, tabM n.toNat n.toNat idO, 0⟩ else noA 2
def trA (r c : Int) (xs : List Nat) : An := if rightM r c xs.length then ⟨c, r, tabM c.toNat r.toNat (fun i j => enO c.toNat xs j i), 0⟩ else noA 4
def sbA (r c : Int) (xs : List Nat) (r2 c2 : Int) (ys : List Nat) : An := if rightM r c xs.length && rightM r2 c2 ys.length && alikeM r c r2 c2 then ⟨r, c, tabM r.toNat c.toNat (fun i j => opO .sub (enO c.toNat xs i j) (enO c.toNat ys i j)), 0⟩ else noA 4
def mlA (r c : Int) (xs : List Nat) (r2 c2 : Int) (ys : List Nat) : An := if rightM r c xs.length && rightM r2 c2 ys.length && decide (c = r2) then ⟨r, c2, tabM r.toNat c2.toNat (fun i j => muO c.toNat c2.toNat xs ys i j c.toNat), 0⟩ else noA 4
theorem GaveF.up' {w0 w w' : World} {os : List (Option Nat)} {v : Value} (h : GaveF w os v w') (hb : Below w0.heap.size w0 w) : GaveF w0 os v w' := by
  obtain ⟨ao, cap, rs, h1, h2, h3, h4, h5, h6⟩ := h
  exact ⟨ao, cap, rs, h1, h2, h3, h4, h5.mono hb.size, hb.trans (h6.mono hb.size)⟩
/-- A list handed back, its address, room and numbers told. -/
def GvL (w : World) (os : List (Option Nat)) (ao : Option Addr) (cap : Nat) (rs : List Nat) (w' : World) : Prop := LN os rs ∧ GRow w' ao rs ∧ rs.length ≤ cap ∧ Frs w.heap.size ao ∧ Below w.heap.size w w'
theorem GRow.boxed {w : World} {ao : Option Addr} {xs : List Nat} {n b : Nat} (h : GRow w ao xs) (hf : Frs n ao) (hb : b < n) (x y z : Value) : GRow (((w.setCell ⟨b, 0, none⟩ x).setCell ⟨b, 1, none⟩ y).setCell ⟨b, 2, none⟩ z) ao xs := by
  rcases h with h | ⟨c, off, rfl, hc⟩
  · exact Or.inl h
  · have hge : n ≤ c := hf _ rfl
    have hne : ∀ o p, (⟨c, o, none⟩ : Addr) ≠ ⟨b, p, none⟩ := fun o p e => by cases e; omega
    have hne' : ∀ o p, (⟨b, p, none⟩ : Addr) ≠ ⟨c, o, none⟩ := fun o p e => by cases e; omega
    refine Or.inr ⟨c, off, rfl, fun j hj => ?_⟩
    exact (World.cell?_setCell_other _ _ _ z (by first | exact hne _ _ | exact hne' _ _)).trans ((World.cell?_setCell_other _ _ _ y (by first | exact hne _ _ | exact hne' _ _)).trans ((World.cell?_setCell_other _ _ _ x (by first | exact hne _ _ | exact hne' _ _)).trans (hc j hj)))
theorem GvL.put {w w1 w2 : World} {os : List (Option Nat)} {ao : Option Addr} {cap : Nat} {rs : List Nat} {b : Nat} (h : GvL w1 os ao cap rs w2) (h1 : Below w.heap.size w w1) (hb : w.heap.size ≤ b) (hb1 : b < w1.heap.size) (x y z : Value) : GaveF w os (.slice ao rs.length cap) (((w2.setCell ⟨b, 0, none⟩ x).setCell ⟨b, 1, none⟩ y).setCell ⟨b, 2, none⟩ z) := by
  obtain ⟨e2, e3, e4, e5, e6⟩ := h
  exact ⟨ao, cap, rs, rfl, e2, e3.boxed e5 hb1 x y z, e4, e5.mono h1.size, set_three (h1.trans (e6.mono h1.size)) hb _ _ _⟩
theorem GaveF.none_put {w w1 : World} {b : Nat} (h1 : Below w.heap.size w w1) (hb : w.heap.size ≤ b) (x y z : Value) : GaveF w [] (.slice none 0 0) (((w1.setCell ⟨b, 0, none⟩ x).setCell ⟨b, 1, none⟩ y).setCell ⟨b, 2, none⟩ z) := GaveF.nil (set_three h1 hb _ _ _)
end Go.Proofs.YtmbcmhncicbbjaaGreatDoor

namespace Go.Proofs.YtmbcmhncicbbjaaGreatDoor
open Go.RowKit

/-- Apply's answer. -/
def apA (r c : Int) (xs ys : List Nat) : List (Option Nat) × Int := ((mlA r c xs c 1 ys).os, (mlA r c xs c 1 ys).err)
/-- Is the matrix what it is turned over? -/
def symM (r c : Int) (xs : List Nat) : Bool := rightM r c xs.length && decide (r = c) && (List.range (r.toNat * r.toNat)).all fun p => sameB (xs.getD p 0) (xs.getD ((p % r.toNat) * r.toNat + p / r.toNat) 0)
theorem NR_toO {x y : Nat} (h : NR (toO x) y) (z : Nat) : sameB z y = sameB z x := by
  unfold toO at h
  cases hx : nanB x
  · rw [hx] at h
    have e : y = x := h.2
    rw [e]
  · rw [hx] at h
    have hy : nanB y = true := h.2
    unfold sameB
    rw [hx, hy]
    cases hz : nanB z
    · simp only [Bool.false_eq_true, if_false]
      rw [decide_eq_false (fun e => by subst e; rw [hz] at hy; cases hy), decide_eq_false (fun e => by subst e; rw [hz] at hx; cases hx)]
    · rfl
theorem sym_sameL {R : Nat} {xs zs : List Nat} (hl : xs.length = R * R) (h : LN (tabM R R (fun i j => enO R xs j i)) zs) : sameL xs zs = (List.range (R * R)).all fun p => sameB (xs.getD p 0) (xs.getD ((p % R) * R + p / R) 0) := by
  have hz : zs.length = R * R := by rw [h.1, tabM_len]
  unfold sameL
  rw [decide_eq_true (by rw [hl, hz]), Bool.true_and, hl]
  have hp : ∀ p, p ∈ List.range (R * R) → sameB (xs.getD p 0) (zs.getD p 0) = sameB (xs.getD p 0) (xs.getD ((p % R) * R + p / R) 0) := fun p hp => by
    have hp := List.mem_range.1 hp
    have h2 := h.2 p (by rw [tabM_len]; exact hp)
    unfold tabM at h2
    rw [tab_at hp] at h2
    exact NR_toO h2 _
  rw [Bool.eq_iff_iff, List.all_eq_true, List.all_eq_true]
  exact ⟨fun h p m => by rw [← hp p m]; exact h p m, fun h p m => by rw [hp p m]; exact h p m⟩
end Go.Proofs.YtmbcmhncicbbjaaGreatDoor
