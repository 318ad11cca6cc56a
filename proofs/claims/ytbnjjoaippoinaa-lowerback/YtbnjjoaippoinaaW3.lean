/- What Factor of the document answers. -/
import Derived.Test.YtbnjjoaippoinaaW2
import Derived.Test.YtbnjjoaippoinaaXm2
import Derived.Test.YtbnjjoaippoinaaU4
import Derived.Test.YtbnjjoaippoinaaMx9
namespace Go.Proofs.Ytbnjjoaippoinaa
open Go.RowKit

set_option maxHeartbeats 1000000 in
theorem rlat_any (xs : List Nat) (i k t cap : Nat) (ao : Option Addr) (w : World) (hr : GRow w ao xs) (hi : i ≤ 48) (hk : k < i) (ht : tri i = t) (hl : t + k < xs.length) :
    Calls Try.prog 35 #[.slice ao xs.length cap, .int .i64 i, .int .i64 k] w fun e w' => e = .returned (.float .f64 (xs.getD (t + k) 0)) ∧ w' = w := by
  have e0 := tri_two i
  have h0 := tri_le (show i ≤ 49 by omega)
  rw [ht] at e0 h0
  obtain ⟨q, hq⟩ : ∃ q : Int, q = 2 * (t : Int) := ⟨_, rfl⟩
  rw [← hq] at e0
  clear ht
  rcases hr with h | ⟨b, off, rfl, hc⟩
  · omega
  have g := hc (t + k) hl
  have n1 : ((i : Int) == (k : Int)) = false := by simp; omega
  have iw : ((t : Int) + (k : Int)) < (xs.length : Int) := by omega
  have nq : ((t : Int) + (k : Int)).toNat = t + k := by omega
  generalize xs.getD (t + k) 0 = x at *
  clear hc
  go_enter Try.func35, Try.ntmps35
  go_wp2
  go_ret
  exact ⟨rfl, rfl⟩
/-- The matrix's box, the answer's, that of none; L, D. -/
structure RfS (w wr : World) (N T : Nat) (ao : Option Addr) (n cap gL gD : Nat) (fl d : Nat → Nat) : Prop where
  mbox : B3 wr w.heap.size (.int .i64 N) (.int .i64 N) (.slice ao n cap)
  res : B3 wr (w.heap.size + 1) (.int .i64 0) (.slice none 0 0) (.slice none 0 0)
  non : B3 wr (w.heap.size + 1 + 1) (.int .i64 0) (.slice none 0 0) (.slice none 0 0)
  lrow : RRow wr gL T fl
  drow : RRow wr gD N d
  lt : gL < wr.heap.size ∧ gD < wr.heap.size
  lo : w.heap.size + 1 + 1 < gL ∧ w.heap.size + 1 + 1 < gD
  ne : gL ≠ gD
  below : Below w.heap.size w wr
variable {w wr w1 : World} {N T : Nat} {ao : Option Addr} {n cap gL gD : Nat} {fl d : Nat → Nat}
theorem RfS.later (h : RfS w wr N T ao n cap gL gD fl d) (hb : Below wr.heap.size wr w1) : RfS w w1 N T ao n cap gL gD fl d :=
  ⟨h.mbox.below hb, h.res.below hb, h.non.below hb, h.lrow.below hb h.lt.1, h.drow.below hb h.lt.2, ⟨Nat.lt_of_lt_of_le h.lt.1 hb.size, Nat.lt_of_lt_of_le h.lt.2 hb.size⟩, h.lo, h.ne, h.below.trans (hb.mono h.below.size)⟩
theorem RfS.drew (h : RfS w wr N T ao n cap gL gD fl d) : RfS w wr.drew N T ao n cap gL gD fl d := h.later (Below.refl _ _).drew
theorem RfS.setL (h : RfS w wr N T ao n cap gL gD fl d) (q r : Nat) : RfS w (wr.setCell ⟨gL, q, none⟩ (.float .f64 r)) N T ao n cap gL gD (fun p => if p = q then r else fl p) d := by
  have := h.lo
  exact ⟨h.mbox.far (by omega) _, h.res.far (by omega) _, h.non.far (by omega) _, h.lrow.set q r, World.rowIs.setOther h.drow (by exact h.ne.symm) _, by rw [set_same_size]; exact h.lt, h.lo, h.ne, h.below.setCell (by show w.heap.size ≤ gL; omega) _⟩
theorem RfS.setD (h : RfS w wr N T ao n cap gL gD fl d) (q r : Nat) : RfS w (wr.setCell ⟨gD, q, none⟩ (.float .f64 r)) N T ao n cap gL gD fl (fun p => if p = q then r else d p) := by
  have := h.lo
  exact ⟨h.mbox.far (by omega) _, h.res.far (by omega) _, h.non.far (by omega) _, World.rowIs.setOther h.lrow (by exact h.ne) _, h.drow.set q r, by rw [set_same_size]; exact h.lt, h.lo, h.ne, h.below.setCell (by show w.heap.size ≤ gD; omega) _⟩
/-- The same, and v. -/
structure RvS (w wr : World) (N T : Nat) (ao : Option Addr) (n cap gL gD gV J : Nat) (v fl d : Nat → Nat) : Prop where
  st : RfS w wr N T ao n cap gL gD fl d
  vrow : RRow wr gV J v
  vlt : gV < wr.heap.size
  vlo : w.heap.size + 1 + 1 < gV
  vne : gV ≠ gL ∧ gV ≠ gD
variable {gV J : Nat} {v : Nat → Nat}
theorem RvS.later (h : RvS w wr N T ao n cap gL gD gV J v fl d) (hb : Below wr.heap.size wr w1) : RvS w w1 N T ao n cap gL gD gV J v fl d :=
  ⟨h.st.later hb, h.vrow.below hb h.vlt, Nat.lt_of_lt_of_le h.vlt hb.size, h.vlo, h.vne⟩
theorem RvS.drew (h : RvS w wr N T ao n cap gL gD gV J v fl d) : RvS w wr.drew N T ao n cap gL gD gV J v fl d := h.later (Below.refl _ _).drew
theorem RvS.setL (h : RvS w wr N T ao n cap gL gD gV J v fl d) (q r : Nat) : RvS w (wr.setCell ⟨gL, q, none⟩ (.float .f64 r)) N T ao n cap gL gD gV J v (fun p => if p = q then r else fl p) d :=
  ⟨h.st.setL q r, World.rowIs.setOther h.vrow (by exact h.vne.1) _, by rw [set_same_size]; exact h.vlt, h.vlo, h.vne⟩
theorem RvS.setD (h : RvS w wr N T ao n cap gL gD gV J v fl d) (q r : Nat) : RvS w (wr.setCell ⟨gD, q, none⟩ (.float .f64 r)) N T ao n cap gL gD gV J v fl (fun p => if p = q then r else d p) :=
  ⟨h.st.setD q r, World.rowIs.setOther h.vrow (by exact h.vne.2) _, by rw [set_same_size]; exact h.vlt, h.vlo, h.vne⟩
theorem RvS.setV (h : RvS w wr N T ao n cap gL gD gV J v fl d) (q r : Nat) : RvS w (wr.setCell ⟨gV, q, none⟩ (.float .f64 r)) N T ao n cap gL gD gV J (fun p => if p = q then r else v p) fl d := by
  have := h.vlo
  have hs := h.st
  exact ⟨⟨hs.mbox.far (by omega) _, hs.res.far (by omega) _, hs.non.far (by omega) _, World.rowIs.setOther hs.lrow (by exact h.vne.1.symm) _, World.rowIs.setOther hs.drow (by exact h.vne.2.symm) _, by rw [set_same_size]; exact hs.lt, hs.lo, hs.ne, hs.below.setCell (by show w.heap.size ≤ gV; omega) _⟩, h.vrow.set q r, by rw [set_same_size]; exact h.vlt, h.vlo, h.vne⟩
theorem pos_gt {r : Nat} (h : posB r = true) : (FloatKind.f64.format.order r 0 == some .gt) = true := by
  obtain ⟨f, hr⟩ := posB_fin h
  have h2 := not_pos hr f
  rw [h] at h2
  have nr : nanB r = false := by unfold finB at f; unfold nanB; simp at f ⊢; omega
  have hlt : 0 < place r := by
    unfold posB at h
    unfold place sgn rung
    simp at h ⊢
    split <;> omega
  rw [ord_gt hr (by omega) nr (by decide) (by rw [show place 0 = 0 by decide]; omega)]; rfl
theorem gt_inf {r : Nat} (hr : r < 18446744073709551616) (h : posB r = false) (g : (FloatKind.f64.format.order r 0 == some .gt) = true) : finB r = false := by
  cases f : finB r
  · rfl
  · have h2 := not_pos hr f
    rw [h] at h2
    cases o : FloatKind.f64.format.order r 0 with
    | none => rw [o] at g; cases g
    | some x => rw [o] at g h2; cases x <;> simp at g h2
end Go.Proofs.Ytbnjjoaippoinaa

namespace Go.Proofs.Ytbnjjoaippoinaa
open Go.RowKit

theorem lesO_comm (s : Option Nat) (a b : Nat → Option Nat) (n : Nat) : lesO s a b n = lesO s b a n := by
  induction n with
  | zero => rfl
  | succ k ih => rw [lesO, lesO, ih, mulO_comm']
/-- The rows of column j from the pivot's on. -/
def Ph (m : Nat → Nat → Nat) (N : Nat) (fl d v : Nat → Nat) (j i : Nat) : Prop :=
  (i = j ∧ Col m N (LF fl) d j ∧ (∀ p, d p < 18446744073709551616) ∧ (∀ p, fl p < 18446744073709551616) ∧ ∀ q, q < j → NR (vO (LF fl) d j q) (v q)) ∨ (j < i ∧ RowI m N fl d v j i)
theorem Ph.facts {m : Nat → Nat → Nat} {N : Nat} {fl d v : Nat → Nat} {j i : Nat} (h : Ph m N fl d v j i) : (∀ p, d p < 18446744073709551616) ∧ (∀ p, fl p < 18446744073709551616) ∧ ∀ q, q < j → NR (vO (LF fl) d j q) (v q) := by
  rcases h with ⟨_, _, h1, h2, h3⟩ | ⟨_, h⟩
  · exact ⟨h1, h2, h3⟩
  · exact ⟨h.wd, h.wl, h.vs⟩
end Go.Proofs.Ytbnjjoaippoinaa
