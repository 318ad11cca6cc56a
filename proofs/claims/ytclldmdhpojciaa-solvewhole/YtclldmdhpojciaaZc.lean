/- What Right, turned, top, sign, CopyLimbs, CopyDyad, SameLimbs, SameDyad answer. -/
import Derived.Test.YtclldmdhpojciaaZb
import Derived.Deep.RegionHeld3
import Derived.Deep.QuietTactic
import Derived.BigQuiet
namespace Go.Proofs.Ytclldmdhpojciaa
open Go.RowKit

/-- Norm's answer by its cases. -/
theorem norm_zero {d : Dy} (h : vl d.mag = 0) : normD d = (dy0, 0) := by
  have : sv d = 0 := by have := sv_abs d; omega
  unfold normD nrm; rw [if_pos this]
theorem norm_long {d : Dy} (h0 : vl d.mag ≠ 0) (h : 16384 < bl (vl d.mag) - tz (vl d.mag) ∨ d.exp + tz (vl d.mag) < -65536 ∨ 65536 < d.exp + tz (vl d.mag)) : normD d = (dy0, 3) := by
  have : sv d ≠ 0 := by have := sv_abs d; omega
  unfold normD nrm; rw [if_neg this, sv_abs, if_pos h]
theorem norm_fine {d : Dy} (h0 : vl d.mag ≠ 0) (h : ¬ (16384 < bl (vl d.mag) - tz (vl d.mag) ∨ d.exp + tz (vl d.mag) < -65536 ∨ 65536 < d.exp + tz (vl d.mag))) : normD d = (⟨d.neg, lo (vl d.mag / 2 ^ tz (vl d.mag)), d.exp + tz (vl d.mag)⟩, 0) := by
  have : sv d ≠ 0 := by have := sv_abs d; omega
  unfold normD nrm; rw [if_neg this, sv_abs, if_neg h, sv_neg h0]

theorem undrew {w w1 : World} (h : Below w.drew.heap.size w.drew w1) : Below w.heap.size w w1 := ⟨h.os, h.tape, h.output, h.size, h.block⟩
/-- Two boxes of three cells, behind a call that turned nothing old. -/
theorem box2 {w w1 : World} {x0 x1 x2 y0 y1 y2 : Value} {s t : TypeId} (hb : Below ((w.alloc (.cells #[x0, x1, x2] s)).alloc (.cells #[y0, y1, y2] t)).heap.size ((w.alloc (.cells #[x0, x1, x2] s)).alloc (.cells #[y0, y1, y2] t)) w1) :
    (w1.cell? ⟨w.heap.size, 0, none⟩ = some x0 ∧ w1.cell? ⟨w.heap.size, 1, none⟩ = some x1 ∧ w1.cell? ⟨w.heap.size, 2, none⟩ = some x2) ∧
    (w1.cell? ⟨w.heap.size + 1, 0, none⟩ = some y0 ∧ w1.cell? ⟨w.heap.size + 1, 1, none⟩ = some y1 ∧ w1.cell? ⟨w.heap.size + 1, 2, none⟩ = some y2) ∧
    (w1.frozen? ⟨w.heap.size + 1, 0, none⟩ = false ∧ w1.frozen? ⟨w.heap.size + 1, 1, none⟩ = false ∧ w1.frozen? ⟨w.heap.size + 1, 2, none⟩ = false) ∧
    (w1.frozen? ⟨w.heap.size, 0, none⟩ = false ∧ w1.frozen? ⟨w.heap.size, 1, none⟩ = false ∧ w1.frozen? ⟨w.heap.size, 2, none⟩ = false) := by
  obtain ⟨hc, hf⟩ := oldc hb
  have l0 : w.heap.size < ((w.alloc (.cells #[x0, x1, x2] s)).alloc (.cells #[y0, y1, y2] t)).heap.size := by go_simp
  have l1 : w.heap.size + 1 < ((w.alloc (.cells #[x0, x1, x2] s)).alloc (.cells #[y0, y1, y2] t)).heap.size := by go_simp
  refine ⟨⟨?_, ?_, ?_⟩, ⟨?_, ?_, ?_⟩, ⟨?_, ?_, ?_⟩, ?_, ?_, ?_⟩
  · rw [hc _ _ l0]; go_simp
  · rw [hc _ _ l0]; go_simp
  · rw [hc _ _ l0]; go_simp
  · rw [hc _ _ l1]; go_simp
  · rw [hc _ _ l1]; go_simp
  · rw [hc _ _ l1]; go_simp
  · rw [hf _ _ l1]; go_simp
  · rw [hf _ _ l1]; go_simp
  · rw [hf _ _ l1]; go_simp
  · rw [hf _ _ l0]; go_simp
  · rw [hf _ _ l0]; go_simp
  · rw [hf _ _ l0]; go_simp
/-- Nothing older than the two boxes has turned. -/
theorem box2_old {w w1 : World} {x0 x1 x2 y0 y1 y2 : Value} {s t : TypeId} (hb : Below ((w.alloc (.cells #[x0, x1, x2] s)).alloc (.cells #[y0, y1, y2] t)).heap.size ((w.alloc (.cells #[x0, x1, x2] s)).alloc (.cells #[y0, y1, y2] t)) w1) : Below w.heap.size w w1 := by
  have h1 : Below w.heap.size w ((w.alloc (.cells #[x0, x1, x2] s)).alloc (.cells #[y0, y1, y2] t)) := (((Below.refl _ _).alloc (Nat.le_refl _) _).alloc (by simp) _)
  exact h1.trans (hb.mono (by go_simp; omega))
/-- The second of two boxes written, behind such a call. -/
theorem box2_end {w w1 : World} {x0 x1 x2 y0 y1 y2 : Value} {s t : TypeId} (hb : Below ((w.alloc (.cells #[x0, x1, x2] s)).alloc (.cells #[y0, y1, y2] t)).heap.size ((w.alloc (.cells #[x0, x1, x2] s)).alloc (.cells #[y0, y1, y2] t)) w1) (z0 z1 z2 : Value) :
    Below w.heap.size w (((w1.setCell ⟨w.heap.size + 1, 0, none⟩ z0).setCell ⟨w.heap.size + 1, 1, none⟩ z1).setCell ⟨w.heap.size + 1, 2, none⟩ z2) :=
  ((((box2_old hb).setCell (by simp) _).setCell (by simp) _).setCell (by simp) _)
theorem FRow.box {w : World} {b n c : Nat} {f : Nat → Nat} (h : FRow w b n f) (hc : b ≠ c) (z0 z1 z2 : Value) : FRow (((w.setCell ⟨c, 0, none⟩ z0).setCell ⟨c, 1, none⟩ z1).setCell ⟨c, 2, none⟩ z2) b n f :=
  World.rowIs.setOther (World.rowIs.setOther (World.rowIs.setOther h (by exact hc) _) (by exact hc) _) (by exact hc) _

end Go.Proofs.Ytclldmdhpojciaa

namespace Go.Proofs.Ytclldmdhpojciaa
open Go.RowKit

/-- A dyad handed back: its limbs lie in memory, nothing old has turned. -/
def Gave (w : World) (r : Dy × Int) (e : Ending) (w' : World) : Prop :=
  ∃ ao cap, e = .returned (.tuple #[.agg #[.bool r.1.neg, .slice ao r.1.mag.length cap, .int .i64 r.1.exp], .int .i64 r.2]) ∧ LRow w' ao r.1.mag ∧ Frs w.heap.size ao ∧ Below w.heap.size w w'

end Go.Proofs.Ytclldmdhpojciaa

namespace Go.Proofs.Ytclldmdhpojciaa
open Go.RowKit

theorem u64_and1 {x : Nat} (h : x < 18446744073709551616) : bits .and .u64 (x : Int) 1 = ((x % 2 : Nat) : Int) := by
  have g := u64_and_nat x 1 h (by omega)
  have e2 : ((1 : Nat) : Int) = 1 := rfl
  rw [e2] at g
  rw [g]
  have := Nat.and_two_pow_sub_one_eq_mod x 1
  rw [show (2 : Nat) ^ 1 - 1 = 1 from rfl, show (2 : Nat) ^ 1 = 2 from rfl] at this
  rw [this]

theorem cell_alloc {w : World} {a : Addr} {v : Value} (h : w.cell? a = some v) (o : Obj) : (w.alloc o).cell? a = some v := by
  rw [((Below.refl _ _).alloc (Nat.le_refl _) o).cell (World.block_lt_of_cell? w _ h)]; exact h

end Go.Proofs.Ytclldmdhpojciaa
