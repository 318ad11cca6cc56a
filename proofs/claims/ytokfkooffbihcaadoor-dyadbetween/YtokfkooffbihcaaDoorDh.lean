/- What Norm answers. -/
import Derived.Test.YtokfkooffbihcaaDoorDg
import Derived.Deep.RegionHeld3
namespace Go.Proofs.YtokfkooffbihcaaDoor
open Go.RowKit

theorem tabW_alloc {w : World} (h : TabW w) (o : Obj) : TabW (w.alloc o) := tabW_below h ((Below.refl _ _).alloc (Nat.le_refl _) _)
/-- Norm's answer by its cases. -/
theorem norm_zero {d : Dy} (h : vl d.mag = 0) : normD d = (dy0, 0) := by
  have : sv d = 0 := by have := sv_abs d; omega
  unfold normD nrm; rw [if_pos this]
theorem norm_long {d : Dy} (h0 : vl d.mag ≠ 0) (h : 16384 < bl (vl d.mag) - tz (vl d.mag) ∨ d.exp + tz (vl d.mag) < -65536 ∨ 65536 < d.exp + tz (vl d.mag)) : normD d = (dy0, 3) := by
  have : sv d ≠ 0 := by have := sv_abs d; omega
  unfold normD nrm; rw [if_neg this, sv_abs, if_pos h]
theorem norm_fine {d : Dy} (h0 : vl d.mag ≠ 0) (h : ¬ (16384 < bl (vl d.mag) - tz (vl d.mag) ∨ d.exp + tz (vl d.mag) < -65536 ∨ 65536 < d.exp + tz (vl d.mag))) : normD d = (⟨d.neg, lo (vl d.mag / 2 ^ tz (vl d.mag)), d.exp + tz (vl d.mag)⟩, 0) := by
  have : sv d ≠ 0 := by have := sv_abs d; omega
  unfold normD nrm; rw [if_neg this, sv_abs, if_neg h, sv_neg h0]

theorem undrew {w w1 : World} (h : Below w.drew.heap.size w.drew w1) : Below w.heap.size w w1 := ⟨h.os, h.tape, h.output, h.size, h.block⟩
/-- Two boxes of three cells, behind a call that turned nothing old. -/
theorem box2 {w w1 : World} {x0 x1 x2 y0 y1 y2 : Value} {s t : TypeId} (hb : Below ((w.alloc (.cells #[x0, x1, x2] s)).alloc (.cells #[y0, y1, y2] t)).heap.size ((w.alloc (.cells #[x0, x1, x2] s)).alloc (.cells #[y0, y1, y2] t)) w1) :
    (w1.cell? ⟨w.heap.size, 0, none⟩ = some x0 ∧ w1.cell? ⟨w.heap.size, 1, none⟩ = some x1 ∧ w1.cell? ⟨w.heap.size, 2, none⟩ = some x2) ∧
    (w1.cell? ⟨w.heap.size + 1, 0, none⟩ = some y0 ∧ w1.cell? ⟨w.heap.size + 1, 1, none⟩ = some y1 ∧ w1.cell? ⟨w.heap.size + 1, 2, none⟩ = some y2) ∧
    (w1.frozen? ⟨w.heap.size + 1, 0, none⟩ = false ∧ w1.frozen? ⟨w.heap.size + 1, 1, none⟩ = false ∧ w1.frozen? ⟨w.heap.size + 1, 2, none⟩ = false) ∧
    (w1.frozen? ⟨w.heap.size, 0, none⟩ = false ∧ w1.frozen? ⟨w.heap.size, 1, none⟩ = false ∧ w1.frozen? ⟨w.heap.size, 2, none⟩ = false) := by
  obtain ⟨hc, hf⟩ := oldc hb
  have l0 : w.heap.size < ((w.alloc (.cells #[x0, x1, x2] s)).alloc (.cells #[y0, y1, y2] t)).heap.size := by go_simp
  have l1 : w.heap.size + 1 < ((w.alloc (.cells #[x0, x1, x2] s)).alloc (.cells #[y0, y1, y2] t)).heap.size := by go_simp
  refine ⟨⟨?_, ?_, ?_⟩, ⟨?_, ?_, ?_⟩, ⟨?_, ?_, ?_⟩, ?_, ?_, ?_⟩
  · rw [hc _ _ l0]; go_simp
  · rw [hc _ _ l0]; go_simp
  · rw [hc _ _ l0]; go_simp
  · rw [hc _ _ l1]; go_simp
  · rw [hc _ _ l1]; go_simp
  · rw [hc _ _ l1]; go_simp
  · rw [hf _ _ l1]; go_simp
  · rw [hf _ _ l1]; go_simp
  · rw [hf _ _ l1]; go_simp
  · rw [hf _ _ l0]; go_simp
  · rw [hf _ _ l0]; go_simp
  · rw [hf _ _ l0]; go_simp
/-- Nothing older than the two boxes has turned. -/
theorem box2_old {w w1 : World} {x0 x1 x2 y0 y1 y2 : Value} {s t : TypeId} (hb : Below ((w.alloc (.cells #[x0, x1, x2] s)).alloc (.cells #[y0, y1, y2] t)).heap.size ((w.alloc (.cells #[x0, x1, x2] s)).alloc (.cells #[y0, y1, y2] t)) w1) : Below w.heap.size w w1 := by
  have h1 : Below w.heap.size w ((w.alloc (.cells #[x0, x1, x2] s)).alloc (.cells #[y0, y1, y2] t)) := (((Below.refl _ _).alloc (Nat.le_refl _) _).alloc (by simp) _)
  exact h1.trans (hb.mono (by go_simp; omega))
/-- The second of two boxes written, behind such a call. -/
theorem box2_end {w w1 : World} {x0 x1 x2 y0 y1 y2 : Value} {s t : TypeId} (hb : Below ((w.alloc (.cells #[x0, x1, x2] s)).alloc (.cells #[y0, y1, y2] t)).heap.size ((w.alloc (.cells #[x0, x1, x2] s)).alloc (.cells #[y0, y1, y2] t)) w1) (z0 z1 z2 : Value) :
    Below w.heap.size w (((w1.setCell ⟨w.heap.size + 1, 0, none⟩ z0).setCell ⟨w.heap.size + 1, 1, none⟩ z1).setCell ⟨w.heap.size + 1, 2, none⟩ z2) :=
  ((((box2_old hb).setCell (by simp) _).setCell (by simp) _).setCell (by simp) _)
theorem FRow.box {w : World} {b n c : Nat} {f : Nat → Nat} (h : FRow w b n f) (hc : b ≠ c) (z0 z1 z2 : Value) : FRow (((w.setCell ⟨c, 0, none⟩ z0).setCell ⟨c, 1, none⟩ z1).setCell ⟨c, 2, none⟩ z2) b n f :=
  World.rowIs.setOther (World.rowIs.setOther (World.rowIs.setOther h (by exact hc) _) (by exact hc) _) (by exact hc) _

set_option maxHeartbeats 1000000 in
theorem norm_ok_walk (neg : Bool) (xs : List Nat) (ex : Int) (ao : Option Addr) (cap z wd n : Nat) (hn : Hid (n = (wd + 63) / 64)) (w : World) (hr : LRow w ao xs) (hL : Lm xs) (hT : TabW w) (hl : xs.length ≤ 1125899906842624)
    (hz : tz (vl xs) = z) (hwd : (bl (vl xs) : Int) - (z : Int) = (wd : Int)) (hz2 : z ≤ 144115188075855872) (hw0 : wd ≠ 0) (hw : wd ≤ 16384) (he1 : -65536 - (z : Int) ≤ ex) (he2 : ex ≤ 65536 - (z : Int)) :
    Calls Tryd.prog 13 #[.agg #[.bool neg, .slice ao xs.length cap, .int .i64 ex]] w fun e w' => ∃ b, e = .returned (.tuple #[.agg #[.bool neg, .slice (some ⟨b, 0, none⟩) n n, .int .i64 (ex + z)], .int .i64 0]) ∧ FRow w' b n (fun j => vl xs / 2 ^ z / 2 ^ (64 * j) % 18446744073709551616) ∧ w.heap.size ≤ b ∧ Below w.heap.size w w' := by
  go_enter Tryd.func13, Tryd.ntmps13
  go_wp2_with (first | (go_at_call 30; refine (trailing_any _ _ _ _ ((hr.alloc _).alloc _) hL (tabW_alloc (tabW_alloc hT _) _) hl).mono ?_; rintro e w' ⟨rfl, rfl⟩) | (go_at_call 31; refine (bitLen_any _ _ _ _ ((hr.alloc _).alloc _) hL hl).mono ?_; rintro e w' ⟨rfl, rfl⟩))
  go_region_held3 (fun w' => w'.cell? ⟨w.heap.size, 0, none⟩ = some (.bool neg) ∧ w'.cell? ⟨w.heap.size, 1, none⟩ = some (.slice ao xs.length cap) ∧ w'.cell? ⟨w.heap.size, 2, none⟩ = some (.int .i64 ex)) (go_keep)
    (first | (go_at_call 32; refine (cut_any _ _ _ _ _ n hn.out _ ((hr.alloc _).alloc _).drew hL hz2 hw).mono ?_; rintro e w1 ⟨rfl, hrow, hb⟩; replace hb := undrew hb; obtain ⟨⟨c0, c1, c2⟩, ⟨d0, d1, d2⟩, ⟨f0, f1, f2⟩, _⟩ := box2 hb))
  clear c0 c1 c2 hr hT
  have hwr : IntKind.i64.wrap (ex + z) = ex + z := by rw [IntKind.wrap_i64]; omega
  have hne : ((w.alloc (.cells #[.bool neg, .slice ao xs.length cap, .int .i64 ex] 24)).alloc (.cells #[.bool false, .slice none 0 0, .int .i64 0] 24)).drew.heap.size = w.heap.size + 1 + 1 := by go_simp
  rw [hne] at hrow
  go_wp2
  exact bodyPost_ret (v := .tuple #[.agg #[.bool neg, .slice (some ⟨w.heap.size + 1 + 1, 0, none⟩) n n, .int .i64 (ex + z)], .int .i64 0]) (by simp [results, Tryd.results13, go_sem, d0, d1, d2, hwr]) rfl ⟨w.heap.size + 1 + 1, rfl, hrow.box (by omega) _ _ _, by omega, box2_end hb _ _ _⟩
end Go.Proofs.YtokfkooffbihcaaDoor
