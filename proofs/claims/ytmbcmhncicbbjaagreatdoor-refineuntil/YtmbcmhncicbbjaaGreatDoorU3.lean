/- What Of and Int answer. -/
import Derived.Test.YtmbcmhncicbbjaaGreatDoorZb
import Derived.Deep.RegionHeld3
import Derived.Deep.QuietTactic
import Derived.BigQuiet
import Derived.OwnWalk
import Derived.Laws.AppendOwnNone
import Derived.Deep.DeepCutAuto
import Derived.Shelf.Spec.BitsCarry
import Derived.Test.YtmbcmhncicbbjaaGreatDoorZa
import Derived.Test.YtmbcmhncicbbjaaGreatDoorZg
import Derived.Test.YtmbcmhncicbbjaaGreatDoorU1
namespace Go.Proofs.YtmbcmhncicbbjaaGreatDoor
open Go.RowKit

theorem tabW_alloc {w : World} (h : TabW w) (o : Obj) : TabW (w.alloc o) := tabW_below h ((Below.refl _ _).alloc (Nat.le_refl _) _)
/-- Norm's answer by its cases. -/
theorem norm_zero {d : Dy} (h : vl d.mag = 0) : normD d = (dy0, 0) := by
  have : sv d = 0 := by have := sv_abs d; omega
  unfold normD nrm; rw [if_pos this]
theorem norm_long {d : Dy} (h0 : vl d.mag ≠ 0) (h : 16384 < bl (vl d.mag) - tz (vl d.mag) ∨ d.exp + tz (vl d.mag) < -65536 ∨ 65536 < d.exp + tz (vl d.mag)) : normD d = (dy0, 3) := by
  have : sv d ≠ 0 := by have := sv_abs d; omega
  unfold normD nrm; rw [if_neg this, sv_abs, if_pos h]
theorem norm_fine {d : Dy} (h0 : vl d.mag ≠ 0) (h : ¬ (16384 < bl (vl d.mag) - tz (vl d.mag) ∨ d.exp + tz (vl d.mag) < -65536 ∨ 65536 < d.exp + tz (vl d.mag))) : normD d = (⟨d.neg, lo (vl d.mag / 2 ^ tz (vl d.mag)), d.exp + tz (vl d.mag)⟩, 0) := by
  have : sv d ≠ 0 := by have := sv_abs d; omega
  unfold normD nrm; rw [if_neg this, sv_abs, if_neg h, sv_neg h0]

theorem undrew {w w1 : World} (h : Below w.drew.heap.size w.drew w1) : Below w.heap.size w w1 := ⟨h.os, h.tape, h.output, h.size, h.block⟩
/-- Two boxes of three cells, behind a call that turned nothing old. -/
theorem box2 {w w1 : World} {x0 x1 x2 y0 y1 y2 : Value} {s t : TypeId} (hb : Below ((w.alloc (.cells #[x0, x1, x2] s)).alloc (.cells #[y0, y1, y2] t)).heap.size ((w.alloc (.cells #[x0, x1, x2] s)).alloc (.cells #[y0, y1, y2] t)) w1) :
    (w1.cell? ⟨w.heap.size, 0, none⟩ = some x0 ∧ w1.cell? ⟨w.heap.size, 1, none⟩ = some x1 ∧ w1.cell? ⟨w.heap.size, 2, none⟩ = some x2) ∧
    (w1.cell? ⟨w.heap.size + 1, 0, none⟩ = some y0 ∧ w1.cell? ⟨w.heap.size + 1, 1, none⟩ = some y1 ∧ w1.cell? ⟨w.heap.size + 1, 2, none⟩ = some y2) ∧
    (w1.frozen? ⟨w.heap.size + 1, 0, none⟩ = false ∧ w1.frozen? ⟨w.heap.size + 1, 1, none⟩ = false ∧ w1.frozen? ⟨w.heap.size + 1, 2, none⟩ = false) ∧
    (w1.frozen? ⟨w.heap.size, 0, none⟩ = false ∧ w1.frozen? ⟨w.heap.size, 1, none⟩ = false ∧ w1.frozen? ⟨w.heap.size, 2, none⟩ = false) := by
  obtain ⟨hc, hf⟩ := oldc hb
  have l0 : w.heap.size < ((w.alloc (.cells #[x0, x1, x2] s)).alloc (.cells #[y0, y1, y2] t)).heap.size := by go_simp
  have l1 : w.heap.size + 1 < ((w.alloc (.cells #[x0, x1, x2] s)).alloc (.cells #[y0, y1, y2] t)).heap.size := by go_simp
  refine ⟨⟨?_, ?_, ?_⟩, ⟨?_, ?_, ?_⟩, ⟨?_, ?_, ?_⟩, ?_, ?_, ?_⟩
  · rw [hc _ _ l0]; go_simp
  · rw [hc _ _ l0]; go_simp
  · rw [hc _ _ l0]; go_simp
  · rw [hc _ _ l1]; go_simp
  · rw [hc _ _ l1]; go_simp
  · rw [hc _ _ l1]; go_simp
  · rw [hf _ _ l1]; go_simp
  · rw [hf _ _ l1]; go_simp
  · rw [hf _ _ l1]; go_simp
  · rw [hf _ _ l0]; go_simp
  · rw [hf _ _ l0]; go_simp
  · rw [hf _ _ l0]; go_simp
/-- Nothing older than the two boxes has turned. -/
theorem box2_old {w w1 : World} {x0 x1 x2 y0 y1 y2 : Value} {s t : TypeId} (hb : Below ((w.alloc (.cells #[x0, x1, x2] s)).alloc (.cells #[y0, y1, y2] t)).heap.size ((w.alloc (.cells #[x0, x1, x2] s)).alloc (.cells #[y0, y1, y2] t)) w1) : Below w.heap.size w w1 := by
  have h1 : Below w.heap.size w ((w.alloc (.cells #[x0, x1, x2] s)).alloc (.cells #[y0, y1, y2] t)) := (((Below.refl _ _).alloc (Nat.le_refl _) _).alloc (by simp) _)
  exact h1.trans (hb.mono (by go_simp; omega))
/-- The second of two boxes written, behind such a call. -/
theorem box2_end {w w1 : World} {x0 x1 x2 y0 y1 y2 : Value} {s t : TypeId} (hb : Below ((w.alloc (.cells #[x0, x1, x2] s)).alloc (.cells #[y0, y1, y2] t)).heap.size ((w.alloc (.cells #[x0, x1, x2] s)).alloc (.cells #[y0, y1, y2] t)) w1) (z0 z1 z2 : Value) :
    Below w.heap.size w (((w1.setCell ⟨w.heap.size + 1, 0, none⟩ z0).setCell ⟨w.heap.size + 1, 1, none⟩ z1).setCell ⟨w.heap.size + 1, 2, none⟩ z2) :=
  ((((box2_old hb).setCell (by simp) _).setCell (by simp) _).setCell (by simp) _)
theorem FRow.box {w : World} {b n c : Nat} {f : Nat → Nat} (h : FRow w b n f) (hc : b ≠ c) (z0 z1 z2 : Value) : FRow (((w.setCell ⟨c, 0, none⟩ z0).setCell ⟨c, 1, none⟩ z1).setCell ⟨c, 2, none⟩ z2) b n f :=
  World.rowIs.setOther (World.rowIs.setOther (World.rowIs.setOther h (by exact hc) _) (by exact hc) _) (by exact hc) _

set_option maxHeartbeats 1000000 in
theorem norm_ok_walk (neg : Bool) (xs : List Nat) (ex : Int) (ao : Option Addr) (cap z wd n : Nat) (hn : Hid (n = (wd + 63) / 64)) (w : World) (hr : LRow w ao xs) (hL : Lm xs) (hT : TabW w) (hl : xs.length ≤ 1125899906842624)
    (hz : tz (vl xs) = z) (hwd : (bl (vl xs) : Int) - (z : Int) = (wd : Int)) (hz2 : z ≤ 144115188075855872) (hw0 : wd ≠ 0) (hw : wd ≤ 16384) (he1 : -65536 - (z : Int) ≤ ex) (he2 : ex ≤ 65536 - (z : Int)) :
    Calls Tryz.prog 117 #[.agg #[.bool neg, .slice ao xs.length cap, .int .i64 ex]] w fun e w' => ∃ b, e = .returned (.tuple #[.agg #[.bool neg, .slice (some ⟨b, 0, none⟩) n n, .int .i64 (ex + z)], .int .i64 0]) ∧ FRow w' b n (fun j => vl xs / 2 ^ z / 2 ^ (64 * j) % 18446744073709551616) ∧ w.heap.size ≤ b ∧ Below w.heap.size w w' := by
  go_enter Tryz.func117, Tryz.ntmps117
  go_wp2_with (first | (go_at_call 134; refine (trailing_any _ _ _ _ ((hr.alloc _).alloc _) hL (tabW_alloc (tabW_alloc hT _) _) hl).mono ?_; rintro e w' ⟨rfl, rfl⟩) | (go_at_call 135; refine (bitLen_any _ _ _ _ ((hr.alloc _).alloc _) hL hl).mono ?_; rintro e w' ⟨rfl, rfl⟩))
  have hng : IntKind.i64.wrap (-(z : Int)) = -(z : Int) := by rw [IntKind.wrap_i64]; omega
  go_region_held3 (fun w' => w'.cell? ⟨w.heap.size, 0, none⟩ = some (.bool neg) ∧ w'.cell? ⟨w.heap.size, 1, none⟩ = some (.slice ao xs.length cap) ∧ w'.cell? ⟨w.heap.size, 2, none⟩ = some (.int .i64 ex)) (go_keep)
    (first | (go_at_call 136; refine (cut_any _ _ _ z wd n hwd hn.out _ ((hr.alloc _).alloc _).drew hL hl hz2 hw0 hw).mono ?_; rintro e w1 ⟨rfl, hrow, hb⟩; replace hb := undrew hb; obtain ⟨⟨c0, c1, c2⟩, ⟨d0, d1, d2⟩, ⟨f0, f1, f2⟩, _⟩ := box2 hb))
  clear c0 c1 c2 hr hT hng
  have hwr : IntKind.i64.wrap (ex + z) = ex + z := by rw [IntKind.wrap_i64]; omega
  have hne : ((w.alloc (.cells #[.bool neg, .slice ao xs.length cap, .int .i64 ex] 99)).alloc (.cells #[.bool false, .slice none 0 0, .int .i64 0] 99)).drew.heap.size = w.heap.size + 1 + 1 := by go_simp
  rw [hne] at hrow
  go_wp2
  exact bodyPost_ret (v := .tuple #[.agg #[.bool neg, .slice (some ⟨w.heap.size + 1 + 1, 0, none⟩) n n, .int .i64 (ex + z)], .int .i64 0]) (by simp [results, Tryz.results117, go_sem, d0, d1, d2, hwr]) rfl ⟨w.heap.size + 1 + 1, rfl, hrow.box (by omega) _ _ _, by omega, box2_end hb _ _ _⟩
end Go.Proofs.YtmbcmhncicbbjaaGreatDoor

namespace Go.Proofs.YtmbcmhncicbbjaaGreatDoor
open Go.RowKit

/-- A dyad handed back: its limbs lie in memory, nothing old has turned. -/
def Gave (w : World) (r : Dy × Int) (e : Ending) (w' : World) : Prop :=
  ∃ ao cap, e = .returned (.tuple #[.agg #[.bool r.1.neg, .slice ao r.1.mag.length cap, .int .i64 r.1.exp], .int .i64 r.2]) ∧ LRow w' ao r.1.mag ∧ Frs w.heap.size ao ∧ Below w.heap.size w w'

set_option maxHeartbeats 1000000 in
theorem norm_none_walk (neg : Bool) (xs : List Nat) (ex : Int) (ao : Option Addr) (cap z b : Nat) (w : World) (hr : LRow w ao xs) (hL : Lm xs) (hT : TabW w) (hl : xs.length ≤ 1125899906842624)
    (hz : tz (vl xs) = z) (hbl : bl (vl xs) = b) (hzb : z ≤ b) (hb2 : b ≤ 144115188075855872) (err : Int)
    (hc : (b = z ∧ err = 0) ∨ (z < b ∧ 16384 < b - z ∧ err = 3) ∨ (z < b ∧ b - z ≤ 16384 ∧ (ex < -65536 - (z : Int) ∨ 65536 - (z : Int) < ex) ∧ err = 3)) :
    Calls Tryz.prog 117 #[.agg #[.bool neg, .slice ao xs.length cap, .int .i64 ex]] w fun e w' => e = .returned (.tuple #[.agg #[.bool false, .slice none 0 0, .int .i64 0], .int .i64 err]) ∧ Below w.heap.size w w' := by
  have hend : ∀ o1 o2, Below w.heap.size w ((w.alloc o1).alloc o2) := fun o1 o2 => (((Below.refl _ _).alloc (Nat.le_refl _) o1).alloc (by simp) o2)
  rcases hc with ⟨h, rfl⟩ | ⟨h0, h, rfl⟩ | ⟨h0, h1, h, rfl⟩
  · have h0 : (((b : Int) - (z : Int)) == 0) = true := by simp; omega
    clear h
    go_enter Tryz.func117, Tryz.ntmps117
    go_wp2_with (first | (go_at_call 134; refine (trailing_any _ _ _ _ ((hr.alloc _).alloc _) hL (tabW_alloc (tabW_alloc hT _) _) hl).mono ?_; rintro e w' ⟨rfl, rfl⟩) | (go_at_call 135; refine (bitLen_any _ _ _ _ ((hr.alloc _).alloc _) hL hl).mono ?_; rintro e w' ⟨rfl, rfl⟩))
    exact bodyPost_ret (v := .tuple #[.agg #[.bool false, .slice none 0 0, .int .i64 0], .int .i64 0]) (by simp [results, Tryz.results117, go_sem]) rfl ⟨rfl, hend _ _⟩
  · have h1 : (((b : Int) - (z : Int)) == 0) = false := by simp; omega
    have h2 : (16384 : Int) < (b : Int) - (z : Int) := by omega
    go_enter Tryz.func117, Tryz.ntmps117
    go_wp2_with (first | (go_at_call 134; refine (trailing_any _ _ _ _ ((hr.alloc _).alloc _) hL (tabW_alloc (tabW_alloc hT _) _) hl).mono ?_; rintro e w' ⟨rfl, rfl⟩) | (go_at_call 135; refine (bitLen_any _ _ _ _ ((hr.alloc _).alloc _) hL hl).mono ?_; rintro e w' ⟨rfl, rfl⟩))
    exact bodyPost_ret (v := .tuple #[.agg #[.bool false, .slice none 0 0, .int .i64 0], .int .i64 3]) (by simp [results, Tryz.results117, go_sem]) rfl ⟨rfl, hend _ _⟩
  · have h2 : (((b : Int) - (z : Int)) == 0) = false := by simp; omega
    have h3 : (b : Int) - (z : Int) ≤ 16384 := by omega
    by_cases h4 : ex < -65536 - (z : Int)
    all_goals
      go_enter Tryz.func117, Tryz.ntmps117
      go_wp2_with (first | (go_at_call 134; refine (trailing_any _ _ _ _ ((hr.alloc _).alloc _) hL (tabW_alloc (tabW_alloc hT _) _) hl).mono ?_; rintro e w' ⟨rfl, rfl⟩) | (go_at_call 135; refine (bitLen_any _ _ _ _ ((hr.alloc _).alloc _) hL hl).mono ?_; rintro e w' ⟨rfl, rfl⟩))
      exact bodyPost_ret (v := .tuple #[.agg #[.bool false, .slice none 0 0, .int .i64 0], .int .i64 3]) (by simp [results, Tryz.results117, go_sem]) rfl ⟨rfl, hend _ _⟩

theorem norm_any (d : Dy) (ao : Option Addr) (cap : Nat) (w : World) (hr : LRow w ao d.mag) (hL : Lm d.mag) (hT : TabW w) (hl : d.mag.length ≤ 1125899906842624) :
    Calls Tryz.prog 117 #[.agg #[.bool d.neg, .slice ao d.mag.length cap, .int .i64 d.exp]] w (Gave w (normD d)) := by
  have hb : bl (vl d.mag) ≤ 64 * 1125899906842624 := bl_limbs hL hl
  by_cases h0 : vl d.mag = 0
  · rw [norm_zero h0]
    refine (norm_none_walk d.neg d.mag d.exp ao cap 0 0 w hr hL hT hl (by rw [h0]; rfl) (by rw [h0]; rfl) (by omega) (by omega) 0 (Or.inl ⟨rfl, rfl⟩)).mono ?_
    rintro e w' ⟨rfl, hb⟩
    exact ⟨none, 0, rfl, LRow.nil _ _, Frs.none _, hb⟩
  · have hzb := tz_lt_bl h0
    by_cases hc : 16384 < bl (vl d.mag) - tz (vl d.mag) ∨ d.exp + tz (vl d.mag) < -65536 ∨ 65536 < d.exp + tz (vl d.mag)
    · rw [norm_long h0 hc]
      refine (norm_none_walk d.neg d.mag d.exp ao cap _ _ w hr hL hT hl rfl rfl (by omega) (by omega) 3 (by omega)).mono ?_
      rintro e w' ⟨rfl, hb⟩
      exact ⟨none, 0, rfl, LRow.nil _ _, Frs.none _, hb⟩
    · rw [norm_fine h0 hc]
      have hnl : nl (vl d.mag / 2 ^ tz (vl d.mag)) = (bl (vl d.mag) - tz (vl d.mag) + 63) / 64 := by unfold nl; rw [bl_div]
      refine (norm_ok_walk d.neg d.mag d.exp ao cap _ (bl (vl d.mag) - tz (vl d.mag)) _ hnl w hr hL hT hl rfl (by omega) (by omega) (by omega) (by omega) (by omega) (by omega)).mono ?_
      rintro e w' ⟨b, rfl, hrow, hge, hb⟩
      refine ⟨some ⟨b, 0, none⟩, nl (vl d.mag / 2 ^ tz (vl d.mag)), ?_, hrow.lrow (lo_length _) (fun j hj => tl_getD hj), fun a e => by cases e; exact hge, hb⟩
      simp only [lo_length]
end Go.Proofs.YtmbcmhncicbbjaaGreatDoor

namespace Go.Proofs.YtmbcmhncicbbjaaGreatDoor
open Go.RowKit

theorem u64_and1 {x : Nat} (h : x < 18446744073709551616) : bits .and .u64 (x : Int) 1 = ((x % 2 : Nat) : Int) := by
  have g := u64_and_nat x 1 h (by omega)
  have e2 : ((1 : Nat) : Int) = 1 := rfl
  rw [e2] at g
  rw [g]
  have := Nat.and_two_pow_sub_one_eq_mod x 1
  rw [show (2 : Nat) ^ 1 - 1 = 1 from rfl, show (2 : Nat) ^ 1 = 2 from rfl] at this
  rw [this]

theorem cell_alloc {w : World} {a : Addr} {v : Value} (h : w.cell? a = some v) (o : Obj) : (w.alloc o).cell? a = some v := by
  rw [((Below.refl _ _).alloc (Nat.le_refl _) o).cell (World.block_lt_of_cell? w _ h)]; exact h

set_option maxHeartbeats 1000000 in
theorem right_any (d : Dy) (ao : Option Addr) (cap : Nat) (w : World) (hr : LRow w ao d.mag) (hL : Lm d.mag) :
    Calls Tryz.prog 116 #[.agg #[.bool d.neg, .slice ao d.mag.length cap, .int .i64 d.exp]] w fun e w' => e = .returned (.bool (rightB d)) ∧ Below w.heap.size w w' := by
  obtain ⟨neg, xs, ex⟩ := d
  have hend : ∀ o1, Below w.heap.size w (w.alloc o1) := fun o1 => (Below.refl _ _).alloc (Nat.le_refl _) o1
  simp only at *
  by_cases h0 : xs.length = 0
  · have HE : Hid (rightB ⟨neg, xs, ex⟩ = (!neg && decide (ex = 0))) := (show rightB ⟨neg, xs, ex⟩ = _ by unfold rightB; rw [if_pos (by exact h0)])
    rw [h0]
    cases neg
    all_goals
      go_enter Tryz.func116, Tryz.ntmps116
      go_wp2
      go_ret
      exact ⟨retB (by rw [HE.out]; first | rfl | (rw [Bool.eq_iff_iff]; simp)), hend _⟩
  · rcases hr with h | ⟨b, off, rfl, hc⟩
    · omega
    · have g0 := fun o => cell_alloc (hc 0 (by omega)) o
      have g1 := fun o => cell_alloc (hc (xs.length - 1) (by omega)) o
      have k0 := hL.getD 0
      have HR : Hid (rightB ⟨neg, xs, ex⟩ = decide (xs.length ≤ 256 ∧ xs.getD 0 0 % 2 = 1 ∧ xs.getD (xs.length - 1) 0 ≠ 0 ∧ -65536 ≤ ex ∧ ex ≤ 65536)) := (show rightB ⟨neg, xs, ex⟩ = _ by unfold rightB; rw [if_neg (by exact h0)])
      generalize xs.getD 0 0 = x at *
      generalize xs.getD (xs.length - 1) 0 = y at *
      have ka : bits .and .u64 (x : Int) 1 = (x : Int) % 2 := (u64_and1 k0).trans (by omega)
      have hn0 : ((xs.length : Int) == 0) = false := beq_eq_false_iff_ne.2 (by omega)
      simp only [Nat.add_zero] at g0
      clear hc hL
      by_cases h1 : (xs.length : Int) ≤ 256
      · by_cases h2 : x % 2 = 1
        · have h2' : ((x : Int) % 2 == 1) = true := by simp; omega
          by_cases h3 : y = 0
          · have h3' : ((y : Int) != 0) = false := by simp; omega
            have HE : Hid (rightB ⟨neg, xs, ex⟩ = false) := (show _ = _ by rw [HR.out]; simp [h3])
            clear HR h2 h3
            go_enter Tryz.func116, Tryz.ntmps116
            go_wp2
            go_ret
            exact ⟨retB (by rw [HE.out]), hend _⟩
          · have h3' : ((y : Int) != 0) = true := by simp; omega
            by_cases h4 : -65536 ≤ ex
            · by_cases h5 : ex ≤ 65536
              all_goals
                have HE : Hid (rightB ⟨neg, xs, ex⟩ = decide (ex ≤ 65536)) := (show _ = _ by rw [HR.out, Bool.eq_iff_iff]; simp; omega)
                clear HR h2 h3
                go_enter Tryz.func116, Tryz.ntmps116
                go_wp2
                go_ret
                exact ⟨retB (by rw [HE.out]; simp; omega), hend _⟩
            · have HE : Hid (rightB ⟨neg, xs, ex⟩ = false) := (show _ = _ by rw [HR.out]; simp; omega)
              clear HR h2 h3
              go_enter Tryz.func116, Tryz.ntmps116
              go_wp2
              go_ret
              exact ⟨retB (by rw [HE.out]), hend _⟩
        · have h2' : ((x : Int) % 2 == 1) = false := by simp; omega
          have HE : Hid (rightB ⟨neg, xs, ex⟩ = false) := (show _ = _ by rw [HR.out]; simp [h2])
          clear HR h2
          go_enter Tryz.func116, Tryz.ntmps116
          go_wp2
          go_ret
          exact ⟨retB (by rw [HE.out]), hend _⟩
      · have HE : Hid (rightB ⟨neg, xs, ex⟩ = false) := (show _ = _ by rw [HR.out]; simp; omega)
        clear HR
        go_enter Tryz.func116, Tryz.ntmps116
        go_wp2
        go_ret
        exact ⟨retB (by rw [HE.out]), hend _⟩
end Go.Proofs.YtmbcmhncicbbjaaGreatDoor

namespace Go.Proofs.YtmbcmhncicbbjaaGreatDoor
open Go.RowKit

/-- A dyad with its sign turned. -/
def trn (d : Dy) : Dy := ⟨!d.neg && decide (0 < d.mag.length), d.mag, d.exp⟩

def sgD (d : Dy) : Int := if d.mag.length = 0 then 0 else if d.neg then -1 else 1
set_option maxHeartbeats 400000 in
theorem top_any (d : Dy) (ao : Option Addr) (cap : Nat) (w : World) (hr : LRow w ao d.mag) (hL : Lm d.mag) (hn : d.mag.length ≤ 1125899906842624) (h1 : -1000000 ≤ d.exp) (h2 : d.exp ≤ 1000000) :
    Calls Tryz.prog 146 #[.agg #[.bool d.neg, .slice ao d.mag.length cap, .int .i64 d.exp]] w fun e w' => e = .returned (.int .i64 ((bl (vl d.mag) : Int) + d.exp)) ∧ Below w.heap.size w w' := by
  obtain ⟨neg, xs, ex⟩ := d
  have hend : ∀ o1 n, Below w.heap.size w ((w.alloc o1).drewN n) := fun o1 n => by
    have h := (Below.refl w.heap.size w).alloc (Nat.le_refl _) o1
    exact ⟨h.os, h.tape, h.output, h.size, h.block⟩
  have hb : bl (vl xs) ≤ 64 * 1125899906842624 := bl_limbs hL hn
  have hwr : IntKind.i64.wrap ((bl (vl xs) : Int) + ex) = (bl (vl xs) : Int) + ex := by rw [IntKind.wrap_i64]; simp only at h1 h2; omega
  simp only at *
  go_enter Tryz.func146, Tryz.ntmps146
  go_wp2
  go_quiet ((go_at_call 135; exact Calls.quiet_of_same (bitLen_any _ _ _ _ (hr.alloc _) hL hn)))
  go_wp2
  go_ret
  exact ⟨rfl, hend _ _⟩

def uv (xs : List Nat) : List Value := xs.map fun x => .int .u64 (x : Nat)
theorem uv_length (xs : List Nat) : (uv xs).length = xs.length := by simp [uv]
theorem uv_get {xs : List Nat} {j : Nat} {u : Value} (h : (uv xs)[j]? = some u) : j < xs.length ∧ u = .int .u64 (xs.getD j 0 : Nat) := by
  unfold uv at h
  rw [List.getElem?_map] at h
  by_cases hj : j < xs.length
  · rw [List.getElem?_eq_getElem hj] at h
    simp at h
    exact ⟨hj, by rw [List.getD_eq_getElem?_getD, List.getElem?_eq_getElem hj]; exact h.symm⟩
  · rw [List.getElem?_eq_none (by omega)] at h; simp at h
theorem uv_at {xs : List Nat} {j : Nat} (hj : j < xs.length) : (uv xs)[j]? = some (.int .u64 (xs.getD j 0 : Nat)) := by
  unfold uv
  rw [List.getElem?_map, List.getElem?_eq_getElem hj, List.getD_eq_getElem?_getD, List.getElem?_eq_getElem hj]; rfl
theorem uv_one {xs : List Nat} : ∀ u ∈ uv xs, u.oneCell' = true := by
  intro u hu
  simp only [uv, List.mem_map] at hu
  obtain ⟨x, _, rfl⟩ := hu
  rfl
/-- What is owned, as limbs in memory. -/
theorem owned_lrow {w : World} {base : Nat} {t : TypeId} {v : Value} {xs : List Nat} (h : w.ownsRow base t 1 v xs.length (uv xs)) : ∃ ao cap, v = .slice ao xs.length cap ∧ LRow w ao xs ∧ (ao = none → cap = 0) ∧ Frs base ao := by
  obtain ⟨h1, h2⟩ := h
  rcases h2 with ⟨rfl, hn⟩ | ⟨g, cap, cur, rfl, hg, hh, hc⟩
  · exact ⟨none, 0, by rw [hn], Or.inl hn, fun _ => rfl, Frs.none _⟩
  · refine ⟨some ⟨g, 0, none⟩, cap, rfl, Or.inr ⟨g, 0, rfl, fun j hj => ?_⟩, fun h => (by cases h), fun a e => by cases e; exact hg⟩
    have own : w.ownsRow base t 1 (.slice (some ⟨g, 0, none⟩) xs.length cap) xs.length (uv xs) := ⟨h1, Or.inr ⟨g, cap, cur, rfl, hg, hh, hc⟩⟩
    rw [Nat.zero_add, own.cellAt j (by omega), uv_at hj]

/-- Limbs handed back in memory of their own. -/
def GaveL (w : World) (xs : List Nat) (e : Ending) (w' : World) : Prop := ∃ ao' cap', e = .returned (.slice ao' xs.length cap') ∧ LRow w' ao' xs ∧ (ao' = none → cap' = 0 ∧ xs.length = 0) ∧ Frs w.heap.size ao' ∧ Below w.heap.size w w'

/-- Limbs stay where they are if boxes beside them are written. -/
theorem LRow.setCell {w : World} {ao : Option Addr} {xs : List Nat} (h : LRow w ao xs) {p : Addr} (v : Value) (hne : ∀ b off, ao = some ⟨b, off, none⟩ → xs.length ≠ 0 → b ≠ p.block) : LRow (w.setCell p v) ao xs := by
  by_cases hx : xs.length = 0
  · exact Or.inl hx
  · rcases h with h | ⟨b, off, rfl, hc⟩
    · exact Or.inl h
    · refine Or.inr ⟨b, off, rfl, fun j hj => ?_⟩
      have := hne b off rfl hx
      have e : (w.setCell p v).cell? ⟨b, off + j, none⟩ = w.cell? ⟨b, off + j, none⟩ := World.cell?_of_block (w := w) (Below.heap_setCell w p v b this)
      rw [e]; exact hc j hj

theorem LRow.box {w : World} {ao : Option Addr} {xs : List Nat} {B c : Nat} (h : LRow w ao xs) (hf : Frs B ao) (hc : c < B) (o : Nat) (v : Value) : LRow (w.setCell ⟨c, o, none⟩ v) ao xs :=
  h.setCell v fun b off e _ => by have h1 := hf _ e; have h2 : B ≤ b := h1; show b ≠ c; omega

theorem sameL_eq {xs ys : List Nat} (h : xs.length = ys.length) (hk : ∀ j, j < xs.length → xs.getD j 0 = ys.getD j 0) : xs = ys := by
  apply List.ext_getElem h
  intro i h1 h2
  have := hk i h1
  rw [List.getD_eq_getElem?_getD, List.getD_eq_getElem?_getD, List.getElem?_eq_getElem h1, List.getElem?_eq_getElem h2] at this
  exact this

end Go.Proofs.YtmbcmhncicbbjaaGreatDoor

namespace Go.Proofs.YtmbcmhncicbbjaaGreatDoor
open Go.RowKit

/-- Which of two numbers is greater. -/
def cmpI (x y : Int) : Int := if x < y then -1 else if y < x then 1 else 0
theorem cmpI_bd (x y : Int) : -1 ≤ cmpI x y ∧ cmpI x y ≤ 1 := by unfold cmpI; (repeat' split) <;> omega
/-- A dyad's size in units of 2^-65536. -/
def sz (d : Dy) : Nat := vl d.mag * 2 ^ (d.exp + 65536).toNat
theorem bl_mono {x y : Nat} (h : bl x < bl y) : x < y := Nat.lt_of_not_le fun hle => by
  have := bl_le_iff.2 (Nat.lt_of_le_of_lt hle (bl_le_iff.1 (Nat.le_refl (bl x))))
  omega
theorem bl_sz {d : Dy} (h0 : vl d.mag ≠ 0) (he : -65536 ≤ d.exp) : (bl (sz d) : Int) = bl (vl d.mag) + d.exp + 65536 := by
  unfold sz; rw [bl_mul_pow h0]; omega
/-- A size, its highest bit at the top of n limbs. -/
def upA (v n : Nat) : Nat := v * 2 ^ (64 * n - bl v)
theorem upA_lt {v n : Nat} (h : bl v ≤ 64 * n) : upA v n < 2 ^ (64 * n) := by
  unfold upA
  have h1 : v < 2 ^ bl v := bl_le_iff.1 (Nat.le_refl _)
  calc v * 2 ^ (64 * n - bl v) < 2 ^ bl v * 2 ^ (64 * n - bl v) := Nat.mul_lt_mul_of_pos_right h1 (Nat.two_pow_pos _)
    _ = 2 ^ (64 * n) := by rw [← Nat.pow_add, show bl v + (64 * n - bl v) = 64 * n by omega]
theorem win_top {v n i : Nat} (h : bl v ≤ 64 * n) (hi : i < n) : win v ((bl v : Int) - ((i : Int) + 1) * 64) = upA v n / 2 ^ (64 * (n - 1 - i)) % 18446744073709551616 := by
  have := win_up v (64 * n - bl v) (n - 1 - i)
  unfold upA
  rw [← this]
  congr 1
  omega
theorem upA_sz {d : Dy} {n T : Nat} (_h0 : vl d.mag ≠ 0) (he : -65536 ≤ d.exp) (h : bl (vl d.mag) ≤ 64 * n) (hT : (T : Int) = bl (vl d.mag) + d.exp + 65536) : upA (vl d.mag) n * 2 ^ T = sz d * 2 ^ (64 * n) := by
  unfold upA sz
  rw [Nat.mul_assoc, ← Nat.pow_add, Nat.mul_assoc, ← Nat.pow_add, show 64 * n - bl (vl d.mag) + T = (d.exp + 65536).toNat + 64 * n by omega]
/-- Where the tops are one: which is greater is told by the sizes laid at the top. -/
theorem cmp_top {a b : Dy} {n : Nat} (a0 : vl a.mag ≠ 0) (b0 : vl b.mag ≠ 0) (ea : -65536 ≤ a.exp) (eb : -65536 ≤ b.exp) (ha : bl (vl a.mag) ≤ 64 * n) (hb : bl (vl b.mag) ≤ 64 * n)
    (ht : (bl (vl a.mag) : Int) + a.exp = bl (vl b.mag) + b.exp) :
    (upA (vl a.mag) n < upA (vl b.mag) n → sz a < sz b) ∧ (upA (vl b.mag) n < upA (vl a.mag) n → sz b < sz a) ∧ (upA (vl a.mag) n = upA (vl b.mag) n → sz a = sz b) := by
  have e1 := upA_sz (T := (bl (vl a.mag) + a.exp + 65536 : Int).toNat) a0 ea ha (by omega)
  have e2 := upA_sz (T := (bl (vl a.mag) + a.exp + 65536 : Int).toNat) b0 eb hb (by omega)
  generalize (bl (vl a.mag) + a.exp + 65536 : Int).toNat = T at *
  have hp := Nat.two_pow_pos T
  have hq := Nat.two_pow_pos (64 * n)
  refine ⟨fun h => ?_, fun h => ?_, fun h => ?_⟩
  · have := Nat.mul_lt_mul_of_pos_right h hp
    rw [e1, e2] at this
    exact Nat.lt_of_mul_lt_mul_right this
  · have := Nat.mul_lt_mul_of_pos_right h hp
    rw [e1, e2] at this
    exact Nat.lt_of_mul_lt_mul_right this
  · rw [h, e2] at e1
    exact Nat.eq_of_mul_eq_mul_right hq e1.symm

set_option maxHeartbeats 400000 in
theorem cmpInt_any (x y : Int) (w : World) : Calls Tryz.prog 162 #[.int .i64 x, .int .i64 y] w fun e w' => e = .returned (.int .i64 (cmpI x y)) ∧ w' = w := by
  by_cases h1 : x < y
  · have HE : Hid (cmpI x y = -1) := (show _ = _ by unfold cmpI; rw [if_pos h1])
    go_enter Tryz.func162, Tryz.ntmps162
    go_wp2
    go_ret
    exact ⟨retI HE.out.symm, rfl⟩
  · by_cases h2 : y < x
    · have HE : Hid (cmpI x y = 1) := (show _ = _ by unfold cmpI; rw [if_neg h1, if_pos h2])
      go_enter Tryz.func162, Tryz.ntmps162
      go_wp2
      go_ret
      exact ⟨retI HE.out.symm, rfl⟩
    · have HE : Hid (cmpI x y = 0) := (show _ = _ by unfold cmpI; rw [if_neg h1, if_neg h2])
      go_enter Tryz.func162, Tryz.ntmps162
      go_wp2
      go_ret
      exact ⟨retI HE.out.symm, rfl⟩
set_option maxHeartbeats 400000 in
theorem cmpU_any (x y : Int) (w : World) : Calls Tryz.prog 163 #[.int .u64 x, .int .u64 y] w fun e w' => e = .returned (.int .i64 (cmpI x y)) ∧ w' = w := by
  by_cases h1 : x < y
  · have HE : Hid (cmpI x y = -1) := (show _ = _ by unfold cmpI; rw [if_pos h1])
    go_enter Tryz.func163, Tryz.ntmps163
    go_wp2
    go_ret
    exact ⟨retI HE.out.symm, rfl⟩
  · by_cases h2 : y < x
    · have HE : Hid (cmpI x y = 1) := (show _ = _ by unfold cmpI; rw [if_neg h1, if_pos h2])
      go_enter Tryz.func163, Tryz.ntmps163
      go_wp2
      go_ret
      exact ⟨retI HE.out.symm, rfl⟩
    · have HE : Hid (cmpI x y = 0) := (show _ = _ by unfold cmpI; rw [if_neg h1, if_neg h2])
      go_enter Tryz.func163, Tryz.ntmps163
      go_wp2
      go_ret
      exact ⟨retI HE.out.symm, rfl⟩
end Go.Proofs.YtmbcmhncicbbjaaGreatDoor

namespace Go.Proofs.YtmbcmhncicbbjaaGreatDoor
open Go.RowKit

theorem cmpI_lt {x y : Int} (h : x < y) : cmpI x y = -1 := by unfold cmpI; rw [if_pos h]
theorem cmpI_gt {x y : Int} (h : y < x) : cmpI x y = 1 := by unfold cmpI; rw [if_neg (by omega), if_pos h]
theorem cmpI_eq {x y : Int} (h : x = y) : cmpI x y = 0 := by unfold cmpI; rw [if_neg (by omega), if_neg (by omega)]
theorem cmpI_zero {x y : Int} (h : cmpI x y = 0) : x = y := by unfold cmpI at h; (repeat' split at h) <;> omega
/-- Six cells read anew behind a call. -/
theorem six_on {w1 w2 : World} (h : Below w1.heap.size w1 w2) {p q : Nat} {x0 x1 x2 y0 y1 y2 : Value}
    (hc : w1.cell? ⟨p, 0, none⟩ = some x0 ∧ w1.cell? ⟨p, 1, none⟩ = some x1 ∧ w1.cell? ⟨p, 2, none⟩ = some x2 ∧ w1.cell? ⟨q, 0, none⟩ = some y0 ∧ w1.cell? ⟨q, 1, none⟩ = some y1 ∧ w1.cell? ⟨q, 2, none⟩ = some y2) :
    w2.cell? ⟨p, 0, none⟩ = some x0 ∧ w2.cell? ⟨p, 1, none⟩ = some x1 ∧ w2.cell? ⟨p, 2, none⟩ = some x2 ∧ w2.cell? ⟨q, 0, none⟩ = some y0 ∧ w2.cell? ⟨q, 1, none⟩ = some y1 ∧ w2.cell? ⟨q, 2, none⟩ = some y2 := by
  have one : ∀ (b o : Nat) (v : Value), w1.cell? ⟨b, o, none⟩ = some v → w2.cell? ⟨b, o, none⟩ = some v := fun b o v hc => by
    rw [h.cell (World.block_lt_of_cell? w1 _ hc)]; exact hc
  exact ⟨one _ _ _ hc.1, one _ _ _ hc.2.1, one _ _ _ hc.2.2.1, one _ _ _ hc.2.2.2.1, one _ _ _ hc.2.2.2.2.1, one _ _ _ hc.2.2.2.2.2⟩
theorem two_box (w : World) (x0 x1 x2 y0 y1 y2 : Value) (s t : TypeId) :
    let W := ((w.alloc (.cells #[x0, x1, x2] s)).alloc (.cells #[y0, y1, y2] t)).drew
    W.cell? ⟨w.heap.size, 0, none⟩ = some x0 ∧ W.cell? ⟨w.heap.size, 1, none⟩ = some x1 ∧ W.cell? ⟨w.heap.size, 2, none⟩ = some x2 ∧ W.cell? ⟨w.heap.size + 1, 0, none⟩ = some y0 ∧ W.cell? ⟨w.heap.size + 1, 1, none⟩ = some y1 ∧ W.cell? ⟨w.heap.size + 1, 2, none⟩ = some y2 := by
  refine ⟨?_, ?_, ?_, ?_, ?_, ?_⟩ <;> go_simp

set_option maxHeartbeats 4000000 in
theorem cmpSizes_any (a b : Dy) (ao bo : Option Addr) (cap bcap : Nat) (w : World) (hr : LRow w ao a.mag) (hs : LRow w bo b.mag) (la : Lm a.mag) (lb : Lm b.mag) (na : a.mag.length ≤ 256) (nb : b.mag.length ≤ 256)
    (a0 : vl a.mag ≠ 0) (b0 : vl b.mag ≠ 0) (ea : -65536 ≤ a.exp) (ea2 : a.exp ≤ 65536) (eb : -65536 ≤ b.exp) (eb2 : b.exp ≤ 65536) :
    Calls Tryz.prog 149 #[.agg #[.bool a.neg, .slice ao a.mag.length cap, .int .i64 a.exp], .agg #[.bool b.neg, .slice bo b.mag.length bcap, .int .i64 b.exp]] w fun e w' => e = .returned (.int .i64 (cmpI (sz a) (sz b))) ∧ Below w.heap.size w w' := by
  obtain ⟨N, hN⟩ : ∃ N, max a.mag.length b.mag.length = N := ⟨_, rfl⟩
  have hba : bl (vl a.mag) ≤ 64 * N := bl_limbs la (by omega)
  have hbb : bl (vl b.mag) ≤ 64 * N := bl_limbs lb (by omega)
  have hN2 : N ≤ 256 := by omega
  have HT : Hid (bl (sz a) = (bl (vl a.mag) : Int) + a.exp + 65536 ∧ bl (sz b) = (bl (vl b.mag) : Int) + b.exp + 65536) := ⟨bl_sz a0 ea, bl_sz b0 eb⟩
  have HC : Hid ((bl (vl a.mag) : Int) + a.exp = bl (vl b.mag) + b.exp → (upA (vl a.mag) N < upA (vl b.mag) N → sz a < sz b) ∧ (upA (vl b.mag) N < upA (vl a.mag) N → sz b < sz a) ∧ (upA (vl a.mag) N = upA (vl b.mag) N → sz a = sz b)) := cmp_top a0 b0 ea eb hba hbb
  have HU : Hid (upA (vl a.mag) N < 2 ^ (64 * N) ∧ upA (vl b.mag) N < 2 ^ (64 * N)) := ⟨upA_lt hba, upA_lt hbb⟩
  obtain ⟨n1, m1, e1⟩ := a
  obtain ⟨n2, m2, e2⟩ := b
  simp only at *
  have HN : Hid (max m1.length m2.length = N) := hN
  have hNi : max (m1.length : Int) (m2.length : Int) = N := by omega
  clear hN
  go_enter Tryz.func149, Tryz.ntmps149
  have hrW := fun o1 o2 => ((hr.alloc o1).alloc o2).drew
  have hsW := fun o1 o2 => ((hs.alloc o1).alloc o2).drew
  go_upto_region 1 with fail
  go_cut [11, 12, 13, 14, 15, 5] (fun _ _ _ _ _ s wx => s = .int .i64 (cmpI ((bl (vl m1) : Int) + e1) ((bl (vl m2) : Int) + e2)) ∧ Below ((w.alloc (.cells #[.bool n1, .slice ao m1.length cap, .int .i64 e1] 99)).alloc (.cells #[.bool n2, .slice bo m2.length bcap, .int .i64 e2] 99)).heap.size ((w.alloc (.cells #[.bool n1, .slice ao m1.length cap, .int .i64 e1] 99)).alloc (.cells #[.bool n2, .slice bo m2.length bcap, .int .i64 e2] 99)) wx)
  case first =>
    go_region_held3 (fun w' => w'.cell? ⟨w.heap.size, 0, none⟩ = some (.bool n1) ∧ w'.cell? ⟨w.heap.size, 1, none⟩ = some (.slice ao m1.length cap) ∧ w'.cell? ⟨w.heap.size, 2, none⟩ = some (.int .i64 e1) ∧ w'.cell? ⟨w.heap.size + 1, 0, none⟩ = some (.bool n2) ∧ w'.cell? ⟨w.heap.size + 1, 1, none⟩ = some (.slice bo m2.length bcap) ∧ w'.cell? ⟨w.heap.size + 1, 2, none⟩ = some (.int .i64 e2)) (go_keep)
      (first | (go_at_call 162; refine (cmpInt_any _ _ _).mono ?_; rintro e w' ⟨rfl, hww⟩; subst hww) | (go_at_call_of 146 (Value.agg #[Value.bool n1, Value.slice ao m1.length cap, Value.int IntKind.i64 e1]); refine (top_any ⟨n1, m1, e1⟩ ao cap _ (by first | assumption | exact hrW _ _) la (by simp only; omega) (by simp only; omega) (by simp only; omega)).mono ?_; rintro e wa ⟨rfl, ha⟩; have ka : LRow wa bo m2 := LRow.below (by first | assumption | exact hsW _ _) ha; have ka' : LRow wa ao m1 := LRow.below (by first | assumption | exact hrW _ _) ha; obtain ⟨c0, c1, c2, d0, d1, d2⟩ := six_on (p := w.heap.size) (q := w.heap.size + 1) ha (by first | exact two_box _ _ _ _ _ _ _ _ _ | (refine ⟨?_, ?_, ?_, ?_, ?_, ?_⟩ <;> assumption))) | (go_at_call_of 146 (Value.agg #[Value.bool n2, Value.slice bo m2.length bcap, Value.int IntKind.i64 e2]); refine (top_any ⟨n2, m2, e2⟩ bo bcap _ (by first | assumption | exact hsW _ _) lb (by simp only; omega) (by simp only; omega) (by simp only; omega)).mono ?_; rintro e wb ⟨rfl, hb⟩; have kb : LRow wb ao m1 := LRow.below (by first | assumption | exact hrW _ _) hb; have kb' : LRow wb bo m2 := LRow.below (by first | assumption | exact hsW _ _) hb; obtain ⟨c0, c1, c2, d0, d1, d2⟩ := six_on (p := w.heap.size) (q := w.heap.size + 1) hb (by first | exact two_box _ _ _ _ _ _ _ _ _ | (refine ⟨?_, ?_, ?_, ?_, ?_, ?_⟩ <;> assumption))))
    all_goals go_wp2_with fail
    all_goals go_meet
    all_goals first | exact ⟨rfl, (undrew ha).trans (hb.mono (undrew ha).size)⟩ | exact ⟨rfl, (undrew hb).trans (ha.mono (undrew hb).size)⟩
  case rest =>
    obtain ⟨rfl, hbx⟩ := hcut
    obtain ⟨wq, hwq⟩ : ∃ wq, wq = wc := ⟨_, rfl⟩
    subst hwq
    obtain ⟨⟨c0, c1, c2⟩, ⟨d0, d1, d2⟩, _⟩ := box2 hbx
    have hold := box2_old hbx
    have hrx : LRow wq ao m1 := ((hr.alloc _).alloc _).below hbx
    have hsx : LRow wq bo m2 := ((hs.alloc _).alloc _).below hbx
    have hend : ∀ n, Below w.heap.size w (wq.drewN n) := fun n => ⟨hold.os, hold.tape, hold.output, hold.size, hold.block⟩
    clear hr hs hrW hsW hbx
    by_cases ht : (bl (vl m1) : Int) + e1 = (bl (vl m2) : Int) + e2
    · have h0 : cmpI ((bl (vl m1) : Int) + e1) ((bl (vl m2) : Int) + e2) = 0 := cmpI_eq ht
      have HC2 : Hid _ := HC.out ht
      have HH : Hid (upA (vl m1) N / 2 ^ (64 * N) = upA (vl m2) N / 2 ^ (64 * N)) := (show _ = _ by rw [Nat.div_eq_of_lt HU.out.1, Nat.div_eq_of_lt HU.out.2])
      clear ht HC HT
      go_wp2
      go_quiet (first | (go_at_call_of 135 (Value.slice ao m1.length cap); exact Calls.quiet_of_same (bitLen_any m1 _ _ _ hrx la (by omega))) | (go_at_call_of 135 (Value.slice bo m2.length bcap); exact Calls.quiet_of_same (bitLen_any m2 _ _ _ hsx lb (by omega))))
      clear h0
      go_upto_region 5 with fail
      go_cut [25, 26, 27, 28, 29, 30, 31, 32] (fun _ _ _ _ _ _ t z wx => t = .int .i64 N ∧ z = .int .i64 0 ∧ ∃ n, wx = wq.drewN n)
      case first =>
        go_wp2_with fail
        all_goals
          go_meet
          exact ⟨by have := HN.out; congr 1; omega, rfl, _, rfl⟩
      obtain ⟨rfl, rfl, nz, rfl⟩ := hcut
      go_wp2
      go_loopg [32] N (fun g i wr => ∃ k : Nat, k ≤ N ∧ g = N - k ∧ i = .int .i64 k ∧ Hid (upA (vl m1) N / 2 ^ (64 * (N - k)) = upA (vl m2) N / 2 ^ (64 * (N - k))) ∧ LRow wr ao m1 ∧ LRow wr bo m2 ∧ wr.cell? ⟨w.heap.size, 1, none⟩ = some (.slice ao m1.length cap) ∧ wr.cell? ⟨w.heap.size + 1, 1, none⟩ = some (.slice bo m2.length bcap) ∧ Below w.heap.size w wr)
      case atStart => exact ⟨0, Nat.zero_le _, rfl, rfl, HH, hrx, hsx, c1, d1, hend _⟩
      case round =>
        obtain ⟨k, hk, hg, rfl, hz, hry, hsy, k1, k2, hby⟩ := hrel
        have hen2 : ∀ n, Below w.heap.size w (wr.drewN n) := fun n => ⟨hby.os, hby.tape, hby.output, hby.size, hby.block⟩
        clear hrx hsx c0 c1 c2 d0 d1 d2 hold hend
        by_cases hlt : k < N
        · have HA : Hid (win (vl m1) ((bl (vl m1) : Int) - ((k : Int) + 1) * 64) = upA (vl m1) N / 2 ^ (64 * (N - 1 - k)) % 18446744073709551616) := win_top hba hlt
          have HB : Hid (win (vl m2) ((bl (vl m2) : Int) - ((k : Int) + 1) * 64) = upA (vl m2) N / 2 ^ (64 * (N - 1 - k)) % 18446744073709551616) := win_top hbb hlt
          have hstep := top_step (A := upA (vl m1) N) (B := upA (vl m2) N) (j := N - 1 - k) (by rw [show N - 1 - k + 1 = N - k by omega]; exact hz.out)
          have hstep2 := top_step (A := upA (vl m2) N) (B := upA (vl m1) N) (j := N - 1 - k) (by rw [show N - 1 - k + 1 = N - k by omega]; exact hz.out.symm)
          have wA := win_lt (vl m1) ((bl (vl m1) : Int) - ((k : Int) + 1) * 64)
          have wB := win_lt (vl m2) ((bl (vl m2) : Int) - ((k : Int) + 1) * 64)
          obtain ⟨x, hx⟩ : ∃ x, win (vl m1) ((bl (vl m1) : Int) - ((k : Int) + 1) * 64) = x := ⟨_, rfl⟩
          obtain ⟨y, hy⟩ : ∃ y, win (vl m2) ((bl (vl m2) : Int) - ((k : Int) + 1) * 64) = y := ⟨_, rfl⟩
          have HA2 : Hid (x = upA (vl m1) N / 2 ^ (64 * (N - 1 - k)) % 18446744073709551616) := (show _ = _ by rw [← hx]; exact HA.out)
          have HB2 : Hid (y = upA (vl m2) N / 2 ^ (64 * (N - 1 - k)) % 18446744073709551616) := (show _ = _ by rw [← hy]; exact HB.out)
          rw [← HA2.out, ← HB2.out] at hstep hstep2
          have w1 := fun w' => window_any m1 ao cap ((bl (vl m1) : Int) - ((k : Int) + 1) * 64) w'
          have w2 := fun w' => window_any m2 bo bcap ((bl (vl m2) : Int) - ((k : Int) + 1) * 64) w'
          rw [hx] at w1
          rw [hy] at w2
          have HW1 : Hid _ := w1
          have HW2 : Hid _ := w2
          have HS1 : Hid _ := hstep
          have HS2 : Hid _ := hstep2
          clear HA HB hx hy wA wB hz w1 w2 hstep hstep2
          have hwr1 : IntKind.i64.wrap ((bl (vl m1) : Int) - ((k : Int) + 1) * 64) = (bl (vl m1) : Int) - ((k : Int) + 1) * 64 := by rw [IntKind.wrap_i64]; omega
          have hwr2 : IntKind.i64.wrap ((bl (vl m2) : Int) - ((k : Int) + 1) * 64) = (bl (vl m2) : Int) - ((k : Int) + 1) * 64 := by rw [IntKind.wrap_i64]; omega
          rcases Nat.lt_trichotomy x y with hxy | hxy | hxy
          · have hc : cmpI (x : Int) (y : Int) = -1 := cmpI_lt (by omega)
            have HE : Hid (cmpI (sz ⟨n1, m1, e1⟩) (sz ⟨n2, m2, e2⟩) = -1) := cmpI_lt (by have := HC2.out.1 (HS1.out.2 hxy); omega)
            clear HC2 HS1 HS2 HA2 HB2
            go_wp2
            go_quiet (first | (go_at_call 163; exact Calls.quiet_of_same (cmpU_any _ _ _)) | (go_at_call_of 150 (Value.slice ao m1.length cap); exact Calls.quiet_of_same (HW1.out _ hry la (by omega) (by omega))) | (go_at_call_of 150 (Value.slice bo m2.length bcap); exact Calls.quiet_of_same (HW2.out _ hsy lb (by omega) (by omega))))
            go_wp2
            go_ret
            exact ⟨retI (hc.trans HE.out.symm), hen2 _⟩
          · subst hxy
            have hc : cmpI (x : Int) (x : Int) = 0 := cmpI_eq rfl
            go_wp2
            go_quiet (first | (go_at_call 163; exact Calls.quiet_of_same (cmpU_any _ _ _)) | (go_at_call_of 150 (Value.slice ao m1.length cap); exact Calls.quiet_of_same (HW1.out _ hry la (by omega) (by omega))) | (go_at_call_of 150 (Value.slice bo m2.length bcap); exact Calls.quiet_of_same (HW2.out _ hsy lb (by omega) (by omega))))
            go_wp2
            go_roundg (N - (k + 1))
            case measure => omega
            case rel => exact ⟨k + 1, by omega, rfl, by go_num, (show _ = _ by rw [show N - (k + 1) = N - 1 - k by omega]; exact HS1.out.1 (by first | rfl | trivial)), hry, hsy, k1, k2, hen2 _⟩
          · have hc : cmpI (x : Int) (y : Int) = 1 := cmpI_gt (by omega)
            have HE : Hid (cmpI (sz ⟨n1, m1, e1⟩) (sz ⟨n2, m2, e2⟩) = 1) := cmpI_gt (by have := HC2.out.2.1 (HS2.out.2 hxy); omega)
            clear HC2 HS1 HS2 HA2 HB2
            go_wp2
            go_quiet (first | (go_at_call 163; exact Calls.quiet_of_same (cmpU_any _ _ _)) | (go_at_call_of 150 (Value.slice ao m1.length cap); exact Calls.quiet_of_same (HW1.out _ hry la (by omega) (by omega))) | (go_at_call_of 150 (Value.slice bo m2.length bcap); exact Calls.quiet_of_same (HW2.out _ hsy lb (by omega) (by omega))))
            go_wp2
            go_ret
            exact ⟨retI (hc.trans HE.out.symm), hen2 _⟩
        · have HE : Hid (cmpI (sz ⟨n1, m1, e1⟩) (sz ⟨n2, m2, e2⟩) = 0) := cmpI_eq (by
            have := hz.out
            rw [show N - k = 0 by omega, Nat.mul_zero, Nat.pow_zero, Nat.div_one, Nat.div_one] at this
            have := HC2.out.2.2 this
            omega)
          clear HC2 hz
          go_wp2
          go_ret
          exact ⟨retI HE.out.symm, hby⟩
    · have hb1 := HT.out.1
      have hb2 := HT.out.2
      rcases (show (bl (vl m1) : Int) + e1 < (bl (vl m2) : Int) + e2 ∨ (bl (vl m2) : Int) + e2 < (bl (vl m1) : Int) + e1 by omega) with h | h
      · have h0 : cmpI ((bl (vl m1) : Int) + e1) ((bl (vl m2) : Int) + e2) = -1 := cmpI_lt h
        have HE : Hid (cmpI (sz ⟨n1, m1, e1⟩) (sz ⟨n2, m2, e2⟩) = -1) := cmpI_lt (by have := bl_mono (x := sz ⟨n1, m1, e1⟩) (y := sz ⟨n2, m2, e2⟩) (by omega); omega)
        clear hb1 hb2 ht h HT HC
        go_wp2
        go_ret
        exact ⟨retI (h0.trans HE.out.symm), hold⟩
      · have h0 : cmpI ((bl (vl m1) : Int) + e1) ((bl (vl m2) : Int) + e2) = 1 := cmpI_gt h
        have HE : Hid (cmpI (sz ⟨n1, m1, e1⟩) (sz ⟨n2, m2, e2⟩) = 1) := cmpI_gt (by have := bl_mono (x := sz ⟨n2, m2, e2⟩) (y := sz ⟨n1, m1, e1⟩) (by omega); omega)
        clear hb1 hb2 ht h HT HC
        go_wp2
        go_ret
        exact ⟨retI (h0.trans HE.out.symm), hold⟩
end Go.Proofs.YtmbcmhncicbbjaaGreatDoor

namespace Go.Proofs.YtmbcmhncicbbjaaGreatDoor
open Go.RowKit

theorem add64_run (x y c : Int) (hx : 0 ≤ x) (hy : 0 ≤ y) (hc0 : 0 ≤ c) (hc : c ≤ 1) (w : World) : (callFunc 147 #[.int .u64 x, .int .u64 y, .int .u64 c]).run Tryz.prog w =
    .ok (.value (.tuple #[.int .u64 ((x + y + c) % 18446744073709551616), .int .u64 ((x + y + c) / 18446744073709551616)])) w := by
  rw [run_callFunc_extern Tryz.func147 (by kernel_rfl) (by kernel_rfl) (by kernel_rfl) (e := add64Entry) (by kernel_rfl), run_add64 x y c hx hy hc0 hc]
  rfl
theorem sub64_run (x y c : Nat) (hc : c ≤ 1) (w : World) : (callFunc 148 #[.int .u64 x, .int .u64 y, .int .u64 c]).run Tryz.prog w =
    .ok (.value (.tuple #[.int .u64 (((x + 18446744073709551616 - y - c) % 18446744073709551616 : Nat) : Int), .int .u64 ((if x < y + c then 1 else 0 : Nat) : Int)])) w := by
  rw [run_callFunc_extern Tryz.func148 (by kernel_rfl) (by kernel_rfl) (by kernel_rfl) (e := sub64Entry) (by kernel_rfl), run_sub64 x y c hc]
  rfl
theorem ret2U {a b c d : Int} (h : a = b) (g : c = d) : Ending.returned (.tuple #[.int .u64 a, .int .u64 c]) = .returned (.tuple #[.int .u64 b, .int .u64 d]) := by rw [h, g]

theorem wrapU_bd (n : Int) : 0 ≤ IntKind.u64.wrap n ∧ IntKind.u64.wrap n < 18446744073709551616 := by rw [IntKind.wrap_u64]; omega
theorem mul64_high (x y : Int) (hx0 : 0 ≤ x) (hx : x < 18446744073709551616) (hy0 : 0 ≤ y) (hy : y < 18446744073709551616) :
    IntKind.u64.wrap (IntKind.u64.wrap (IntKind.u64.wrap (x / 4294967296 * (y / 4294967296)) + IntKind.u64.wrap (IntKind.u64.wrap (x / 4294967296 * (y % 4294967296)) + IntKind.u64.wrap (x % 4294967296 * (y % 4294967296)) / 4294967296) / 4294967296) +
      IntKind.u64.wrap (bits BinOp.and IntKind.u64 (IntKind.u64.wrap (IntKind.u64.wrap (x / 4294967296 * (y % 4294967296)) + IntKind.u64.wrap (x % 4294967296 * (y % 4294967296)) / 4294967296)) 4294967295 + IntKind.u64.wrap (x % 4294967296 * (y / 4294967296))) / 4294967296) = x * y / 18446744073709551616 := by
  have t := wrapU_bd (IntKind.u64.wrap (x / 4294967296 * (y % 4294967296)) + IntKind.u64.wrap (x % 4294967296 * (y % 4294967296)) / 4294967296)
  rw [and_low32 _ t.1 t.2]
  simp only [IntKind.wrap_u64]
  exact mul64_arith x y hx0 hx hy0 hy

set_option maxHeartbeats 1000000 in
theorem mul64_any (x y : Int) (hx0 : 0 ≤ x) (hx : x < 18446744073709551616) (hy0 : 0 ≤ y) (hy : y < 18446744073709551616) (w : World) :
    Calls Tryz.prog 156 #[.int .u64 x, .int .u64 y] w fun e w' => e = .returned (.tuple #[.int .u64 (x * y / 18446744073709551616), .int .u64 (x * y % 18446744073709551616)]) ∧ w' = w := by
  have m1 := and_low32 x hx0 hx
  have m2 := and_low32 y hy0 hy
  go_enter Tryz.func156, Tryz.ntmps156
  go_wp2
  go_ret2
  exact ⟨ret2U (mul64_high x y hx0 hx hy0 hy) (by rw [IntKind.wrap_u64]), rfl⟩

/-- One limb of a row: what the three steps come to. -/
theorem times_step {x b t c : Int} (hx0 : 0 ≤ x) (hx : x < 18446744073709551616) (hb0 : 0 ≤ b) (hb : b < 18446744073709551616) (ht0 : 0 ≤ t) (ht : t < 18446744073709551616) (hc0 : 0 ≤ c) (hc : c < 18446744073709551616) :
    ((x * b % 18446744073709551616 + t) % 18446744073709551616 + c) % 18446744073709551616 = (x * b + t + c) % 18446744073709551616 ∧
    x * b / 18446744073709551616 + (x * b % 18446744073709551616 + t) / 18446744073709551616 + ((x * b % 18446744073709551616 + t) % 18446744073709551616 + c) / 18446744073709551616 = (x * b + t + c) / 18446744073709551616 ∧
    x * b / 18446744073709551616 + (x * b % 18446744073709551616 + t) / 18446744073709551616 < 18446744073709551616 ∧ (x * b + t + c) / 18446744073709551616 < 18446744073709551616 ∧ 0 ≤ x * b / 18446744073709551616 := by
  have p0 : 0 ≤ x * b := Int.mul_nonneg hx0 hb0
  have p1 : x * b ≤ 18446744073709551615 * 18446744073709551615 := Int.mul_le_mul (by omega) (by omega) hb0 (by omega)
  generalize x * b = p at *
  omega
end Go.Proofs.YtmbcmhncicbbjaaGreatDoor

namespace Go.Proofs.YtmbcmhncicbbjaaGreatDoor
open Go.RowKit

theorem add64_0 (x y : Int) (hx : 0 ≤ x) (hy : 0 ≤ y) (w : World) : (callFunc 147 #[.int .u64 x, .int .u64 y, .int .u64 0]).run Tryz.prog w =
    .ok (.value (.tuple #[.int .u64 ((x + y) % 18446744073709551616), .int .u64 ((x + y) / 18446744073709551616)])) w := by
  have := add64_run x y 0 hx hy (Int.le_refl 0) (by decide) w
  rw [Int.add_zero] at this
  exact this

theorem add64_up (x c : Int) (hx : 0 ≤ x) (hc0 : 0 ≤ c) (hc : c ≤ 1) (hs : x + c < 18446744073709551616) (w : World) : (callFunc 147 #[.int .u64 x, .int .u64 0, .int .u64 c]).run Tryz.prog w =
    .ok (.value (.tuple #[.int .u64 (x + c), .int .u64 ((x + c) / 18446744073709551616)])) w := by
  have := add64_run x 0 c hx (Int.le_refl 0) hc0 hc w
  rw [Int.add_zero, Int.emod_eq_of_lt (by omega) hs] at this
  exact this
/-- A row of n cells, those from off on replaced by a list. -/
def laidF (f : Nat → Nat) (off k : Nat) (out : List Nat) (j : Nat) : Nat := if off ≤ j ∧ j < off + k then out.getD (j - off) 0 else f j
theorem laidF_zero (f : Nat → Nat) (off : Nat) (out : List Nat) (j : Nat) : laidF f off 0 out j = f j := by unfold laidF; rw [if_neg (by omega)]
theorem laidF_snoc {f : Nat → Nat} {off k : Nat} {out : List Nat} (hl : out.length = k) (v j : Nat) : (if j = off + k then v else laidF f off k out j) = laidF f off (k + 1) (out ++ [v]) j := by
  unfold laidF
  by_cases h : j = off + k
  · rw [if_pos h, if_pos (by omega), h, show off + k - off = k by omega, List.getD_eq_getElem?_getD, List.getElem?_append_right (by omega)]
    simp [hl]
  · rw [if_neg h]
    by_cases h2 : off ≤ j ∧ j < off + k
    · rw [if_pos h2, if_pos (by omega), List.getD_eq_getElem?_getD, List.getD_eq_getElem?_getD, List.getElem?_append_left (by omega)]
    · rw [if_neg h2, if_neg (by omega)]
/-- The answer of addTimes: the limbs laid down, what is carried. -/
def GaveRow (w0 : World) (L : Nat) (f : Nat → Nat) (off : Nat) (t xs : List Nat) (b : Nat) (e : Ending) (w' : World) : Prop :=
  ∃ out c : _, e = .returned (.int .u64 ((c : Nat) : Int)) ∧ Rowed t xs b xs.length out c ∧ FRow w' w0.heap.size L (laidF f off xs.length out) ∧ Below w0.heap.size w0 w'

set_option maxHeartbeats 1000000 in
theorem addTimes_any (w0 w : World) (xs t : List Nat) (ao : Option Addr) (cap capT L off b : Nat) (f : Nat → Nat) (hr : LRow w0 ao xs) (hb : Below w0.heap.size w0 w) (hrow : FRow w w0.heap.size L f)
    (hL : Lm xs) (ht : Lm t) (htl : t.length = xs.length) (htf : ∀ j, j < xs.length → f (off + j) = t.getD j 0) (hoff : off + xs.length ≤ L) (hn : xs.length ≤ 100000) (hbv : b < 18446744073709551616) (hct : xs.length ≤ capT) (hct0 : capT ≠ 0) :
    Calls Tryz.prog 137 #[.slice (some ⟨w0.heap.size, off, none⟩) xs.length capT, .slice ao xs.length cap, .int .u64 b] w (GaveRow w0 L f off t xs b) := by
  have HF : Hid (∀ j, j < xs.length → f (off + j) = t.getD j 0) := htf
  clear htf
  go_enter Tryz.func137, Tryz.ntmps137
  go_wp2
  go_loopg [18, 7] xs.length (fun g i cv wr => ∃ (k : Nat) (out : List Nat) (c : Nat), k ≤ xs.length ∧ g = xs.length - k ∧ i = .int .i64 k ∧ cv = .int .u64 c ∧ Hid (Rowed t xs b k out c) ∧ FRow wr w0.heap.size L (laidF f off k out) ∧ Below w0.heap.size w0 wr)
  case atStart => exact ⟨0, [], 0, Nat.zero_le _, rfl, rfl, rfl, rowed_nil _ _ _, hrow.congr (fun j _ => (laidF_zero f off [] j).symm), hb⟩
  case round =>
    obtain ⟨k, out, c, hk, hg, rfl, rfl, hR, hrw, hbw⟩ := hrel
    clear hrow hb
    by_cases hlt : k < xs.length
    · have hrx := hr.below hbw
      rcases hrx with h | ⟨bx, ox, rfl, hc⟩
      · omega
      · have g1 := hc k hlt
        have kx := hL.getD k
        have ky := ht.getD k
        have kc : c < 18446744073709551616 := hR.out.2.2.1
        have g2 : wr.cell? ⟨w0.heap.size, off + k, none⟩ = some (.int .u64 ((laidF f off k out (off + k) : Nat) : Int)) := World.rowIs.cell hrw (by omega)
        have g3 := World.rowIs.frozen hrw (off + k)
        have e2 : laidF f off k out (off + k) = t.getD k 0 := by unfold laidF; rw [if_neg (by omega)]; exact HF.out k hlt
        rw [e2] at g2
        have HS : Hid (Rowed t xs b (k + 1) (out ++ [(xs.getD k 0 * b + t.getD k 0 + c) % 18446744073709551616]) ((xs.getD k 0 * b + t.getD k 0 + c) / 18446744073709551616)) := rowed_step hR.out ht hL hbv hlt (by omega)
        have hol : out.length = k := hR.out.2.1
        obtain ⟨x, hx⟩ : ∃ x, xs.getD k 0 = x := ⟨_, rfl⟩
        obtain ⟨y, hy⟩ : ∃ y, t.getD k 0 = y := ⟨_, rfl⟩
        rw [hx, hy] at HS
        rw [hx] at g1 kx
        rw [hy] at g2 ky
        have hm := mul64_any (x : Int) (b : Int) (by omega) (by omega) (by omega) (by omega) wr
        have p0 : 0 ≤ (x : Int) * b := Int.mul_nonneg (by omega) (by omega)
        have ev : ((((x * b + y + c) % 18446744073709551616 : Nat)) : Int) = ((x : Int) * b + y + c) % 18446744073709551616 := by rw [Int.natCast_emod, Int.natCast_add, Int.natCast_add, Int.natCast_mul]; rfl
        have ec : ((((x * b + y + c) / 18446744073709551616 : Nat)) : Int) = ((x : Int) * b + y + c) / 18446744073709551616 := by rw [Int.natCast_ediv, Int.natCast_add, Int.natCast_add, Int.natCast_mul]; rfl
        have hset := hrw.set (off + k) ((x * b + y + c) % 18446744073709551616)
        rw [ev] at hset
        have p1 : (x : Int) * b ≤ 18446744073709551615 * 18446744073709551615 := Int.mul_le_mul (by omega) (by omega) (by omega) (by omega)
        generalize (x : Int) * (b : Int) = p at *
        have s2 : p / 18446744073709551616 + (p % 18446744073709551616 + y) / 18446744073709551616 + ((p + y) % 18446744073709551616 + c) / 18446744073709551616 = (p + y + c) / 18446744073709551616 := by omega
        have HV2 : Hid (((x * b + y + c) / 18446744073709551616 : Nat) = p / 18446744073709551616 + (p % 18446744073709551616 + y) / 18446744073709551616 + ((p + y) % 18446744073709551616 + c) / 18446744073709551616) := ec.trans s2.symm
        have ha1 := fun w => add64_0 (p % 18446744073709551616) (y : Int) (by omega) (by omega) w
        have ha2 := fun w => add64_0 ((p + y) % 18446744073709551616) (c : Int) (by omega) (by omega) w
        have ha3 := fun w => add64_up (p / 18446744073709551616) ((p % 18446744073709551616 + y) / 18446744073709551616) (by omega) (by omega) (by omega) (by omega) w
        have ha4 := fun w => add64_up (p / 18446744073709551616 + (p % 18446744073709551616 + y) / 18446744073709551616) (((p + y) % 18446744073709551616 + c) / 18446744073709551616) (by omega) (by omega) (by omega) (by omega) w
        have hbs := fun v => hbw.setCell (p := ⟨w0.heap.size, off + k, none⟩) (Nat.le_refl _) (.int .u64 v)
        clear hc hr hx hy hrw hbw s2 ev ec hR HF e2
        go_wp2_with (go_at_call 156; refine hm.mono ?_; rintro e w' ⟨rfl, hww⟩; subst hww)
        go_roundg (xs.length - (k + 1))
        case measure => omega
        case rel =>
          refine ⟨k + 1, _, _, by omega, rfl, by go_num, ?_, HS, hset.congr (fun j _ => laidF_snoc hol _ j), hbs _⟩
          rw [HV2.out]
    · have hkk : k = xs.length := by omega
      subst hkk
      go_wp2
      go_ret
      exact ⟨out, c, rfl, hR.out, hrw, hbw⟩
end Go.Proofs.YtmbcmhncicbbjaaGreatDoor

namespace Go.Proofs.YtmbcmhncicbbjaaGreatDoor
open Go.RowKit

/-- The number of the first n limbs that a function tells. -/
def vF : Nat → (Nat → Nat) → Nat
  | 0, _ => 0
  | n + 1, f => vF n f + 2 ^ (64 * n) * f n
theorem vF_congr {n : Nat} {f g : Nat → Nat} (h : ∀ j, j < n → f j = g j) : vF n f = vF n g := by
  induction n with
  | zero => rfl
  | succ n ih => rw [vF, vF, ih (fun j hj => h j (by omega)), h n (by omega)]
theorem vF_zero {n : Nat} {f : Nat → Nat} (h : ∀ j, j < n → f j = 0) : vF n f = 0 := by
  induction n with
  | zero => rfl
  | succ n ih => rw [vF, ih (fun j hj => h j (by omega)), h n (by omega), Nat.mul_zero]
theorem vF_split (a b : Nat) (f : Nat → Nat) : vF (a + b) f = vF a f + 2 ^ (64 * a) * vF b (fun j => f (a + j)) := by
  induction b with
  | zero => simp [vF]
  | succ b ih =>
    rw [← Nat.add_assoc, vF, vF, ih, show 64 * (a + b) = 64 * a + 64 * b by omega, Nat.pow_add, Nat.mul_add, Nat.mul_assoc, Nat.add_assoc]
theorem vF_list (xs : List Nat) : ∀ k, k ≤ xs.length → vF k (fun j => xs.getD j 0) = vl (xs.take k)
  | 0, _ => by simp [vF, vl]
  | k + 1, h => by rw [vF, vF_list xs k (by omega), vl_take_succ (by omega)]
/-- Limbs as a list out of a function. -/
def toL (n : Nat) (f : Nat → Nat) : List Nat := (List.range n).map f
theorem toL_length (n : Nat) (f : Nat → Nat) : (toL n f).length = n := by simp [toL]
theorem toL_getD {n : Nat} {f : Nat → Nat} {j : Nat} (h : j < n) : (toL n f).getD j 0 = f j := by simp [toL, List.getD_eq_getElem?_getD, h]
theorem toL_vl (n : Nat) (f : Nat → Nat) : vl (toL n f) = vF n f := by
  have := vF_list (toL n f) n (by rw [toL_length]; omega)
  rw [List.take_of_length_le (by rw [toL_length]; omega)] at this
  rw [← this]
  exact vF_congr fun j hj => toL_getD hj
theorem toL_lm {n : Nat} {f : Nat → Nat} (h : ∀ j, j < n → f j < 18446744073709551616) : Lm (toL n f) := by
  intro x hx
  simp only [toL, List.mem_map, List.mem_range] at hx
  obtain ⟨j, hj, rfl⟩ := hx
  exact h j hj
/-- The product so far. -/
def Prod' (xs ys : List Nat) (n k : Nat) (f : Nat → Nat) : Prop := (∀ j, j < n → f j < 18446744073709551616) ∧ vF n f = vl (xs.take k) * vl ys ∧ ∀ j, k + ys.length ≤ j → f j = 0
theorem prod_nil (xs ys : List Nat) (n : Nat) : Prod' xs ys n 0 (fun _ => 0) := ⟨fun _ _ => (show 0 < 18446744073709551616 by omega), by rw [vF_zero (fun _ _ => rfl)]; simp [vl], fun _ _ => rfl⟩
theorem prod_step {xs ys : List Nat} {n k : Nat} {f : Nat → Nat} {out : List Nat} {c : Nat} (h : Prod' xs ys n k f) (hn : n = xs.length + ys.length) (hk : k < xs.length)
    (hR : Rowed (toL ys.length fun j => f (k + j)) ys (xs.getD k 0) ys.length out c) :
    Prod' xs ys n (k + 1) (fun j => if j = k + ys.length then c else laidF f k ys.length out j) := by
  obtain ⟨h1, h2, h3⟩ := h
  obtain ⟨r1, r2, r3, r4⟩ := hR
  have ht : (toL ys.length fun j => f (k + j)).take ys.length = toL ys.length fun j => f (k + j) := List.take_of_length_le (by rw [toL_length]; omega)
  rw [ht, toL_vl, List.take_length] at r4
  refine ⟨fun j hj => ?_, ?_, fun j hj => ?_⟩
  · by_cases e : j = k + ys.length
    · simp only [e, if_true]; exact r3
    · simp only [e, if_false]
      unfold laidF
      split
      · exact r1.getD _
      · exact h1 j hj
  · obtain ⟨r, hr⟩ : ∃ r, n = k + (ys.length + (1 + r)) := ⟨n - k - ys.length - 1, by omega⟩
    rw [hr, vF_split, vF_split, vF_split] at h2 ⊢
    have e1 : vF k (fun j => if j = k + ys.length then c else laidF f k ys.length out j) = vF k f := vF_congr fun j hj => by
      simp only [show j ≠ k + ys.length by omega, if_false]; unfold laidF; rw [if_neg (by omega)]
    have e2 : vF ys.length (fun j => if k + j = k + ys.length then c else laidF f k ys.length out (k + j)) = vl out := by
      have := vF_list out ys.length (by omega)
      rw [List.take_of_length_le (by omega)] at this
      rw [← this]
      exact vF_congr fun j hj => by
        simp only [show ¬ k + j = k + ys.length by omega, if_false]; unfold laidF; rw [if_pos (by omega), show k + j - k = j by omega]
    have e3 : vF 1 (fun j => if k + (ys.length + j) = k + ys.length then c else laidF f k ys.length out (k + (ys.length + j))) = c := by
      simp [vF]
    have e4 : vF r (fun j => if k + (ys.length + (1 + j)) = k + ys.length then c else laidF f k ys.length out (k + (ys.length + (1 + j)))) = 0 := vF_zero fun j hj => by
      simp only [show ¬ k + (ys.length + (1 + j)) = k + ys.length by omega, if_false]; unfold laidF; rw [if_neg (by omega)]; exact h3 _ (by omega)
    have e5 : vF 1 (fun j => f (k + (ys.length + j))) = 0 := vF_zero fun j _ => h3 _ (by omega)
    have e6 : vF r (fun j => f (k + (ys.length + (1 + j)))) = 0 := vF_zero fun j _ => h3 _ (by omega)
    rw [e1, e2, e3, e4, Nat.mul_zero, Nat.add_zero, r4]
    rw [e5, e6, Nat.mul_zero, Nat.add_zero] at h2
    rw [vl_take_succ hk, Nat.add_mul, ← h2, Nat.mul_add, ← Nat.add_assoc, Nat.mul_assoc, Nat.mul_comm (xs.getD k 0)]
  · have hj' : (k + 1) + ys.length ≤ j := hj
    simp only [show j ≠ k + ys.length by omega, if_false]
    unfold laidF; rw [if_neg (by omega)]; exact h3 j (by omega)

def GaveP (w : World) (xs ys : List Nat) (e : Ending) (w' : World) : Prop :=
  ∃ (n : Nat) (f : Nat → Nat), e = .returned (.slice (some ⟨w.heap.size, 0, none⟩) n (xs.length + ys.length)) ∧ n ≤ xs.length + ys.length ∧ (∀ j, j < n → f j < 18446744073709551616) ∧ vF n f = vl xs * vl ys ∧ LRow w' (some ⟨w.heap.size, 0, none⟩) (toL n f) ∧ Below w.heap.size w w'

theorem FRow.lrowL {w : World} {b n : Nat} {f : Nat → Nat} (h : FRow w b n f) : LRow w (some ⟨b, 0, none⟩) (toL n f) := h.lrow (toL_length _ _) (fun _ hj => toL_getD hj)
/-- The first limbs of a row. -/
theorem LRow.cutL {w : World} {ao : Option Addr} {n m : Nat} {f : Nat → Nat} (h : LRow w ao (toL n f)) (hm : m ≤ n) : LRow w ao (toL m f) := by
  by_cases h0 : m = 0
  · exact Or.inl (by rw [toL_length]; exact h0)
  rcases h with h | ⟨b, o, rfl, hc⟩
  · rw [toL_length] at h; omega
  · refine Or.inr ⟨b, o, rfl, fun j hj => ?_⟩
    rw [toL_length] at hj
    rw [hc j (by rw [toL_length]; omega), toL_getD (by omega), toL_getD hj]
/-- How many limbs a number needs, and that the others are noughts. -/
theorem trim_vF {n : Nat} {f : Nat → Nat} (h : ∀ j, j < n → f j < 18446744073709551616) : (bl (vF n f) + 63) / 64 ≤ n ∧ vF ((bl (vF n f) + 63) / 64) f = vF n f := by
  have hb : ∀ m, (∀ j, j < m → f j < 18446744073709551616) → vF m f < 2 ^ (64 * m) := fun m hm => by
    induction m with
    | zero => simp [vF]
    | succ m ih =>
      have i1 := ih (fun j hj => hm j (by omega))
      have i2 := hm m (by omega)
      rw [vF, show 64 * (m + 1) = 64 * m + 64 by omega, Nat.pow_add, p64]
      have : 2 ^ (64 * m) * f m ≤ 2 ^ (64 * m) * 18446744073709551615 := Nat.mul_le_mul_left _ (by omega)
      omega
  have h1 := hb n h
  have h2 : bl (vF n f) ≤ 64 * n := bl_le_iff.2 h1
  refine ⟨by omega, ?_⟩
  obtain ⟨m, hm⟩ : ∃ m, (bl (vF n f) + 63) / 64 = m := ⟨_, rfl⟩
  rw [hm]
  obtain ⟨r, rfl⟩ : ∃ r, n = m + r := ⟨n - m, by omega⟩
  have h3 : vF (m + r) f < 2 ^ (64 * m) := bl_le_iff.1 (by omega)
  rw [vF_split] at h3 ⊢
  have h4 : vF r (fun j => f (m + j)) = 0 := by
    rcases Nat.eq_zero_or_pos (vF r (fun j => f (m + j))) with h | h
    · exact h
    · have := Nat.mul_le_mul_left (2 ^ (64 * m)) h
      omega
  rw [h4, Nat.mul_zero, Nat.add_zero]

set_option maxHeartbeats 400000 in
/-- Trim of a row of limbs that is not nil. -/
theorem trim_any (n c : Nat) (f : Nat → Nat) (b : Nat) (w : World) (hr : LRow w (some ⟨b, 0, none⟩) (toL n f)) (h : ∀ j, j < n → f j < 18446744073709551616) (hnc : n ≤ c) (hc : c ≤ 1000000) :
    Calls Tryz.prog 138 #[.slice (some ⟨b, 0, none⟩) n c] w fun e w' => e = .returned (.slice (some ⟨b, 0, none⟩) ((bl (vF n f) + 63) / 64) c) ∧ w' = w := by
  have hcl := bitLen_any (toL n f) (some ⟨b, 0, none⟩) c w hr (toL_lm h) (by rw [toL_length]; omega)
  rw [toL_length, toL_vl] at hcl
  have ht := (trim_vF h).1
  obtain ⟨l, hl⟩ : ∃ l, bl (vF n f) = l := ⟨_, rfl⟩
  rw [hl] at hcl ht ⊢
  have i1 : ((l : Int) + 64 - 1) / 64 = (((l + 63) / 64 : Nat) : Int) := by omega
  have i2 : (((l + 63) / 64 : Nat) : Int) ≤ (c : Int) := by omega
  have i3 : l ≤ 100000000 := by omega
  obtain ⟨m, hm⟩ : ∃ m, (l + 63) / 64 = m := ⟨_, rfl⟩
  rw [hm] at i1 i2 ⊢
  clear hl hm ht hr h
  go_enter Tryz.func138, Tryz.ntmps138
  go_wp2_with (go_at_call 135; refine hcl.mono ?_; rintro e w1 ⟨rfl, h1⟩; subst w1)
  go_ret
  exact ⟨rfl, rfl⟩

set_option maxHeartbeats 1000000 in
theorem product_any (xs ys : List Nat) (ao bo : Option Addr) (cap bcap : Nat) (w : World) (hr : LRow w ao xs) (hs : LRow w bo ys) (hL : Lm xs) (hM : Lm ys) (n1 : xs.length ≤ 1000) (n2 : ys.length ≤ 1000) :
    Calls Tryz.prog 118 #[.slice ao xs.length cap, .slice bo ys.length bcap] w (GaveP w xs ys) := by
  have hmk := run_make_row' (P := Tryz.prog) 54 75 (.int .u64 0) 8 Tryz.underlying54 Tryz.infoU rfl .i64 .i64 (xs.length + ys.length) (by omega) (by omega)
  rw [Int.natCast_add] at hmk
  have hmade := FRow.made w (xs.length + ys.length)
  have hbm : Below w.heap.size w (w.alloc (.cells (madeCells #[.int .u64 0] (xs.length + ys.length)) 75)) := (Below.refl _ _).alloc (Nat.le_refl _) _
  go_enter Tryz.func118, Tryz.ntmps118
  go_wp2
  clear hmk
  go_loopg [15] xs.length (fun g i wr => ∃ (k : Nat) (f : Nat → Nat), k ≤ xs.length ∧ g = xs.length - k ∧ i = .int .i64 k ∧ Hid (Prod' xs ys (xs.length + ys.length) k f) ∧ FRow wr w.heap.size (xs.length + ys.length) f ∧ Below w.heap.size w wr)
  case atStart => exact ⟨0, _, Nat.zero_le _, rfl, rfl, prod_nil _ _ _, hmade, hbm⟩
  case round =>
    obtain ⟨k, f, hk, hg, rfl, hP, hrw, hbw⟩ := hrel
    clear hmade hbm
    by_cases hlt : k < xs.length
    · rcases hr with h | ⟨bx, ox, rfl, hc⟩
      · omega
      · have g0 := hc k hlt
        have hblk := World.block_lt_of_cell? w _ g0
        have g1 : wr.cell? ⟨bx, ox + k, none⟩ = some (.int .u64 (xs.getD k 0 : Nat)) := by rw [hbw.cell hblk]; exact g0
        obtain ⟨x, hx⟩ : ∃ x, xs.getD k 0 = x := ⟨_, rfl⟩
        have kx := hL.getD k
        rw [hx] at g0 g1 kx
        have HX : Hid (xs.getD k 0 = x) := hx
        have htl : (toL ys.length fun j => f (k + j)).length = ys.length := toL_length _ _
        have htm : Lm (toL ys.length fun j => f (k + j)) := toL_lm fun j hj => hP.out.1 _ (by omega)
        have hct := fun w' (hb' : Below w.heap.size w w') (hf' : FRow w' w.heap.size (xs.length + ys.length) f) => addTimes_any w w' ys (toL ys.length fun j => f (k + j)) bo bcap (xs.length + ys.length - k) (xs.length + ys.length) k x f hs hb' hf' hM htm htl (fun j hj => (toL_getD (f := fun j => f (k + j)) hj).symm) (by omega) (by omega) kx (by omega) (by omega)
        have i1 : (k : Int) < (xs.length : Int) := by omega
        have i2 : (k : Int) + (ys.length : Int) < (xs.length : Int) + (ys.length : Int) := by omega
        have i0 : (0 : Int) ≤ (k : Int) := by omega
        have hwr : IntKind.i64.wrap ((k : Int) + (ys.length : Int)) = (k : Int) + (ys.length : Int) := by rw [IntKind.wrap_i64]; omega
        have i3 : (k : Int) ≤ (k : Int) + (ys.length : Int) := by omega
        have i4 : (k : Int) + (ys.length : Int) ≤ (xs.length : Int) + (ys.length : Int) := by omega
        have i5 : ¬ xs.length + ys.length = k := by omega
        have i6 : ((k : Int) + (ys.length : Int) - (k : Int)).toNat = ys.length := by omega
        have i7 : (0 : Int) ≤ (k : Int) + (ys.length : Int) := by omega
        have i8 : ((k : Int) + (ys.length : Int)).toNat = k + ys.length := by omega
        clear hc hx
        go_wp2
        go_region_held3 (fun w' => w'.cell? ⟨bx, ox + k, none⟩ = some (.int .u64 x)) (go_keep)
          (first | (go_at_call 137; refine (hct wr.drew hbw.drew hrw).mono ?_; rintro e w1 ⟨out, c, rfl, hR, hrow1, hb1⟩; have g3 := World.rowIs.cell hrow1 (i := k + ys.length) (by omega); have g4 := World.rowIs.frozen hrow1 (k + ys.length); have g2 : w1.cell? ⟨bx, ox + k, none⟩ = some (.int .u64 x) := (by rw [hb1.cell hblk]; exact g0); have g5 : ∀ v, (w1.setCell ⟨w.heap.size, k + ys.length, none⟩ v).cell? ⟨bx, ox + k, none⟩ = some (.int .u64 x) := (fun v => (by rw [World.cell?_of_block (w := w1) (Below.heap_setCell w1 _ v bx (by have := hblk; simp only at this ⊢; omega))]; exact g2))))
        have HR : Hid _ := hR
        have hset := hrow1.set (k + ys.length) c
        have hbs := hb1.setCell (p := ⟨w.heap.size, k + ys.length, none⟩) (Nat.le_refl _) (.int .u64 (c : Int))
        clear hR hct hrow1 hb1 g3 g4 g2 g5 hwr
        go_wp2
        go_roundg (xs.length - (k + 1))
        case measure => omega
        case rel =>
          refine ⟨k + 1, _, by omega, rfl, by go_num, prod_step hP.out rfl hlt ?_, hset, hbs⟩
          have := HR.out
          rw [HX.out]
          exact this
    · have hkk : k = xs.length := by omega
      subst hkk
      have htr := trim_any (xs.length + ys.length) (xs.length + ys.length) f w.heap.size wr hrw.lrowL hP.out.1 (Nat.le_refl _) (by omega)
      obtain ⟨ht1, ht2⟩ := trim_vF hP.out.1
      obtain ⟨m, hm⟩ : ∃ m, (bl (vF (xs.length + ys.length) f) + 63) / 64 = m := ⟨_, rfl⟩
      rw [hm] at htr ht1 ht2
      have HV : Hid (vF m f = vl xs * vl ys) := (show vF m f = vl xs * vl ys by rw [ht2, hP.out.2.1, List.take_length])
      clear hm ht2
      go_wp2_with (go_at_call 138; refine htr.mono ?_; rintro e w1 ⟨rfl, h1⟩; subst w1)
      go_ret
      exact ⟨m, f, rfl, ht1, fun j hj => hP.out.1 j (by omega), HV.out, hrw.lrowL.cutL ht1, hbw⟩
end Go.Proofs.YtmbcmhncicbbjaaGreatDoor

namespace Go.Proofs.YtmbcmhncicbbjaaGreatDoor
open Go.RowKit

set_option maxHeartbeats 400000 in
theorem clone_any (xs : List Nat) (ao : Option Addr) (cap : Nat) (w : World) (hr : LRow w ao xs) (hn : xs.length ≤ 17592186044416) :
    Calls Tryz.prog 161 #[.slice ao xs.length cap] w (GaveL w xs) := by
  obtain ⟨i0, hi, hz0, hz1, hz2⟩ := info_parts Tryz.infoU
  have hq : ∀ (w : World) (a : Option Addr) (n c n' c' : Nat), (binOp .eql 54 (.slice a n c) (.slice none n' c')).run Tryz.prog w = .ok (.bool a.isNone) w := fun w a n c n' c' => Lib.run_eql_slice_nil w _ _ a n c n' c' Tryz.underlying54
  cases ao with
  | none =>
    have hl : xs.length = 0 := by
      rcases hr with h | ⟨b, off, e, _⟩
      · exact h
      · cases e
    go_enter Tryz.func161, Tryz.ntmps161
    go_wp2
    go_ret
    exact ⟨none, 0, by rw [hl]; rfl, Or.inl hl, fun _ => ⟨rfl, hl⟩, Frs.none _, Below.refl _ _⟩
  | some ad =>
    have hnews : ∀ o, ∀ j u, (uv xs)[j]? = some u → (w.alloc o).cell? (ad.add j) = some u := by
      intro o j u hu
      obtain ⟨hj, rfl⟩ := uv_get hu
      rcases hr with h | ⟨b, off, e, hc⟩
      · omega
      · cases e
        have g := cell_alloc (hc j hj) o
        simp only [Addr.add]
        split
        · rename_i h; subst h; exact g
        · exact g
    go_enter Tryz.func161, Tryz.ntmps161
    go_wp2_with (at_builtin; refine wpList_append_own _ rfl _ _ 54 rfl w.heap.size 75 i0 (.int .u64 0) 1 8 Tryz.underlying54 hi hz0 hz1 hz2 rfl (by decide) _ 0 [] rfl (World.ownsRow_made w #[] 0 (Nat.le_refl _) (Nat.zero_le _) rfl) ad xs.length cap (uv xs) rfl (by rw [uv_length, Nat.mul_one]) (hnews _) uv_one (by unfold maxLen; omega) (by omega) (by simp) ?_; intro v' w1 hown hgrow _)
    rw [Nat.zero_add, List.nil_append] at hown
    obtain ⟨ao', cap', rfl, hrow, hcz, hfr⟩ := owned_lrow hown
    have hgrow' : (w.alloc (.cells #[] 75)).grownBy w1 (some w.heap.size) := hgrow
    clear hgrow
    go_wp2
    go_ret
    refine ⟨ao', cap', rfl, hrow, fun h => ⟨hcz h, ?_⟩, hfr, ((Below.refl _ _).alloc (Nat.le_refl _) _).grown hgrow' (by simp) (fun k hk => by cases hk; omega)⟩
    rcases hrow with h1 | ⟨b, off, h2, _⟩
    · exact h1
    · rw [h] at h2; cases h2

set_option maxHeartbeats 400000 in
theorem copied_any (d : Dy) (ao : Option Addr) (cap : Nat) (w : World) (hr : LRow w ao d.mag) (hn : d.mag.length ≤ 17592186044416) :
    Calls Tryz.prog 145 #[.agg #[.bool d.neg, .slice ao d.mag.length cap, .int .i64 d.exp]] w fun e w' => ∃ ao' cap', e = .returned (.agg #[.bool d.neg, .slice ao' d.mag.length cap', .int .i64 d.exp]) ∧ LRow w' ao' d.mag ∧ Frs w.heap.size ao' ∧ Below w.heap.size w w' := by
  obtain ⟨neg, xs, ex⟩ := d
  simp only at *
  go_enter Tryz.func145, Tryz.ntmps145
  go_wp2_with (go_at_call 161; refine (clone_any _ _ _ _ ((hr.alloc _).alloc _) hn).mono ?_; rintro e w1 ⟨ao', cap', rfl, hrow, _, hfr, hb⟩; obtain ⟨⟨c0, c1, c2⟩, ⟨d0, d1, d2⟩, ⟨f0, f1, f2⟩, g0, g1, g2⟩ := box2 hb)
  have hfr2 : Frs (w.heap.size + 2) ao' := hfr.mono (by go_simp)
  refine bodyPost_ret (v := .agg #[.bool neg, .slice ao' xs.length cap', .int .i64 ex]) (by simp [results, Tryz.results145, go_sem, d0, d1, d2]) rfl ⟨ao', cap', rfl, ?_, hfr2.mono (by omega), ?_⟩
  · exact (((hrow.box hfr2 (by omega) _ _).box hfr2 (by omega) _ _).box hfr2 (by omega) _ _).box hfr2 (by omega) _ _
  · exact ((((box2_old hb).setCell (by simp) _).setCell (by simp) _).setCell (by simp) _).setCell (by simp) _
end Go.Proofs.YtmbcmhncicbbjaaGreatDoor

namespace Go.Proofs.YtmbcmhncicbbjaaGreatDoor
open Go.RowKit

theorem norm_at (neg : Bool) (xs : List Nat) (ex : Int) (n : Nat) (hn : xs.length = n) (ao : Option Addr) (cap : Nat) (w : World) (hr : LRow w ao xs) (hL : Lm xs) (hT : TabW w) (hl : n ≤ 1125899906842624) :
    Calls Tryz.prog 117 #[.agg #[.bool neg, .slice ao n cap, .int .i64 ex]] w (Gave w (normD ⟨neg, xs, ex⟩)) := by
  subst hn
  exact norm_any ⟨neg, xs, ex⟩ ao cap w hr hL hT hl
theorem sv_mul {a b : Dy} {zs : List Nat} {e : Int} (hz : vl zs = vl a.mag * vl b.mag) : sv ⟨a.neg != b.neg, zs, e⟩ = sv a * sv b := by
  unfold sv
  simp only [hz, Int.natCast_mul]
  cases a.neg <;> cases b.neg <;> simp [Int.neg_mul, Int.mul_neg]
theorem mul_norm {a b : Dy} (ha : rightB a = true) (hb : rightB b = true) {zs : List Nat} (hz : vl zs = vl a.mag * vl b.mag) : normD ⟨a.neg != b.neg, zs, a.exp + b.exp⟩ = mulD a b := by
  have xa := right_exp ha
  have xb := right_exp hb
  unfold mulD
  rw [ha, hb]
  simp only [Bool.and_self, if_true]
  have := nrm_shift (sv a * sv b) (a.exp + b.exp) ((a.exp + 65536).toNat + (b.exp + 65536).toNat)
  rw [show a.exp + b.exp - (((a.exp + 65536).toNat + (b.exp + 65536).toNat : Nat) : Int) = -131072 by omega, pow_add_int] at this
  unfold normD
  rw [sv_mul hz, ← this]
  unfold qd
  congr 1
  rw [Int.mul_assoc, Int.mul_assoc, Int.mul_left_comm (sv b)]

/-- Three boxes of three cells, behind a call that turned nothing old. -/
theorem box3 {w w1 : World} {x0 x1 x2 y0 y1 y2 z0 z1 z2 : Value} {s t u : TypeId} (hb : Below (((w.alloc (.cells #[x0, x1, x2] s)).alloc (.cells #[y0, y1, y2] t)).alloc (.cells #[z0, z1, z2] u)).heap.size (((w.alloc (.cells #[x0, x1, x2] s)).alloc (.cells #[y0, y1, y2] t)).alloc (.cells #[z0, z1, z2] u)) w1) :
    (w1.cell? ⟨w.heap.size, 0, none⟩ = some x0 ∧ w1.cell? ⟨w.heap.size, 1, none⟩ = some x1 ∧ w1.cell? ⟨w.heap.size, 2, none⟩ = some x2 ∧
    w1.cell? ⟨w.heap.size + 1, 0, none⟩ = some y0 ∧ w1.cell? ⟨w.heap.size + 1, 1, none⟩ = some y1 ∧ w1.cell? ⟨w.heap.size + 1, 2, none⟩ = some y2) ∧
    (w1.cell? ⟨w.heap.size + 1 + 1, 0, none⟩ = some z0 ∧ w1.cell? ⟨w.heap.size + 1 + 1, 1, none⟩ = some z1 ∧ w1.cell? ⟨w.heap.size + 1 + 1, 2, none⟩ = some z2) ∧
    (w1.frozen? ⟨w.heap.size + 1 + 1, 0, none⟩ = false ∧ w1.frozen? ⟨w.heap.size + 1 + 1, 1, none⟩ = false ∧ w1.frozen? ⟨w.heap.size + 1 + 1, 2, none⟩ = false) ∧ Below w.heap.size w w1 := by
  obtain ⟨hc, hf⟩ := oldc hb
  have l0 : w.heap.size < (((w.alloc (.cells #[x0, x1, x2] s)).alloc (.cells #[y0, y1, y2] t)).alloc (.cells #[z0, z1, z2] u)).heap.size := by go_simp
  have l1 : w.heap.size + 1 < (((w.alloc (.cells #[x0, x1, x2] s)).alloc (.cells #[y0, y1, y2] t)).alloc (.cells #[z0, z1, z2] u)).heap.size := by go_simp
  have l2 : w.heap.size + 1 + 1 < (((w.alloc (.cells #[x0, x1, x2] s)).alloc (.cells #[y0, y1, y2] t)).alloc (.cells #[z0, z1, z2] u)).heap.size := by go_simp
  have h1 : Below w.heap.size w (((w.alloc (.cells #[x0, x1, x2] s)).alloc (.cells #[y0, y1, y2] t)).alloc (.cells #[z0, z1, z2] u)) := ((((Below.refl _ _).alloc (Nat.le_refl _) _).alloc (by simp) _).alloc (by go_simp; omega) _)
  refine ⟨⟨?_, ?_, ?_, ?_, ?_, ?_⟩, ⟨?_, ?_, ?_⟩, ⟨?_, ?_, ?_⟩, h1.trans (hb.mono (by omega))⟩
  · rw [hc _ _ l0]; go_simp
  · rw [hc _ _ l0]; go_simp
  · rw [hc _ _ l0]; go_simp
  · rw [hc _ _ l1]; go_simp
  · rw [hc _ _ l1]; go_simp
  · rw [hc _ _ l1]; go_simp
  · rw [hc _ _ l2]; go_simp
  · rw [hc _ _ l2]; go_simp
  · rw [hc _ _ l2]; go_simp
  · rw [hf _ _ l2]; go_simp
  · rw [hf _ _ l2]; go_simp
  · rw [hf _ _ l2]; go_simp
end Go.Proofs.YtmbcmhncicbbjaaGreatDoor

namespace Go.Proofs.YtmbcmhncicbbjaaGreatDoor
open Go.RowKit

/-- Nine cells and three marks read anew behind a further call. -/
theorem three_on {w1 w2 : World} (h : Below w1.heap.size w1 w2) {p : Nat} {x0 x1 x2 : Value} (hc : w1.cell? ⟨p, 0, none⟩ = some x0 ∧ w1.cell? ⟨p, 1, none⟩ = some x1 ∧ w1.cell? ⟨p, 2, none⟩ = some x2) :
    w2.cell? ⟨p, 0, none⟩ = some x0 ∧ w2.cell? ⟨p, 1, none⟩ = some x1 ∧ w2.cell? ⟨p, 2, none⟩ = some x2 := by
  have one : ∀ (o : Nat) (v : Value), w1.cell? ⟨p, o, none⟩ = some v → w2.cell? ⟨p, o, none⟩ = some v := fun o v hc => by
    rw [h.cell (World.block_lt_of_cell? w1 _ hc)]; exact hc
  exact ⟨one _ _ hc.1, one _ _ hc.2.1, one _ _ hc.2.2⟩
theorem marks_on {w1 w2 : World} (h : Below w1.heap.size w1 w2) {p : Nat} {x0 : Value} (hc : w1.cell? ⟨p, 0, none⟩ = some x0) (hf : w1.frozen? ⟨p, 0, none⟩ = false ∧ w1.frozen? ⟨p, 1, none⟩ = false ∧ w1.frozen? ⟨p, 2, none⟩ = false) :
    w2.frozen? ⟨p, 0, none⟩ = false ∧ w2.frozen? ⟨p, 1, none⟩ = false ∧ w2.frozen? ⟨p, 2, none⟩ = false := by
  have hl := World.block_lt_of_cell? w1 _ hc
  exact ⟨by rw [h.frozen hl]; exact hf.1, by rw [h.frozen (p := ⟨p, 1, none⟩) hl]; exact hf.2.1, by rw [h.frozen (p := ⟨p, 2, none⟩) hl]; exact hf.2.2⟩

set_option maxHeartbeats 1000000 in
theorem mul_ok (n1 n2 : Bool) (m1 m2 : List Nat) (e1 e2 : Int) (ao bo : Option Addr) (cap bcap : Nat) (w : World) (hr : LRow w ao m1) (hs : LRow w bo m2) (la : Lm m1) (lb : Lm m2) (hT : TabW w)
    (ra : rightB ⟨n1, m1, e1⟩ = true) (rb : rightB ⟨n2, m2, e2⟩ = true) :
    Calls Tryz.prog 81 #[.agg #[.bool n1, .slice ao m1.length cap, .int .i64 e1], .agg #[.bool n2, .slice bo m2.length bcap, .int .i64 e2]] w (Gave w (mulD ⟨n1, m1, e1⟩ ⟨n2, m2, e2⟩)) := by
  have xa := right_exp ra
  have xb := right_exp rb
  simp only at xa xb
  have hwr : IntKind.i64.wrap (e1 + e2) = e1 + e2 := by rw [IntKind.wrap_i64]; omega
  have l1 : m1.length ≤ 1000 := by omega
  have l2 : m2.length ≤ 1000 := by omega
  obtain ⟨⟨⟨rn, rm, re⟩, rk⟩, hrr⟩ : ∃ r, mulD ⟨n1, m1, e1⟩ ⟨n2, m2, e2⟩ = r := ⟨_, rfl⟩
  have HN : Hid (∀ n f, vF n f = vl m1 * vl m2 → normD ⟨n1 != n2, toL n f, e1 + e2⟩ = (⟨rn, rm, re⟩, rk)) := fun n f hf => by
    rw [← hrr]
    refine mul_norm (a := ⟨n1, m1, e1⟩) (b := ⟨n2, m2, e2⟩) ra rb ?_
    rw [toL_vl, hf]
  rw [hrr]
  clear hrr
  have ne1 : ¬ w.heap.size = w.heap.size + 1 + 1 := by omega
  have ne2 : ¬ w.heap.size + 1 + 1 = w.heap.size := by omega
  go_enter Tryz.func81, Tryz.ntmps81
  go_wp2_with (first
    | (go_at_call_of 116 (Value.agg #[Value.bool n1, Value.slice ao m1.length cap, Value.int IntKind.i64 e1]); refine (right_any ⟨n1, m1, e1⟩ ao cap _ (((hr.alloc _).alloc _).alloc _) la).mono ?_; rintro e w1 ⟨rfl, hb1⟩; obtain ⟨⟨c0, c1, c2, d0, d1, d2⟩, ⟨z0, z1, z2⟩, ⟨f0, f1, f2⟩, ho1⟩ := box3 hb1)
    | (go_at_call_of 116 (Value.agg #[Value.bool n2, Value.slice bo m2.length bcap, Value.int IntKind.i64 e2]); refine (right_any ⟨n2, m2, e2⟩ bo bcap _ (hs.below ho1) lb).mono ?_; rintro e w2 ⟨rfl, hb2⟩; obtain ⟨k0, k1, k2, j0, j1, j2⟩ := six_on (p := w.heap.size) (q := w.heap.size + 1) hb2 ⟨c0, c1, c2, d0, d1, d2⟩; obtain ⟨y0, y1, y2⟩ := three_on (p := w.heap.size + 1 + 1) hb2 ⟨z0, z1, z2⟩; obtain ⟨q0, q1, q2⟩ := marks_on (p := w.heap.size + 1 + 1) hb2 z0 ⟨f0, f1, f2⟩; have ho2 : Below w.heap.size w w2 := ho1.trans (hb2.mono ho1.size)))
  clear hb1 hb2 c0 c1 c2 d0 d1 d2 z0 z1 z2 f0 f1 f2 ho1
  go_region_held3 (fun w' => w'.cell? ⟨w.heap.size, 0, none⟩ = some (.bool n1) ∧ w'.cell? ⟨w.heap.size, 1, none⟩ = some (.slice ao m1.length cap) ∧ w'.cell? ⟨w.heap.size, 2, none⟩ = some (.int .i64 e1) ∧ w'.cell? ⟨w.heap.size + 1, 0, none⟩ = some (.bool n2) ∧ w'.cell? ⟨w.heap.size + 1, 1, none⟩ = some (.slice bo m2.length bcap) ∧ w'.cell? ⟨w.heap.size + 1, 2, none⟩ = some (.int .i64 e2)) (go_keep)
    (first
    | (go_at_call 118; refine (product_any m1 m2 ao bo cap bcap w2.drew (hr.below ho2).drew (hs.below ho2).drew la lb l1 l2).mono ?_; rintro e w3 ⟨n, f, rfl, hnn, hP, hV, hrow, hb3⟩; replace hb3 := undrew hb3; obtain ⟨p0, p1, p2, r0, r1, r2⟩ := six_on (p := w.heap.size) (q := w.heap.size + 1) hb3 ⟨k0, k1, k2, j0, j1, j2⟩; obtain ⟨s0, s1, s2⟩ := three_on (p := w.heap.size + 1 + 1) hb3 ⟨y0, y1, y2⟩; obtain ⟨t0, t1, t2⟩ := marks_on (p := w.heap.size + 1 + 1) hb3 y0 ⟨q0, q1, q2⟩; have ho3 : Below w.heap.size w w3 := ho2.trans (hb3.mono ho2.size))
    | (go_at_call 117; have hnm := norm_at (n1 != n2) (toL n f) (e1 + e2) n (toL_length _ _) (some ⟨w2.drew.heap.size, 0, none⟩) (m1.length + m2.length) w3 hrow (toL_lm hP) (tabW_below hT ho3) (by omega); rw [HN.out n f hV] at hnm; refine hnm.mono ?_; rintro e w4 ⟨ao', cap', rfl, hrow4, hfr4, hb4⟩; obtain ⟨p0, p1, p2, r0, r1, r2⟩ := six_on (p := w.heap.size) (q := w.heap.size + 1) hb4 ⟨p0, p1, p2, r0, r1, r2⟩; have hlt3 : w.heap.size + 1 + 1 < w3.heap.size := World.block_lt_of_cell? w3 _ s0; obtain ⟨t0, t1, t2⟩ := marks_on (p := w.heap.size + 1 + 1) hb4 s0 ⟨t0, t1, t2⟩; obtain ⟨s0, s1, s2⟩ := three_on (p := w.heap.size + 1 + 1) hb4 ⟨s0, s1, s2⟩; have ho4 : Below w.heap.size w w4 := ho3.trans (hb4.mono ho3.size); have hfr5 : Frs (w.heap.size + 3) ao' := hfr4.mono (by omega)))
  clear hnm HN hP hV hrow hb3 hb4 hfr4 k0 k1 k2 j0 j1 j2 y0 y1 y2 q0 q1 q2
  go_wp2
  exact bodyPost_ret (v := .tuple #[.agg #[.bool rn, .slice ao' rm.length cap', .int .i64 re], .int .i64 rk]) (by simp [results, Tryz.results81, go_sem, s0, s1, s2]) rfl ⟨ao', cap', rfl, ((hrow4.box hfr5 (by omega) _ _).box hfr5 (by omega) _ _).box hfr5 (by omega) _ _, hfr5.mono (by omega), ((ho4.setCell (by simp; omega) _).setCell (by simp; omega) _).setCell (by simp; omega) _⟩

set_option maxHeartbeats 1000000 in
theorem mul_arg (n1 n2 : Bool) (m1 m2 : List Nat) (e1 e2 : Int) (ao bo : Option Addr) (cap bcap : Nat) (w : World) (hr : LRow w ao m1) (hs : LRow w bo m2) (la : Lm m1) (lb : Lm m2)
    (h : rightB ⟨n1, m1, e1⟩ = false ∨ rightB ⟨n2, m2, e2⟩ = false) :
    Calls Tryz.prog 81 #[.agg #[.bool n1, .slice ao m1.length cap, .int .i64 e1], .agg #[.bool n2, .slice bo m2.length bcap, .int .i64 e2]] w (Gave w (dy0, 2)) := by
  cases ra : rightB ⟨n1, m1, e1⟩
  · clear h
    go_enter Tryz.func81, Tryz.ntmps81
    go_wp2_with (first
      | (go_at_call_of 116 (Value.agg #[Value.bool n1, Value.slice ao m1.length cap, Value.int IntKind.i64 e1]); refine (right_any ⟨n1, m1, e1⟩ ao cap _ (((hr.alloc _).alloc _).alloc _) la).mono ?_; rintro e w1 ⟨rfl, hb1⟩; obtain ⟨⟨c0, c1, c2, d0, d1, d2⟩, ⟨z0, z1, z2⟩, ⟨f0, f1, f2⟩, ho1⟩ := box3 hb1))
    exact bodyPost_ret (v := .tuple #[.agg #[.bool false, .slice none 0 0, .int .i64 0], .int .i64 2]) (by simp [results, Tryz.results81, go_sem, z0, z1, z2]) rfl ⟨none, 0, rfl, LRow.nil _ _, Frs.none _, ((ho1.setCell (by simp; omega) _).setCell (by simp; omega) _).setCell (by simp; omega) _⟩
  · have rb : rightB ⟨n2, m2, e2⟩ = false := by
      rcases h with h | h
      · rw [ra] at h; cases h
      · exact h
    clear h
    go_enter Tryz.func81, Tryz.ntmps81
    go_wp2_with (first
      | (go_at_call_of 116 (Value.agg #[Value.bool n1, Value.slice ao m1.length cap, Value.int IntKind.i64 e1]); refine (right_any ⟨n1, m1, e1⟩ ao cap _ (((hr.alloc _).alloc _).alloc _) la).mono ?_; rintro e w1 ⟨rfl, hb1⟩; obtain ⟨⟨c0, c1, c2, d0, d1, d2⟩, ⟨z0, z1, z2⟩, ⟨f0, f1, f2⟩, ho1⟩ := box3 hb1)
      | (go_at_call_of 116 (Value.agg #[Value.bool n2, Value.slice bo m2.length bcap, Value.int IntKind.i64 e2]); refine (right_any ⟨n2, m2, e2⟩ bo bcap _ (hs.below ho1) lb).mono ?_; rintro e w2 ⟨rfl, hb2⟩; obtain ⟨y0, y1, y2⟩ := three_on (p := w.heap.size + 1 + 1) hb2 ⟨z0, z1, z2⟩; obtain ⟨q0, q1, q2⟩ := marks_on (p := w.heap.size + 1 + 1) hb2 z0 ⟨f0, f1, f2⟩; have ho2 : Below w.heap.size w w2 := ho1.trans (hb2.mono ho1.size)))
    exact bodyPost_ret (v := .tuple #[.agg #[.bool false, .slice none 0 0, .int .i64 0], .int .i64 2]) (by simp [results, Tryz.results81, go_sem, y0, y1, y2]) rfl ⟨none, 0, rfl, LRow.nil _ _, Frs.none _, ((ho2.setCell (by simp; omega) _).setCell (by simp; omega) _).setCell (by simp; omega) _⟩

theorem mul_any (a b : Dy) (ao bo : Option Addr) (cap bcap : Nat) (w : World) (hr : LRow w ao a.mag) (hs : LRow w bo b.mag) (la : Lm a.mag) (lb : Lm b.mag) (hT : TabW w) :
    Calls Tryz.prog 81 #[.agg #[.bool a.neg, .slice ao a.mag.length cap, .int .i64 a.exp], .agg #[.bool b.neg, .slice bo b.mag.length bcap, .int .i64 b.exp]] w (Gave w (mulD a b)) := by
  by_cases h : rightB a = true ∧ rightB b = true
  · exact mul_ok a.neg b.neg a.mag b.mag a.exp b.exp ao bo cap bcap w hr hs la lb hT h.1 h.2
  · have e : mulD a b = (dy0, 2) := by
      unfold mulD; rw [if_neg]; simpa using h
    rw [e]
    refine mul_arg a.neg b.neg a.mag b.mag a.exp b.exp ao bo cap bcap w hr hs la lb ?_
    rcases Bool.eq_false_or_eq_true (rightB a) with h1 | h1
    · rcases Bool.eq_false_or_eq_true (rightB b) with h2 | h2
      · exact absurd ⟨h1, h2⟩ h
      · exact Or.inr h2
    · exact Or.inl h1
end Go.Proofs.YtmbcmhncicbbjaaGreatDoor

namespace Go.Proofs.YtmbcmhncicbbjaaGreatDoor

/-- A size laid at the power low. -/
def atL (d : Dy) (low : Int) : Nat := vl d.mag * 2 ^ (d.exp - low).toNat
theorem sv_at (d : Dy) (low : Int) : sv d * 2 ^ (d.exp - low).toNat = if d.neg then -(atL d low : Int) else atL d low := by
  unfold sv atL
  rw [Int.natCast_mul, Int.natCast_pow]
  cases d.neg
  · rfl
  · simp only [if_true, Int.neg_mul]; rfl
theorem qd_at {d : Dy} {low : Int} (h1 : -65536 ≤ low) (h2 : low ≤ d.exp) : qd d = sv d * 2 ^ (d.exp - low).toNat * 2 ^ (low + 65536).toNat := by
  unfold qd
  rw [Int.mul_assoc, ← pow_add_int, show (d.exp + 65536).toNat = (d.exp - low).toNat + (low + 65536).toNat by omega]
theorem add_at {a b : Dy} (ha : rightB a = true) (hb : rightB b = true) {low : Int} (h1 : -65536 ≤ low) (h2 : low ≤ a.exp) (h3 : low ≤ b.exp) :
    addD a b = nrm (sv a * 2 ^ (a.exp - low).toNat + sv b * 2 ^ (b.exp - low).toNat) low := by
  unfold addD
  rw [ha, hb, qd_at h1 h2, qd_at h1 h3, ← Int.add_mul]
  simp only [Bool.and_self, if_true]
  have := nrm_shift (sv a * 2 ^ (a.exp - low).toNat + sv b * 2 ^ (b.exp - low).toNat) low (low + 65536).toNat
  rw [show low - ((low + 65536).toNat : Int) = -65536 by omega] at this
  exact this
theorem add_comm' (a b : Dy) : addD a b = addD b a := by unfold addD; rw [Bool.and_comm, Int.add_comm]
/-- With like signs. -/
theorem add_like {a b : Dy} (ha : rightB a = true) (hb : rightB b = true) {low : Int} (h1 : -65536 ≤ low) (h2 : low ≤ a.exp) (h3 : low ≤ b.exp) (hn : a.neg = b.neg) {zs : List Nat} (hz : vl zs = atL a low + atL b low) :
    normD ⟨a.neg, zs, low⟩ = addD a b := by
  rw [add_at ha hb h1 h2 h3, sv_at, sv_at]
  unfold normD sv
  simp only [hz, Int.natCast_add, ← hn]
  cases a.neg
  · rfl
  · simp only [if_true]; rw [Int.neg_add]
/-- With unlike ones, the first not the less. -/
theorem add_unlike {a b : Dy} (ha : rightB a = true) (hb : rightB b = true) {low : Int} (h1 : -65536 ≤ low) (h2 : low ≤ a.exp) (h3 : low ≤ b.exp) (hn : a.neg = !b.neg) {zs : List Nat} (hz : vl zs + atL b low = atL a low) :
    normD ⟨a.neg, zs, low⟩ = addD a b := by
  rw [add_at ha hb h1 h2 h3, sv_at, sv_at]
  unfold normD sv
  have hz' : (vl zs : Int) = (atL a low : Int) - (atL b low : Int) := by omega
  simp only [hz', hn]
  cases b.neg
  · simp only [Bool.not_false, if_true, Bool.false_eq_true, if_false]; congr 1; omega
  · simp only [Bool.not_true, if_true, Bool.false_eq_true, if_false]; congr 1
theorem add_zero_left {b : Dy} (hb : rightB b = true) (lb : Lm b.mag) : addD dy0 b = (b, 0) := by
  unfold addD
  rw [hb]
  simp only [show rightB dy0 = true from rfl, Bool.and_self, if_true]
  rw [show qd dy0 = 0 by unfold qd; rw [show sv dy0 = 0 from rfl, Int.zero_mul], Int.zero_add]
  exact qd_nrm lb hb
theorem right_nil {d : Dy} (h : rightB d = true) (h0 : d.mag.length = 0) : d = dy0 := by
  rcases right_cases h with h | ⟨h, _⟩
  · exact h
  · exact absurd h0 h
theorem right_ne {d : Dy} (h : rightB d = true) (h0 : d.mag.length ≠ 0) : vl d.mag ≠ 0 ∧ d.mag.getD 0 0 % 2 = 1 := by
  rcases right_cases h with rfl | ⟨h1, _, h3, h4, _⟩
  · simp [dy0] at h0
  · exact ⟨vl_ne_last h1 h4, h3⟩
theorem atL_bl {d : Dy} {low : Int} (h0 : vl d.mag ≠ 0) (h : low ≤ d.exp) : (bl (atL d low) : Int) = bl (vl d.mag) + d.exp - low := by
  unfold atL; rw [bl_mul_pow h0]; omega
theorem nrm_wide {m low : Int} (h1 : m.natAbs % 2 = 1) (h2 : 16384 < bl m.natAbs) : nrm m low = (dy0, 3) := by
  have hm : m ≠ 0 := by intro h; rw [h] at h1; simp at h1
  unfold nrm
  rw [if_neg hm, tz_odd h1, if_pos (Or.inl (by omega))]
theorem wide_core {A B E : Nat} (hA : A < 2 ^ E) (hB : 2 ^ (E + 64) ≤ B) : A < B ∧ ¬ A + B < 2 ^ E ∧ ¬ B - A < 2 ^ E := by
  rw [Nat.pow_add, p64] at hB
  have := Nat.two_pow_pos E
  generalize 2 ^ E = P at *
  omega
/-- Too far apart: the lesser one has the lowest bit, and the other one is too far above. -/
theorem add_wide {a b : Dy} (ha : rightB a = true) (hb : rightB b = true) (la : Lm a.mag) (lb : Lm b.mag) (na : a.mag.length ≠ 0) (nb : b.mag.length ≠ 0) {low : Int} (hl : low = min a.exp b.exp) (he : a.exp ≤ b.exp)
    (hw : 16448 < max ((bl (vl a.mag) : Int) + a.exp) ((bl (vl b.mag) : Int) + b.exp) - low) : addD a b = (dy0, 3) := by
  have xa := right_exp ha
  have xb := right_exp hb
  obtain ⟨a0, ao⟩ := right_ne ha na
  obtain ⟨b0, bo⟩ := right_ne hb nb
  have hba : bl (vl a.mag) ≤ 64 * 256 := bl_limbs la xa.2.2
  have hbb : bl (vl b.mag) ≤ 64 * 256 := bl_limbs lb xb.2.2
  have hlt : low < b.exp := by omega
  have hbB := atL_bl (d := b) (low := low) b0 (by omega)
  obtain ⟨E, hE⟩ : ∃ E, E = 16384 := ⟨_, rfl⟩
  have eA : atL a low = vl a.mag := by unfold atL; rw [show (a.exp - low).toNat = 0 by omega, Nat.pow_zero, Nat.mul_one]
  have hA : atL a low < 2 ^ E := by rw [eA]; exact bl_le_iff.1 (by omega)
  have hAo : atL a low % 2 = 1 := by rw [eA, vl_odd la na]; exact ao
  have hBe : atL b low % 2 = 0 := by
    unfold atL
    obtain ⟨d, hd⟩ : ∃ d, (b.exp - low).toNat = d + 1 := ⟨(b.exp - low).toNat - 1, by omega⟩
    rw [hd, Nat.pow_succ, ← Nat.mul_assoc, Nat.mul_mod_left]
  have hB0 : atL b low ≠ 0 := by intro h; rw [h, bl_zero] at hbB; omega
  have hB : 2 ^ (E + 64) ≤ atL b low := Nat.le_trans (Nat.pow_le_pow_right (by omega) (by omega)) (bl_spec hB0).1
  rw [add_at ha hb (show -65536 ≤ low by omega) (by omega) (by omega), sv_at, sv_at]
  generalize atL a low = A at *
  generalize atL b low = B at *
  obtain ⟨w1, w2, w3⟩ := wide_core hA hB
  have key : ∀ m : Int, (m.natAbs = A + B ∨ m.natAbs = B - A) → nrm m low = (dy0, 3) := by
    intro m hm
    apply nrm_wide
    · rcases hm with h | h <;> omega
    · apply Nat.lt_of_not_le
      intro hle
      have hlt := bl_le_iff.1 (show bl m.natAbs ≤ E by omega)
      rcases hm with h | h
      · rw [h] at hlt; exact w2 hlt
      · rw [h] at hlt; exact w3 hlt
  apply key
  clear hA hB w2 w3 key
  cases a.neg <;> cases b.neg <;> simp only [if_true, Bool.false_eq_true, if_false] <;> omega
end Go.Proofs.YtmbcmhncicbbjaaGreatDoor

namespace Go.Proofs.YtmbcmhncicbbjaaGreatDoor
open Go.RowKit

/-- The word of kept times 2^last, kept of 53 bits, or last the least place. -/
def rW (kept : Nat) (last : Int) : Nat := (last + 1074).toNat * 4503599627370496 + kept
theorem jR_eq {f k : Nat} {e : Int} (h0 : f ≠ 0) (hlt : f * 2 ^ k < 9007199254740992) (he : -1074 ≤ e - k) (hor : e - k = -1074 ∨ 4503599627370496 ≤ f * 2 ^ k) : jR f e = rW (f * 2 ^ k) (e - k) := by
  have hl : (f * 2 ^ k).log2 = f.log2 + k := log2_mul h0
  have hne : f * 2 ^ k ≠ 0 := by have := Nat.mul_pos (Nat.pos_of_ne_zero h0) (Nat.two_pow_pos k); omega
  have h53 : f.log2 + k < 53 := by rw [← hl]; exact (Nat.log2_lt hne).2 (by omega)
  unfold jR rW jU jM
  by_cases hb : 4503599627370496 ≤ f * 2 ^ k
  · have h52 : f.log2 + k = 52 := by rw [← hl]; exact log2_eq (by omega) (by omega)
    rw [if_pos (by omega), if_pos (by omega), show 52 - f.log2 = k by omega, show (e + (f.log2 : Int) + 1022).toNat = (e - k + 1074).toNat by omega]
  · have h52 : f.log2 + k < 52 := by rw [← hl]; exact (Nat.log2_lt hne).2 (by omega)
    have h1 : e - k = -1074 := by omega
    rw [if_neg (by omega), if_neg (by omega), show (e + 1074).toNat = k by omega, show (e - k + 1074).toNat = 0 by omega]
theorem rW_lt {kept : Nat} {last : Int} (h1 : kept ≤ 9007199254740992) (h2 : last ≤ 971) : rW kept last ≤ 9218868437227405312 := by unfold rW; omega

theorem ofInt_zero : floatOfInt .f64 (0 : Int) = 0 := by decide
theorem ofInt_top : floatOfInt .f64 (9007199254740992 : Int) = 4845873199050653696 := by decide
theorem mul_zero {e : Int} (h1 : -1074 ≤ e) (h2 : e ≤ 1023) : floatBits .mul .f64 0 (pw e) = some 0 := by
  obtain ⟨p1, p2, p3⟩ := pw_ok h1 h2
  have r0 : Ieee.double.read 0 = .number false 0 (-1074) := by decide
  unfold floatBits
  simp only [fmt64, Ieee.Format.mul]
  rw [r0, read_pos p1]
  simp only [Ieee.Datum.product, Option.map_some, Ieee.Format.write, Option.some.injEq]
  rw [Bool.xor_self, Nat.zero_mul]
  unfold Ieee.Format.nearest
  rw [if_pos rfl]; rfl
theorem top_min {e : Int} (h1 : -1074 ≤ e) (h2 : e ≤ 971) : min ((e + 1075).toNat * 4503599627370496 + 4503599627370496) 9218868437227405312 = rW 9007199254740992 e := by unfold rW; omega
theorem top_near {e : Int} (h1 : -1074 ≤ e) : (∃ d : Nat, -1074 + ((1075 : Nat) : Int) + (-1074 + ((if e < -1022 then 0 else (e + 1022).toNat : Nat) : Int)) = ((e + 1075).toNat : Int) - 1074 + d ∧ 4503599627370496 * (if e < -1022 then 2 ^ (e + 1074).toNat else 4503599627370496) * 2 ^ d = 4503599627370496) ∨
    (∃ d : Nat, -1074 + ((1075 : Nat) : Int) + (-1074 + ((if e < -1022 then 0 else (e + 1022).toNat : Nat) : Int)) + d = ((e + 1075).toNat : Int) - 1074 ∧ 4503599627370496 * (if e < -1022 then 2 ^ (e + 1074).toNat else 4503599627370496) = 4503599627370496 * 2 ^ d) := by
  right
  by_cases hc : e < -1022
  · simp only [if_pos hc]
    exact ⟨(e + 1074).toNat, by omega, rfl⟩
  · simp only [if_neg hc]
    exact ⟨52, by omega, by rw [show (2 : Nat) ^ 52 = 4503599627370496 from rfl]⟩
theorem mul_top {e : Int} (h1 : -1074 ≤ e) (h2 : e ≤ 971) : floatBits .mul .f64 4845873199050653696 (pw e) = some (rW 9007199254740992 e) := by
  obtain ⟨p1, p2, p3⟩ := pw_ok h1 (show e ≤ 1023 by omega)
  have t1 : mg 4845873199050653696 = 4503599627370496 := by decide
  have t2 : up 4845873199050653696 = 1075 := by decide
  have n := nearest_val false _ _ 4503599627370496 (e + 1075).toNat (by decide) (by decide) (Or.inr (Nat.le_refl _)) (top_near h1)
  rw [top_min h1 h2, word_pos] at n
  have r1 := read_pos (show 4845873199050653696 < 9218868437227405312 by decide)
  have r2 := read_pos p1
  rw [t1, t2] at r1
  rw [p2, p3] at r2
  unfold floatBits
  simp only [fmt64, Ieee.Format.mul, r1, r2, Ieee.Datum.product, Option.map_some, Ieee.Format.write, Option.some.injEq, Bool.xor_self]
  exact n
/-- The product that rounds nothing. -/
theorem mul_kept {kept : Nat} {last : Int} (hk : kept ≤ 9007199254740992) (h1 : -1074 ≤ last) (h2 : last ≤ 971) (hor : last = -1074 ∨ 4503599627370496 ≤ kept) :
    ∃ c, floatOfInt .f64 (kept : Int) = c ∧ floatBits .mul .f64 c (pw last) = some (rW kept last) := by
  by_cases h0 : kept = 0
  · subst h0
    have : last = -1074 := by omega
    subst this
    exact ⟨0, ofInt_zero, by rw [mul_zero (by omega) (by omega)]; rfl⟩
  · by_cases ht : kept = 9007199254740992
    · subst ht
      exact ⟨_, ofInt_top, mul_top h1 h2⟩
    · have hlt : kept < 9007199254740992 := by omega
      refine ⟨_, ofInt_eq h0 hlt, ?_⟩
      rw [mul_eq h0 hlt h1 (by omega)]
      have e := jR_eq (f := kept) (k := 0) (e := last) h0 (by omega) (by omega) (by rw [Nat.pow_zero, Nat.mul_one]; omega)
      rw [Nat.pow_zero, Nat.mul_one, show last - ((0 : Nat) : Int) = last by omega] at e
      have := rW_lt hk h2
      rw [e, Nat.min_eq_left this]

/-- The last place that is kept. -/
def rLa (v : Nat) (e : Int) : Int := max ((bl v : Int) + e - 53) (-1074)
def rDr (v : Nat) (e : Int) : Int := rLa v e - e
/-- Is what is kept made one greater? (m: 0 Nearest, 2 Up, 3 Zero.) -/
def rUp (v : Nat) (dr : Int) (m : Int) : Bool := if m = 0 then (win v (dr - 1) % 2 == 1) && (decide (1 < dr) || (win v dr % 2 == 1)) else m == 2
def rKp (v : Nat) (e m : Int) : Nat := if 0 < rDr v e ∧ rUp v (rDr v e) m = true then win v (rDr v e) + 1 else win v (rDr v e)
def rSz (v : Nat) (e m : Int) : Nat := if 1024 < (bl v : Int) + e then (if m = 3 then 9218868437227405311 else 9218868437227405312) else rW (rKp v e m) (rLa v e)

/-- What is kept at the last place, before it is made greater: below 2^53, and of 53 bits unless the place is the least. -/
theorem kept_bd {v : Nat} {e : Int} (h0 : v ≠ 0) (hh : (bl v : Int) + e ≤ 1024) : win v (rDr v e) = shr v (rDr v e) ∧ shr v (rDr v e) < 9007199254740992 ∧ -1074 ≤ rLa v e ∧ rLa v e ≤ 971 ∧ (rLa v e = -1074 ∨ 4503599627370496 ≤ shr v (rDr v e)) := by
  have hb := bl_spec h0
  have hla : rLa v e = (bl v : Int) + e - 53 ∨ (rLa v e = -1074 ∧ (bl v : Int) + e - 53 ≤ -1074) := by unfold rLa; omega
  have key : shr v (rDr v e) < 9007199254740992 ∧ (rLa v e = -1074 ∨ 4503599627370496 ≤ shr v (rDr v e)) := by
    unfold shr
    by_cases hd : 0 ≤ rDr v e
    · rw [if_pos hd]
      have e1 : bl (v / 2 ^ (rDr v e).toNat) = bl v - (rDr v e).toNat := bl_div
      have hle : bl (v / 2 ^ (rDr v e).toNat) ≤ 53 := by rw [e1]; unfold rDr at *; omega
      refine ⟨by have := bl_le_iff.1 hle; omega, ?_⟩
      rcases hla with h | ⟨h, _⟩
      · right
        have e2 : bl (v / 2 ^ (rDr v e).toNat) = 53 := by rw [e1]; unfold rDr at *; omega
        have hn : v / 2 ^ (rDr v e).toNat ≠ 0 := by intro hz; rw [hz] at e2; simp [bl] at e2
        have := (bl_spec hn).1
        rw [e2] at this
        omega
      · exact Or.inl h
    · rw [if_neg hd]
      have e1 : bl (v * 2 ^ (-(rDr v e)).toNat) = bl v + (-(rDr v e)).toNat := bl_mul_pow h0
      have hle : bl (v * 2 ^ (-(rDr v e)).toNat) ≤ 53 := by rw [e1]; unfold rDr at *; omega
      refine ⟨by have := bl_le_iff.1 hle; omega, ?_⟩
      rcases hla with h | ⟨h, _⟩
      · right
        have e2 : bl (v * 2 ^ (-(rDr v e)).toNat) = 53 := by rw [e1]; unfold rDr at *; omega
        have hn : v * 2 ^ (-(rDr v e)).toNat ≠ 0 := by intro hz; rw [hz] at e2; simp [bl] at e2
        have := (bl_spec hn).1
        rw [e2] at this
        omega
      · exact Or.inl h
  refine ⟨by unfold win; rw [Nat.mod_eq_of_lt (by omega)], key.1, by unfold rLa; omega, by unfold rLa; omega, key.2⟩

/-- The parts of a finite float that is not nought, by its magnitude. -/
theorem sp_parts {a : Nat} (h0 : rung a ≠ 0) : spF a * 2 ^ spZ a = mg (rung a) ∧ spF a % 2 = 1 ∧ spE a = (up (rung a) : Int) - 1074 + spZ a := by
  have hlt := mg_lt (rung a)
  have hne := mg_ne h0
  obtain ⟨m, hm, hz⟩ := Lib.ctzFrom_spec 64 (mg (rung a)) (by omega) (by omega)
  have e : spZ a = Lib.ctzFrom 64 (mg (rung a)) := by unfold spZ Lib.ctz; rw [if_neg hne]
  rw [← e] at hm
  have hF : spF a = 2 * m + 1 := by
    unfold spF; rw [if_neg h0]
    rw [Nat.div_eq_of_eq_mul_right (Nat.two_pow_pos _) hm]
  exact ⟨by rw [hF, hm, Nat.mul_comm], by omega, by unfold spE; rw [if_neg h0]⟩
theorem sp_bd {a : Nat} (hf : finB a = true) (h0 : rung a ≠ 0) : spF a ≠ 0 ∧ spF a < 9007199254740992 ∧ spZ a < 53 ∧ -1074 ≤ spE a ∧ spE a ≤ 1023 ∧ up (rung a) < 2046 := by
  obtain ⟨p1, p2, p3⟩ := sp_parts h0
  have hlt := mg_lt (rung a)
  have hr : rung a < 9218868437227405312 := by unfold finB at hf; simpa using hf
  have hu : up (rung a) < 2046 := by unfold up; split <;> omega
  have h1 : spF a ≤ spF a * 2 ^ spZ a := Nat.le_mul_of_pos_right _ (Nat.two_pow_pos _)
  have h2 : 2 ^ spZ a ≤ spF a * 2 ^ spZ a := Nat.le_mul_of_pos_left _ (by omega)
  have h3 : 2 ^ spZ a < 2 ^ 53 := by omega
  have h4 : spZ a < 53 := (Nat.pow_lt_pow_iff_right (by omega : 1 < 2)).1 h3
  omega
theorem sp_join {a : Nat} (hf : finB a = true) (h0 : rung a ≠ 0) : jR (spF a) (spE a) = rung a ∧ okP (spF a) (spE a) = true := by
  obtain ⟨p1, p2, p3⟩ := sp_parts h0
  obtain ⟨b1, b2, b3, b4, b5, b6⟩ := sp_bd hf h0
  have hlt := mg_lt (rung a)
  have hm := mg_up_ok (rung a)
  have hg := rung_mg (rung a)
  have e := jR_eq (f := spF a) (k := spZ a) (e := spE a) b1 (by rw [p1]; exact hlt) (by omega) (by rw [p1]; omega)
  rw [p1] at e
  have e2 : jR (spF a) (spE a) = rung a := by
    rw [e]; unfold rW
    rw [show spE a - (spZ a : Int) + 1074 = (up (rung a) : Int) by omega, Int.toNat_natCast]
    omega
  have hr : rung a < 9218868437227405312 := by unfold finB at hf; simpa using hf
  refine ⟨e2, ?_⟩
  unfold okP; rw [if_neg b1, e2]; simp; omega
/-- A float's own dyad is rounded to it. -/
theorem rSz_self {a : Nat} (hf : finB a = true) (h0 : rung a ≠ 0) (m : Int) : rSz (spF a) (spE a) m = rung a := by
  obtain ⟨p1, p2, p3⟩ := sp_parts h0
  obtain ⟨b1, b2, b3, b4, b5, b6⟩ := sp_bd hf h0
  have hlt := mg_lt (rung a)
  have hm := mg_up_ok (rung a)
  have hg := rung_mg (rung a)
  have hbl : bl (mg (rung a)) = bl (spF a) + spZ a := by rw [← p1]; exact bl_mul_pow b1
  have hle : bl (mg (rung a)) ≤ 53 := bl_le_iff.2 (by omega)
  have hge : up (rung a) = 0 ∨ bl (mg (rung a)) = 53 := by
    rcases hm with h | h
    · exact Or.inl h
    · exact Or.inr (bl_of (n := 52) (by omega) (by omega))
  have hla : rLa (spF a) (spE a) = (up (rung a) : Int) - 1074 := by unfold rLa; omega
  have hdr : rDr (spF a) (spE a) = -(spZ a : Int) := by unfold rDr; omega
  have hw : win (spF a) (rDr (spF a) (spE a)) = mg (rung a) := by
    rw [hdr]; unfold win shr
    by_cases hz : spZ a = 0
    · rw [if_pos (by omega), show (-(spZ a : Int)).toNat = 0 by omega, Nat.pow_zero, Nat.div_one]
      rw [hz, Nat.pow_zero, Nat.mul_one] at p1
      omega
    · rw [if_neg (by omega), show (- -(spZ a : Int)).toNat = spZ a by omega, p1]
      omega
  unfold rSz
  rw [if_neg (by omega)]
  unfold rKp
  rw [if_neg (by omega), hw, hla]
  unfold rW
  rw [show (up (rung a) : Int) - 1074 + 1074 = (up (rung a) : Int) by omega, Int.toNat_natCast]
  omega
end Go.Proofs.YtmbcmhncicbbjaaGreatDoor

namespace Go.Proofs.YtmbcmhncicbbjaaGreatDoor
open Go.RowKit

/-- How a size is rounded. -/
def szm (neg : Bool) (m : Int) : Int := if m = 3 ∨ (m = 1 ∧ neg = false) ∨ (m = 2 ∧ neg = true) then 3 else if m = 1 ∨ m = 2 then 2 else 0
theorem szm_is (neg : Bool) (m : Int) : szm neg m = 0 ∨ szm neg m = 2 ∨ szm neg m = 3 := by unfold szm; (repeat' split) <;> simp

set_option maxHeartbeats 400000 in
theorem sizeMode_any (neg : Bool) (m : Int) (w : World) : Calls Tryz.prog 133 #[.bool neg, .int .i8 m] w fun e w' => e = .returned (.int .i8 (szm neg m)) ∧ w' = w := by
  by_cases h3 : m = 3
  · subst h3
    go_enter Tryz.func133, Tryz.ntmps133
    go_wp2
    go_ret
    exact ⟨rfl, rfl⟩
  · have b3 : (m == 3) = false := beq_eq_false_iff_ne.2 h3
    by_cases h1 : m = 1
    · subst h1
      cases neg
      all_goals
        go_enter Tryz.func133, Tryz.ntmps133
        go_wp2
        go_ret
        exact ⟨rfl, rfl⟩
    · have b1 : (m == 1) = false := beq_eq_false_iff_ne.2 h1
      by_cases h2 : m = 2
      · subst h2
        cases neg
        all_goals
          go_enter Tryz.func133, Tryz.ntmps133
          go_wp2
          go_ret
          exact ⟨rfl, rfl⟩
      · have b2 : (m == 2) = false := beq_eq_false_iff_ne.2 h2
        have HE : Hid (szm neg m = 0) := (show _ = _ by unfold szm; rw [if_neg (by simp [h1, h2, h3]), if_neg (by simp [h1, h2])])
        clear h1 h2 h3
        go_enter Tryz.func133, Tryz.ntmps133
        go_wp2
        go_ret
        exact ⟨retI HE.out.symm, rfl⟩

set_option maxHeartbeats 400000 in
theorem goesUp_any (xs : List Nat) (ao : Option Addr) (cap : Nat) (dr m : Int) (w : World) (hr : LRow w ao xs) (hL : Lm xs) (h1 : -1000000 ≤ dr) (h2 : dr ≤ 1000000) (hm : m = 0 ∨ m = 2 ∨ m = 3) :
    Calls Tryz.prog 152 #[.slice ao xs.length cap, .int .i64 dr, .int .i8 m] w fun e w' => e = .returned (.bool (rUp (vl xs) dr m)) ∧ w' = w := by
  rcases hm with rfl | rfl | rfl
  · have w1 := window_any xs ao cap (dr - 1) w hr hL (by omega) (by omega)
    have w2 := window_any xs ao cap dr w hr hL (by omega) (by omega)
    have l1 := win_lt (vl xs) (dr - 1)
    have l2 := win_lt (vl xs) dr
    have HE : Hid (rUp (vl xs) dr 0 = ((win (vl xs) (dr - 1) % 2 == 1) && (decide (1 < dr) || (win (vl xs) dr % 2 == 1)))) := rfl
    generalize win (vl xs) (dr - 1) = p at *
    generalize win (vl xs) dr = q at *
    have a1 : bits .and .u64 (p : Int) 1 = (p : Int) % 2 := (u64_and1 l1).trans (by omega)
    have a2 : bits .and .u64 (q : Int) 1 = (q : Int) % 2 := (u64_and1 l2).trans (by omega)
    by_cases hp : p % 2 = 1
    · have b1 : ((p : Int) % 2 == 1) = true := by simp; omega
      by_cases hq : q % 2 = 1
      · have b2 : ((q : Int) % 2 == 1) = true := by simp; omega
        have HE2 : Hid (rUp (vl xs) dr 0 = true) := (show _ = _ by rw [HE.out]; simp [hp, hq])
        by_cases hd : 1 < dr
        all_goals
          clear hp hq HE
          go_enter Tryz.func152, Tryz.ntmps152
          go_wp2_with (first | (go_at_call_of 150 (Value.int IntKind.i64 dr); refine w2.mono ?_; rintro e w' ⟨rfl, hww⟩; subst hww) | (go_at_call 150; refine w1.mono ?_; rintro e w' ⟨rfl, hww⟩; subst hww))
          go_ret
          exact ⟨retB HE2.out.symm, rfl⟩
      · have b2 : ((q : Int) % 2 == 1) = false := by simp; omega
        by_cases hd : 1 < dr
        · have HE2 : Hid (rUp (vl xs) dr 0 = true) := (show _ = _ by rw [HE.out]; simp [hp, hd])
          clear hp hq HE
          go_enter Tryz.func152, Tryz.ntmps152
          go_wp2_with (first | (go_at_call_of 150 (Value.int IntKind.i64 dr); refine w2.mono ?_; rintro e w' ⟨rfl, hww⟩; subst hww) | (go_at_call 150; refine w1.mono ?_; rintro e w' ⟨rfl, hww⟩; subst hww))
          go_ret
          exact ⟨retB HE2.out.symm, rfl⟩
        · have HE2 : Hid (rUp (vl xs) dr 0 = false) := (show _ = _ by rw [HE.out]; simp [hq, hd])
          clear hp hq HE
          go_enter Tryz.func152, Tryz.ntmps152
          go_wp2_with (first | (go_at_call_of 150 (Value.int IntKind.i64 dr); refine w2.mono ?_; rintro e w' ⟨rfl, hww⟩; subst hww) | (go_at_call 150; refine w1.mono ?_; rintro e w' ⟨rfl, hww⟩; subst hww))
          go_ret
          exact ⟨retB (by rw [HE2.out]; simp; omega), rfl⟩
    · have b1 : ((p : Int) % 2 == 1) = false := by simp; omega
      have HE2 : Hid (rUp (vl xs) dr 0 = false) := (show _ = _ by rw [HE.out]; simp [hp])
      clear hp HE
      go_enter Tryz.func152, Tryz.ntmps152
      go_wp2_with (first | (go_at_call_of 150 (Value.int IntKind.i64 dr); refine w2.mono ?_; rintro e w' ⟨rfl, hww⟩; subst hww) | (go_at_call 150; refine w1.mono ?_; rintro e w' ⟨rfl, hww⟩; subst hww))
      go_ret
      exact ⟨retB HE2.out.symm, rfl⟩
  · go_enter Tryz.func152, Tryz.ntmps152
    go_wp2_with fail
    go_ret
    exact ⟨rfl, rfl⟩
  · go_enter Tryz.func152, Tryz.ntmps152
    go_wp2_with fail
    go_ret
    exact ⟨rfl, rfl⟩
theorem join_one {last : Int} (h1 : -1074 ≤ last) (h2 : last ≤ 971) : joinF false 1 last = pw last ∧ okP 1 last = true := by
  have l1 : Nat.log2 1 = 0 := by decide
  have e : jR 1 last = pw last := by
    unfold jR jU jM pw
    rw [l1]
    by_cases hc : last < -1022
    · rw [if_neg (by omega), if_neg (by omega), if_pos hc]; omega
    · rw [if_pos (by omega), if_pos (by omega), if_neg hc]; omega
  have hp := (pw_ok h1 (show last ≤ 1023 by omega)).1
  have hk : okP 1 last = true := by unfold okP; rw [if_neg (by omega), e]; simp; omega
  refine ⟨?_, hk⟩
  simp [joinF, valR, hk, e]

theorem inf1_any (w : World) : Calls Tryz.prog 151 #[.int .i64 1] w fun e w' => e = .returned (.float .f64 9218868437227405312) ∧ w' = w := by
  have ff := run_ffrom
  go_enter Tryz.func151, Tryz.ntmps151
  go_wp2
  go_ret
  exact ⟨rfl, rfl⟩

set_option maxHeartbeats 1000000 in
theorem roundSize_great (d : Dy) (ao : Option Addr) (cap : Nat) (m : Int) (w : World) (hr : LRow w ao d.mag) (hL : Lm d.mag) (hn : d.mag.length ≤ 256) (h1 : -65536 ≤ d.exp) (h2 : d.exp ≤ 65536) (hm : m = 0 ∨ m = 2 ∨ m = 3) (hg : 1024 < (bl (vl d.mag) : Int) + d.exp) :
    Calls Tryz.prog 132 #[.agg #[.bool d.neg, .slice ao d.mag.length cap, .int .i64 d.exp], .int .i8 m] w fun e w' => e = .returned (.float .f64 (rSz (vl d.mag) d.exp m)) ∧ Below w.heap.size w w' := by
  have HE : Hid (rSz (vl d.mag) d.exp m = if m = 3 then 9218868437227405311 else 9218868437227405312) := (show _ = _ by unfold rSz; rw [if_pos hg])
  obtain ⟨neg, xs, ex⟩ := d
  simp only at *
  have htop := fun o => top_any ⟨neg, xs, ex⟩ ao cap (w.alloc o) (hr.alloc o) hL (by simp only; omega) (by simp only; omega) (by simp only; omega)
  simp only at htop
  rcases hm with rfl | rfl | rfl
  all_goals
    go_enter Tryz.func132, Tryz.ntmps132
    go_wp2_with (first | (go_at_call 146; refine (htop _).mono ?_; rintro e w1 ⟨rfl, hb1⟩) | (go_at_call 151; refine (inf1_any _).mono ?_; rintro e w' ⟨rfl, hww⟩; subst hww))
    go_ret
    exact ⟨by rw [HE.out]; rfl, ((Below.refl _ _).alloc (Nat.le_refl _) _).trans (hb1.mono (by go_simp))⟩

theorem one_box {w w1 : World} {x0 x1 x2 : Value} {s : TypeId} (hb : Below (w.alloc (.cells #[x0, x1, x2] s)).heap.size (w.alloc (.cells #[x0, x1, x2] s)) w1) :
    (w1.cell? ⟨w.heap.size, 0, none⟩ = some x0 ∧ w1.cell? ⟨w.heap.size, 1, none⟩ = some x1 ∧ w1.cell? ⟨w.heap.size, 2, none⟩ = some x2) ∧ Below w.heap.size w w1 := by
  obtain ⟨hc, hf⟩ := oldc hb
  have l0 : w.heap.size < (w.alloc (.cells #[x0, x1, x2] s)).heap.size := by go_simp
  refine ⟨⟨?_, ?_, ?_⟩, ((Below.refl _ _).alloc (Nat.le_refl _) _).trans (hb.mono (by omega))⟩
  · rw [hc _ _ l0]; go_simp
  · rw [hc _ _ l0]; go_simp
  · rw [hc _ _ l0]; go_simp
end Go.Proofs.YtmbcmhncicbbjaaGreatDoor

namespace Go.Proofs.YtmbcmhncicbbjaaGreatDoor
open Go.RowKit

set_option maxHeartbeats 1000000 in
theorem roundSize_walk (neg : Bool) (xs : List Nat) (ex : Int) (ao : Option Addr) (cap : Nat) (m la dr : Int) (kv : Nat) (g : Bool) (kp : Nat) (c r : Nat) (w : World) (hr : LRow w ao xs) (hL : Lm xs) (hn : xs.length ≤ 256) (h1 : -65536 ≤ ex) (h2 : ex ≤ 65536) (hm : m = 0 ∨ m = 2 ∨ m = 3)
    (hg : ¬ 1024 < (bl (vl xs) : Int) + ex) (hla : (bl (vl xs) : Int) + ex - 53 = la ∧ -1074 ≤ la ∨ (bl (vl xs) : Int) + ex - 53 < -1074 ∧ la = -1074) (hdr : la - ex = dr) (hkv : win (vl xs) dr = kv) (hkl : kv < 9007199254740992) (hgu : 0 < dr → rUp (vl xs) dr m = g) (hkp : kp = if 0 < dr ∧ g = true then kv + 1 else kv)
    (hl1 : -1074 ≤ la) (hl2 : la ≤ 971) (ho : floatOfInt .f64 (kp : Int) = c) (hmul : floatBits .mul .f64 c (pw la) = some r) :
    Calls Tryz.prog 132 #[.agg #[.bool neg, .slice ao xs.length cap, .int .i64 ex], .int .i8 m] w fun e w' => e = .returned (.float .f64 r) ∧ Below w.heap.size w w' := by
  have htop := fun o => top_any ⟨neg, xs, ex⟩ ao cap (w.alloc o) (hr.alloc o) hL (by simp only; omega) (by simp only; omega) (by simp only; omega)
  simp only at htop
  have hmf := fun w' => run_float_arith (P := Tryz.prog) w' .mul 48 .f64 _ _ _ hmul
  have hbl : bl (vl xs) ≤ 64 * 256 := bl_limbs hL hn
  have hj := join_one hl1 hl2
  have hjc := fun w' => join_any false 1 la (by omega) w'
  rw [hj.1, hj.2] at hjc
  have hjc' : ∀ w', Calls Tryz.prog 153 #[.agg #[.bool false, .int .u64 1, .int .i64 la]] w' fun r w'' => r = .returned (.tuple #[.float .f64 (pw la), .bool true]) ∧ Below w'.heap.size w' w'' := hjc
  have hwin := fun w' hr' => window_any xs ao cap dr w' hr' hL (by omega) (by omega)
  rw [hkv] at hwin
  have HM : Hid (m = 0 ∨ m = 2 ∨ m = 3) := hm
  clear hm hkv hj hjc hmul
  by_cases hd : 0 < dr
  · have hgu' := hgu hd
    have hcall := fun w' hr' => goesUp_any xs ao cap dr m w' hr' hL (by omega) (by omega) HM.out
    rw [hgu'] at hcall
    clear hgu hgu'
    cases g
    · have hkk : kp = kv := by rw [hkp, if_neg (by simp)]
      subst hkk
      clear hkp
      rcases hla with ⟨ha, hb⟩ | ⟨ha, hb⟩
      · go_enter Tryz.func132, Tryz.ntmps132
        go_wp2_with (first | (go_at_call 146; refine (htop _).mono ?_; rintro e w1 ⟨rfl, hb1⟩; obtain ⟨⟨c0, c1, c2⟩, ho1⟩ := one_box hb1) | (go_at_call 150; refine (hwin _ (hr.below ho1)).mono ?_; rintro e w' ⟨rfl, hww⟩; subst hww) | (go_at_call 152; refine (hcall _ (hr.below ho1)).mono ?_; rintro e w' ⟨rfl, hww⟩; subst hww) | (go_at_call 153; refine (hjc' _).mono ?_; rintro e w2 ⟨rfl, hb2⟩))
        go_ret
        exact ⟨rfl, ho1.trans (hb2.mono ho1.size)⟩
      · subst hb
        go_enter Tryz.func132, Tryz.ntmps132
        go_wp2_with (first | (go_at_call 146; refine (htop _).mono ?_; rintro e w1 ⟨rfl, hb1⟩; obtain ⟨⟨c0, c1, c2⟩, ho1⟩ := one_box hb1) | (go_at_call 150; refine (hwin _ (hr.below ho1)).mono ?_; rintro e w' ⟨rfl, hww⟩; subst hww) | (go_at_call 152; refine (hcall _ (hr.below ho1)).mono ?_; rintro e w' ⟨rfl, hww⟩; subst hww) | (go_at_call 153; refine (hjc' _).mono ?_; rintro e w2 ⟨rfl, hb2⟩))
        go_ret
        exact ⟨rfl, ho1.trans (hb2.mono ho1.size)⟩
    · have hkk : kp = kv + 1 := by rw [hkp, if_pos ⟨hd, rfl⟩]
      subst hkk
      rw [Int.natCast_add] at ho
      have ho' : floatOfInt .f64 ((kv : Int) + 1) = c := ho
      clear hkp ho
      rcases hla with ⟨ha, hb⟩ | ⟨ha, hb⟩
      · go_enter Tryz.func132, Tryz.ntmps132
        go_wp2_with (first | (go_at_call 146; refine (htop _).mono ?_; rintro e w1 ⟨rfl, hb1⟩; obtain ⟨⟨c0, c1, c2⟩, ho1⟩ := one_box hb1) | (go_at_call 150; refine (hwin _ (hr.below ho1)).mono ?_; rintro e w' ⟨rfl, hww⟩; subst hww) | (go_at_call 152; refine (hcall _ (hr.below ho1)).mono ?_; rintro e w' ⟨rfl, hww⟩; subst hww) | (go_at_call 153; refine (hjc' _).mono ?_; rintro e w2 ⟨rfl, hb2⟩))
        go_ret
        exact ⟨rfl, ho1.trans (hb2.mono ho1.size)⟩
      · subst hb
        go_enter Tryz.func132, Tryz.ntmps132
        go_wp2_with (first | (go_at_call 146; refine (htop _).mono ?_; rintro e w1 ⟨rfl, hb1⟩; obtain ⟨⟨c0, c1, c2⟩, ho1⟩ := one_box hb1) | (go_at_call 150; refine (hwin _ (hr.below ho1)).mono ?_; rintro e w' ⟨rfl, hww⟩; subst hww) | (go_at_call 152; refine (hcall _ (hr.below ho1)).mono ?_; rintro e w' ⟨rfl, hww⟩; subst hww) | (go_at_call 153; refine (hjc' _).mono ?_; rintro e w2 ⟨rfl, hb2⟩))
        go_ret
        exact ⟨rfl, ho1.trans (hb2.mono ho1.size)⟩
  · have hkk : kp = kv := by rw [hkp, if_neg (by omega)]
    subst hkk
    have hcall := fun w' hr' => goesUp_any xs ao cap 0 m w' hr' hL (by omega) (by omega) HM.out
    clear hkp hgu
    rcases hla with ⟨ha, hb⟩ | ⟨ha, hb⟩
    · go_enter Tryz.func132, Tryz.ntmps132
      go_wp2_with (first | (go_at_call 146; refine (htop _).mono ?_; rintro e w1 ⟨rfl, hb1⟩; obtain ⟨⟨c0, c1, c2⟩, ho1⟩ := one_box hb1) | (go_at_call 150; refine (hwin _ (hr.below ho1)).mono ?_; rintro e w' ⟨rfl, hww⟩; subst hww) | (go_at_call 152; refine (hcall _ (hr.below ho1)).mono ?_; rintro e w' ⟨rfl, hww⟩; subst hww) | (go_at_call 153; refine (hjc' _).mono ?_; rintro e w2 ⟨rfl, hb2⟩))
      go_ret
      exact ⟨rfl, ho1.trans (hb2.mono ho1.size)⟩
    · subst hb
      go_enter Tryz.func132, Tryz.ntmps132
      go_wp2_with (first | (go_at_call 146; refine (htop _).mono ?_; rintro e w1 ⟨rfl, hb1⟩; obtain ⟨⟨c0, c1, c2⟩, ho1⟩ := one_box hb1) | (go_at_call 150; refine (hwin _ (hr.below ho1)).mono ?_; rintro e w' ⟨rfl, hww⟩; subst hww) | (go_at_call 152; refine (hcall _ (hr.below ho1)).mono ?_; rintro e w' ⟨rfl, hww⟩; subst hww) | (go_at_call 153; refine (hjc' _).mono ?_; rintro e w2 ⟨rfl, hb2⟩))
      go_ret
      exact ⟨rfl, ho1.trans (hb2.mono ho1.size)⟩
end Go.Proofs.YtmbcmhncicbbjaaGreatDoor

namespace Go.Proofs.YtmbcmhncicbbjaaGreatDoor
open Go.RowKit

theorem roundSize_any (d : Dy) (ao : Option Addr) (cap : Nat) (m : Int) (w : World) (hr : LRow w ao d.mag) (hL : Lm d.mag) (h0 : vl d.mag ≠ 0) (hn : d.mag.length ≤ 256) (h1 : -65536 ≤ d.exp) (h2 : d.exp ≤ 65536) (hm : m = 0 ∨ m = 2 ∨ m = 3) :
    Calls Tryz.prog 132 #[.agg #[.bool d.neg, .slice ao d.mag.length cap, .int .i64 d.exp], .int .i8 m] w fun e w' => e = .returned (.float .f64 (rSz (vl d.mag) d.exp m)) ∧ Below w.heap.size w w' := by
  by_cases hg : 1024 < (bl (vl d.mag) : Int) + d.exp
  · exact roundSize_great d ao cap m w hr hL hn h1 h2 hm hg
  · obtain ⟨k1, k2, k3, k4, k5⟩ := kept_bd h0 (show (bl (vl d.mag) : Int) + d.exp ≤ 1024 by omega)
    have hkp : rKp (vl d.mag) d.exp m ≤ 9007199254740992 := by unfold rKp; split <;> omega
    have hor : rLa (vl d.mag) d.exp = -1074 ∨ 4503599627370496 ≤ rKp (vl d.mag) d.exp m := by
      rcases k5 with h | h
      · exact Or.inl h
      · right; unfold rKp; split <;> omega
    obtain ⟨c, hc1, hc2⟩ := mul_kept hkp k3 k4 hor
    have e : rSz (vl d.mag) d.exp m = rW (rKp (vl d.mag) d.exp m) (rLa (vl d.mag) d.exp) := by unfold rSz; rw [if_neg hg]
    rw [e]
    exact roundSize_walk d.neg d.mag d.exp ao cap m (rLa (vl d.mag) d.exp) (rDr (vl d.mag) d.exp) (win (vl d.mag) (rDr (vl d.mag) d.exp)) (rUp (vl d.mag) (rDr (vl d.mag) d.exp) m) (rKp (vl d.mag) d.exp m) c _ w hr hL hn h1 h2 hm hg (by unfold rLa; omega) rfl rfl (by omega) (fun _ => rfl) rfl k3 k4 hc1 hc2

/-- The answer of Round: a word. -/
def rndW (d : Dy) (m : Int) : Nat := if d.mag.length = 0 then 0 else if d.neg then 9223372036854775808 + rSz (vl d.mag) d.exp (szm d.neg m) else rSz (vl d.mag) d.exp (szm d.neg m)
theorem rSz_lt (v : Nat) (e m : Int) (h0 : v ≠ 0) : rSz v e m ≤ 9218868437227405312 := by
  unfold rSz
  by_cases hg : 1024 < (bl v : Int) + e
  · rw [if_pos hg]; split <;> omega
  · rw [if_neg hg]
    obtain ⟨k1, k2, k3, k4, k5⟩ := kept_bd h0 (show (bl v : Int) + e ≤ 1024 by omega)
    exact rW_lt (by unfold rKp; split <;> omega) k4

set_option maxHeartbeats 1000000 in
theorem Round_ok (neg : Bool) (xs : List Nat) (ex : Int) (ao : Option Addr) (cap : Nat) (m : Int) (w : World) (hr : LRow w ao xs) (hL : Lm xs) (hR : rightB ⟨neg, xs, ex⟩ = true) :
    Calls Tryz.prog 115 #[.agg #[.bool neg, .slice ao xs.length cap, .int .i64 ex], .int .i8 m] w fun e w' => e = .returned (.tuple #[.float .f64 (rndW ⟨neg, xs, ex⟩ m), .int .i64 0]) ∧ Below w.heap.size w w' := by
  have xa := right_exp hR
  simp only at xa
  by_cases hl : xs.length = 0
  · have hb : ((xs.length : Int) == 0) = true := beq_iff_eq.2 (by omega)
    have HE : Hid (rndW ⟨neg, xs, ex⟩ m = 0) := (show _ = _ by unfold rndW; rw [if_pos (by exact hl)])
    clear hl
    go_enter Tryz.func115, Tryz.ntmps115
    go_wp2_with (go_at_call 116; refine (right_any ⟨neg, xs, ex⟩ ao cap _ (hr.alloc _) hL).mono ?_; rintro e w1 ⟨rfl, hb1⟩; obtain ⟨⟨c0, c1, c2⟩, ho1⟩ := one_box hb1)
    go_ret2
    exact ⟨by rw [HE.out]; rfl, ho1⟩
  · have hb : ((xs.length : Int) == 0) = false := beq_eq_false_iff_ne.2 (by omega)
    have h0 := (right_ne hR hl).1
    have hsz := fun w' hr' => roundSize_any ⟨neg, xs, ex⟩ ao cap (szm neg m) w' hr' hL h0 (by simp only; omega) (by simp only; omega) (by simp only; omega) (szm_is neg m)
    have hsl := rSz_lt (vl xs) ex (szm neg m) h0
    simp only at hsz h0
    have HE : Hid (rndW ⟨neg, xs, ex⟩ m = if neg then 9223372036854775808 + rSz (vl xs) ex (szm neg m) else rSz (vl xs) ex (szm neg m)) := (show _ = _ by unfold rndW; rw [if_neg (by exact hl)])
    have hu : ∀ b, Op.unary .neg (.float .f64 b) = pure (.float .f64 (Op.negFloat .f64 b)) := fun _ => rfl
    have hg := neg_word (r := rSz (vl xs) ex (szm neg m)) (by omega)
    generalize rSz (vl xs) ex (szm neg m) = r at *
    have hmode := fun w' => sizeMode_any neg m w'
    generalize szm neg m = mm at *
    clear hl h0 hsl
    cases neg
    · clear hg
      go_enter Tryz.func115, Tryz.ntmps115
      go_wp2_with (go_at_call 116; refine (right_any ⟨false, xs, ex⟩ ao cap _ (hr.alloc _) hL).mono ?_; rintro e w1 ⟨rfl, hb1⟩; obtain ⟨⟨c0, c1, c2⟩, ho1⟩ := one_box hb1)
      go_region_held3 (fun w' => w'.cell? ⟨w.heap.size, 0, none⟩ = some (.bool false) ∧ w'.cell? ⟨w.heap.size, 1, none⟩ = some (.slice ao xs.length cap) ∧ w'.cell? ⟨w.heap.size, 2, none⟩ = some (.int .i64 ex)) (go_keep)
        (first | (go_at_call 133; refine (hmode _).mono ?_; rintro e w' ⟨rfl, hww⟩; subst hww) | (go_at_call 132; refine (hsz _ (hr.below ho1).drew).mono ?_; rintro e w2 ⟨rfl, hb2⟩; replace hb2 := undrew hb2; obtain ⟨c0, c1, c2⟩ := three_on (p := w.heap.size) hb2 ⟨c0, c1, c2⟩; have ho2 : Below w.heap.size w w2 := ho1.trans (hb2.mono ho1.size)))
      go_wp2
      go_ret2
      exact ⟨by rw [HE.out]; rfl, ho2⟩
    · go_enter Tryz.func115, Tryz.ntmps115
      go_wp2_with (go_at_call 116; refine (right_any ⟨true, xs, ex⟩ ao cap _ (hr.alloc _) hL).mono ?_; rintro e w1 ⟨rfl, hb1⟩; obtain ⟨⟨c0, c1, c2⟩, ho1⟩ := one_box hb1)
      go_region_held3 (fun w' => w'.cell? ⟨w.heap.size, 0, none⟩ = some (.bool true) ∧ w'.cell? ⟨w.heap.size, 1, none⟩ = some (.slice ao xs.length cap) ∧ w'.cell? ⟨w.heap.size, 2, none⟩ = some (.int .i64 ex)) (go_keep)
        (first | (go_at_call 133; refine (hmode _).mono ?_; rintro e w' ⟨rfl, hww⟩; subst hww) | (go_at_call 132; refine (hsz _ (hr.below ho1).drew).mono ?_; rintro e w2 ⟨rfl, hb2⟩; replace hb2 := undrew hb2; obtain ⟨c0, c1, c2⟩ := three_on (p := w.heap.size) hb2 ⟨c0, c1, c2⟩; have ho2 : Below w.heap.size w w2 := ho1.trans (hb2.mono ho1.size)))
      go_wp2
      go_ret2
      exact ⟨by rw [HE.out]; rfl, ho2⟩

set_option maxHeartbeats 1000000 in
theorem Round_arg (neg : Bool) (xs : List Nat) (ex : Int) (ao : Option Addr) (cap : Nat) (m : Int) (w : World) (hr : LRow w ao xs) (hL : Lm xs) (hR : rightB ⟨neg, xs, ex⟩ = false) :
    Calls Tryz.prog 115 #[.agg #[.bool neg, .slice ao xs.length cap, .int .i64 ex], .int .i8 m] w fun e w' => e = .returned (.tuple #[.float .f64 0, .int .i64 2]) ∧ Below w.heap.size w w' := by
  go_enter Tryz.func115, Tryz.ntmps115
  go_wp2_with (go_at_call 116; refine (right_any ⟨neg, xs, ex⟩ ao cap _ (hr.alloc _) hL).mono ?_; rintro e w1 ⟨rfl, hb1⟩; obtain ⟨⟨c0, c1, c2⟩, ho1⟩ := one_box hb1)
  go_ret2
  exact ⟨rfl, ho1⟩
end Go.Proofs.YtmbcmhncicbbjaaGreatDoor

namespace Go.Proofs.YtmbcmhncicbbjaaGreatDoor
open Go.RowKit

/-- The dyad of a float. -/
def ofD (a : Nat) : Dy × Int := if finB a = false then (dy0, 5) else if spF a = 0 then (dy0, 0) else (⟨sgn a, [spF a], spE a⟩, 0)

theorem one_mark {w w1 : World} {x0 x1 x2 : Value} {s : TypeId} (hb : Below (w.alloc (.cells #[x0, x1, x2] s)).heap.size (w.alloc (.cells #[x0, x1, x2] s)) w1) :
    w1.frozen? ⟨w.heap.size, 0, none⟩ = false ∧ w1.frozen? ⟨w.heap.size, 1, none⟩ = false ∧ w1.frozen? ⟨w.heap.size, 2, none⟩ = false := by
  obtain ⟨hc, hf⟩ := oldc hb
  have l0 : w.heap.size < (w.alloc (.cells #[x0, x1, x2] s)).heap.size := by go_simp
  refine ⟨?_, ?_, ?_⟩
  · rw [hf _ _ l0]; go_simp
  · rw [hf _ _ l0]; go_simp
  · rw [hf _ _ l0]; go_simp
theorem mark_alloc {w : World} {a : Addr} {v : Value} (h : w.cell? a = some v) (hf : w.frozen? a = false) (o : Obj) : (w.alloc o).frozen? a = false := by
  rw [((Below.refl _ _).alloc (Nat.le_refl _) o).frozen (World.block_lt_of_cell? w _ h)]; exact hf
theorem one_lrow (w : World) (x : Nat) (o : Obj) (ho : o = .cells #[.int .u64 (x : Nat)] 75) : LRow (w.alloc o) (some ⟨w.heap.size, 0, none⟩) [x] := by
  right
  refine ⟨w.heap.size, 0, rfl, fun j hj => ?_⟩
  have : j = 0 := by simp at hj; omega
  subst this
  subst ho
  go_simp

set_option maxHeartbeats 1000000 in
theorem Of_any (a : Nat) (ha : a < 18446744073709551616) (w : World) (hT : TabW w) :
    Calls Tryz.prog 119 #[.float .f64 a] w (Gave w (ofD a)) := by
  cases hf : finB a
  · have e : ofD a = (dy0, 5) := by unfold ofD; rw [if_pos hf]
    rw [e]
    have hsp := fun o => split_inf a ha hf (w.alloc o)
    go_enter Tryz.func119, Tryz.ntmps119
    clear e
    go_wp2_with (go_at_call 139; refine (hsp _).mono ?_; rintro e w1 ⟨rfl, hb1⟩; obtain ⟨⟨c0, c1, c2⟩, ho1⟩ := one_box hb1; obtain ⟨f0, f1, f2⟩ := one_mark hb1; have g0 := mark_alloc c0 f0; have g1 := mark_alloc c1 f1; have g2 := mark_alloc c2 f2; have i0 := fun o => mark_alloc (cell_alloc c0 o) (g0 o); have i1 := fun o => mark_alloc (cell_alloc c1 o) (g1 o); have i2 := fun o => mark_alloc (cell_alloc c2 o) (g2 o); have d0 := cell_alloc c0; have d1 := cell_alloc c1; have d2 := cell_alloc c2; have h0 := fun o => cell_alloc (d0 o); have h1 := fun o => cell_alloc (d1 o); have h2 := fun o => cell_alloc (d2 o))
    exact bodyPost_ret (v := .tuple #[.agg #[.bool false, .slice none 0 0, .int .i64 0], .int .i64 5]) (by simp [results, Tryz.results119, go_sem, d0, d1, d2]) rfl ⟨none, 0, rfl, LRow.nil _ _, Frs.none _, (((ho1.alloc ho1.size _).setCell (by simp) _).setCell (by simp) _).setCell (by simp) _⟩
  · have hsp := fun o => split_fin a ha hf (w.alloc o) (tabW_alloc hT o)
    by_cases h0 : spF a = 0
    · have e : ofD a = (dy0, 0) := by unfold ofD; rw [if_neg (by rw [hf]; simp), if_pos h0]
      rw [e]
      rw [h0] at hsp
      clear e h0
      generalize sgn a = sg at *
      generalize spE a = se at *
      go_enter Tryz.func119, Tryz.ntmps119
      go_wp2_with (go_at_call 139; refine (hsp _).mono ?_; rintro e w1 ⟨rfl, hb1⟩; obtain ⟨⟨c0, c1, c2⟩, ho1⟩ := one_box hb1; obtain ⟨f0, f1, f2⟩ := one_mark hb1; have g0 := mark_alloc c0 f0; have g1 := mark_alloc c1 f1; have g2 := mark_alloc c2 f2; have i0 := fun o => mark_alloc (cell_alloc c0 o) (g0 o); have i1 := fun o => mark_alloc (cell_alloc c1 o) (g1 o); have i2 := fun o => mark_alloc (cell_alloc c2 o) (g2 o); have d0 := cell_alloc c0; have d1 := cell_alloc c1; have d2 := cell_alloc c2; have h0 := fun o => cell_alloc (d0 o); have h1 := fun o => cell_alloc (d1 o); have h2 := fun o => cell_alloc (d2 o))
      exact bodyPost_ret (v := .tuple #[.agg #[.bool false, .slice none 0 0, .int .i64 0], .int .i64 0]) (by simp [results, Tryz.results119, go_sem, d0, d1, d2]) rfl ⟨none, 0, rfl, LRow.nil _ _, Frs.none _, (((ho1.alloc ho1.size _).setCell (by simp) _).setCell (by simp) _).setCell (by simp) _⟩
    · have e : ofD a = (⟨sgn a, [spF a], spE a⟩, 0) := by unfold ofD; rw [if_neg (by rw [hf]; simp), if_neg h0]
      rw [e]
      have hb0 : ((spF a : Int) == 0) = false := by simp; omega
      clear e h0
      generalize sgn a = sg at *
      generalize spF a = sf at *
      generalize spE a = se at *
      go_enter Tryz.func119, Tryz.ntmps119
      go_wp2_with (go_at_call 139; refine (hsp _).mono ?_; rintro e w1 ⟨rfl, hb1⟩; obtain ⟨⟨c0, c1, c2⟩, ho1⟩ := one_box hb1; obtain ⟨f0, f1, f2⟩ := one_mark hb1; have g0 := mark_alloc c0 f0; have g1 := mark_alloc c1 f1; have g2 := mark_alloc c2 f2; have i0 := fun o => mark_alloc (cell_alloc c0 o) (g0 o); have i1 := fun o => mark_alloc (cell_alloc c1 o) (g1 o); have i2 := fun o => mark_alloc (cell_alloc c2 o) (g2 o); have d0 := cell_alloc c0; have d1 := cell_alloc c1; have d2 := cell_alloc c2; have h0 := fun o => cell_alloc (d0 o); have h1 := fun o => cell_alloc (d1 o); have h2 := fun o => cell_alloc (d2 o))
      have hsz : (w1.alloc (.cells #[.bool sg, .int .u64 (sf : Nat), .int .i64 se] 77)).heap.size = w1.heap.size + 1 := by go_simp
      have hl := one_lrow (w1.alloc (.cells #[.bool sg, .int .u64 (sf : Nat), .int .i64 se] 77)) sf _ rfl
      rw [hsz] at hl
      have hge := ho1.size
      have hfr : Frs (w1.heap.size + 1) (some ⟨w1.heap.size + 1, 0, none⟩) := fun a e => by cases e; exact Nat.le_refl _
      exact bodyPost_ret (v := .tuple #[.agg #[.bool sg, .slice (some ⟨w1.heap.size + 1, 0, none⟩) 1 1, .int .i64 se], .int .i64 0]) (by simp [results, Tryz.results119, go_sem, h0, h1, h2]) rfl ⟨some ⟨w1.heap.size + 1, 0, none⟩, 1, rfl, ((hl.box hfr (by omega) _ _).box hfr (by omega) _ _).box hfr (by omega) _ _, hfr.mono (by omega), (((((ho1.alloc ho1.size _).alloc (by simp; omega) _).setCell (by simp) _).setCell (by simp) _).setCell (by simp) _)⟩

/-- The dyad of a whole number. -/
def intD (n : Int) : Dy := (normD ⟨decide (n < 0), [n.natAbs], 0⟩).1
def GaveD (w : World) (d : Dy) (e : Ending) (w' : World) : Prop :=
  ∃ ao cap, e = .returned (.agg #[.bool d.neg, .slice ao d.mag.length cap, .int .i64 d.exp]) ∧ LRow w' ao d.mag ∧ Frs w.heap.size ao ∧ Below w.heap.size w w'

end Go.Proofs.YtmbcmhncicbbjaaGreatDoor
