/- What Right, turned, top, sign, CopyLimbs, CopyDyad, SameLimbs, SameDyad answer. -/
import Derived.Test.YtfipmopmpacdaaaGreatDoorZb
import Derived.Deep.RegionHeld3
import Derived.Deep.QuietTactic
import Derived.BigQuiet
namespace Go.Proofs.YtfipmopmpacdaaaGreatDoor
open Go.RowKit
theorem tabW_alloc {w : World} (h : TabW w) (o : Obj) : TabW (w.alloc o) := tabW_below h ((Below.refl _ _).alloc (Nat.le_refl _) _)
theorem norm_zero {d : Dy} (h : vl d.mag = 0) : normD d = (dy0, 0) := by
 have : sv d = 0 := by have := sv_abs d; omega
 unfold normD nrm; rw [if_pos this]
theorem norm_long {d : Dy} (h0 : vl d.mag ≠ 0) (h : 16384 < bl (vl d.mag) - tz (vl d.mag) ∨ d.exp + tz (vl d.mag) < -65536 ∨ 65536 < d.exp + tz (vl d.mag)) : normD d = (dy0, 3) := by
 have : sv d ≠ 0 := by have := sv_abs d; omega
 unfold normD nrm; rw [if_neg this, sv_abs, if_pos h]
theorem norm_fine {d : Dy} (h0 : vl d.mag ≠ 0) (h : ¬ (16384 < bl (vl d.mag) - tz (vl d.mag) ∨ d.exp + tz (vl d.mag) < -65536 ∨ 65536 < d.exp + tz (vl d.mag))) : normD d = (⟨d.neg, lo (vl d.mag / 2 ^ tz (vl d.mag)), d.exp + tz (vl d.mag)⟩, 0) := by
 have : sv d ≠ 0 := by have := sv_abs d; omega
 unfold normD nrm; rw [if_neg this, sv_abs, if_neg h, sv_neg h0]
theorem undrew {w w1 : World} (h : Below w.drew.heap.size w.drew w1) : Below w.heap.size w w1 := ⟨h.os, h.tape, h.output, h.size, h.block⟩
theorem box2 {w w1 : World} {x0 x1 x2 y0 y1 y2 : Value} {s t : TypeId} (hb : Below ((w.alloc (.cells #[x0, x1, x2] s)).alloc (.cells #[y0, y1, y2] t)).heap.size ((w.alloc (.cells #[x0, x1, x2] s)).alloc (.cells #[y0, y1, y2] t)) w1) :
  (w1.cell? ⟨w.heap.size, 0, none⟩ = some x0 ∧ w1.cell? ⟨w.heap.size, 1, none⟩ = some x1 ∧ w1.cell? ⟨w.heap.size, 2, none⟩ = some x2) ∧
  (w1.cell? ⟨w.heap.size + 1, 0, none⟩ = some y0 ∧ w1.cell? ⟨w.heap.size + 1, 1, none⟩ = some y1 ∧ w1.cell? ⟨w.heap.size + 1, 2, none⟩ = some y2) ∧
  (w1.frozen? ⟨w.heap.size + 1, 0, none⟩ = false ∧ w1.frozen? ⟨w.heap.size + 1, 1, none⟩ = false ∧ w1.frozen? ⟨w.heap.size + 1, 2, none⟩ = false) ∧
  (w1.frozen? ⟨w.heap.size, 0, none⟩ = false ∧ w1.frozen? ⟨w.heap.size, 1, none⟩ = false ∧ w1.frozen? ⟨w.heap.size, 2, none⟩ = false) := by
 obtain ⟨hc, hf⟩ := oldc hb
 have l0 : w.heap.size < ((w.alloc (.cells #[x0, x1, x2] s)).alloc (.cells #[y0, y1, y2] t)).heap.size := by go_simp
 have l1 : w.heap.size + 1 < ((w.alloc (.cells #[x0, x1, x2] s)).alloc (.cells #[y0, y1, y2] t)).heap.size := by go_simp
 refine ⟨⟨?_, ?_, ?_⟩, ⟨?_, ?_, ?_⟩, ⟨?_, ?_, ?_⟩, ?_, ?_, ?_⟩
 ·rw [hc _ _ l0]; go_simp
 ·rw [hc _ _ l0]; go_simp
 ·rw [hc _ _ l0]; go_simp
 ·rw [hc _ _ l1]; go_simp
 ·rw [hc _ _ l1]; go_simp
 ·rw [hc _ _ l1]; go_simp
 ·rw [hf _ _ l1]; go_simp
 ·rw [hf _ _ l1]; go_simp
 ·rw [hf _ _ l1]; go_simp
 ·rw [hf _ _ l0]; go_simp
 ·rw [hf _ _ l0]; go_simp
 ·rw [hf _ _ l0]; go_simp
theorem box2_old {w w1 : World} {x0 x1 x2 y0 y1 y2 : Value} {s t : TypeId} (hb : Below ((w.alloc (.cells #[x0, x1, x2] s)).alloc (.cells #[y0, y1, y2] t)).heap.size ((w.alloc (.cells #[x0, x1, x2] s)).alloc (.cells #[y0, y1, y2] t)) w1) : Below w.heap.size w w1 := by
 have h1 : Below w.heap.size w ((w.alloc (.cells #[x0, x1, x2] s)).alloc (.cells #[y0, y1, y2] t)) := (((Below.refl _ _).alloc (Nat.le_refl _) _).alloc (by simp) _)
 exact h1.trans (hb.mono (by go_simp; omega))
theorem box2_end {w w1 : World} {x0 x1 x2 y0 y1 y2 : Value} {s t : TypeId} (hb : Below ((w.alloc (.cells #[x0, x1, x2] s)).alloc (.cells #[y0, y1, y2] t)).heap.size ((w.alloc (.cells #[x0, x1, x2] s)).alloc (.cells #[y0, y1, y2] t)) w1) (z0 z1 z2 : Value) :
  Below w.heap.size w (((w1.setCell ⟨w.heap.size + 1, 0, none⟩ z0).setCell ⟨w.heap.size + 1, 1, none⟩ z1).setCell ⟨w.heap.size + 1, 2, none⟩ z2) :=
 ((((box2_old hb).setCell (by simp) _).setCell (by simp) _).setCell (by simp) _)
theorem FRow.box {w : World} {b n c : Nat} {f : Nat → Nat} (h : FRow w b n f) (hc : b ≠ c) (z0 z1 z2 : Value) : FRow (((w.setCell ⟨c, 0, none⟩ z0).setCell ⟨c, 1, none⟩ z1).setCell ⟨c, 2, none⟩ z2) b n f :=
 World.rowIs.setOther (World.rowIs.setOther (World.rowIs.setOther h (by exact hc) _) (by exact hc) _) (by exact hc) _
set_option maxHeartbeats 1000000 in
theorem norm_ok_walk (neg : Bool) (xs : List Nat) (ex : Int) (ao : Option Addr) (cap z wd n : Nat) (hn : Hid (n = (wd + 63) / 64)) (w : World) (hr : LRow w ao xs) (hL : Lm xs) (hT : TabW w) (hl : xs.length ≤ 1125899906842624)
  (hz : tz (vl xs) = z) (hwd : (bl (vl xs) : Int) - (z : Int) = (wd : Int)) (hz2 : z ≤ 144115188075855872) (hw0 : wd ≠ 0) (hw : wd ≤ 16384) (he1 : -65536 - (z : Int) ≤ ex) (he2 : ex ≤ 65536 - (z : Int)) :
  Calls Tryz.prog 112 #[.agg #[.bool neg, .slice ao xs.length cap, .int .i64 ex]] w fun e w' => ∃ b, e = .returned (.tuple #[.agg #[.bool neg, .slice (some ⟨b, 0, none⟩) n n, .int .i64 (ex + z)], .int .i64 0]) ∧ FRow w' b n (fun j => vl xs / 2 ^ z / 2 ^ (64 * j) % 18446744073709551616) ∧ w.heap.size ≤ b ∧ Below w.heap.size w w' := by
 go_enter Tryz.func112, Tryz.ntmps112
 go_wp2_with (first | (go_at_call 120; refine (trailing_any _ _ _ _ ((hr.alloc _).alloc _) hL (tabW_alloc (tabW_alloc hT _) _) hl).mono ?_; rintro e w' ⟨rfl, rfl⟩) | (go_at_call 121; refine (bitLen_any _ _ _ _ ((hr.alloc _).alloc _) hL hl).mono ?_; rintro e w' ⟨rfl, rfl⟩))
 have hng : IntKind.i64.wrap (-(z : Int)) = -(z : Int) := by rw [IntKind.wrap_i64]; omega
 go_region_held3 (fun w' => w'.cell? ⟨w.heap.size, 0, none⟩ = some (.bool neg) ∧ w'.cell? ⟨w.heap.size, 1, none⟩ = some (.slice ao xs.length cap) ∧ w'.cell? ⟨w.heap.size, 2, none⟩ = some (.int .i64 ex)) (go_keep)
  (first | (go_at_call 122; refine (cut_any _ _ _ z wd n hwd hn.out _ ((hr.alloc _).alloc _).drew hL hl hz2 hw0 hw).mono ?_; rintro e w1 ⟨rfl, hrow, hb⟩; replace hb := undrew hb; obtain ⟨⟨c0, c1, c2⟩, ⟨d0, d1, d2⟩, ⟨f0, f1, f2⟩, _⟩ := box2 hb))
 clear c0 c1 c2 hr hT hng
 have hwr : IntKind.i64.wrap (ex + z) = ex + z := by rw [IntKind.wrap_i64]; omega
 have hne : ((w.alloc (.cells #[.bool neg, .slice ao xs.length cap, .int .i64 ex] 145)).alloc (.cells #[.bool false, .slice none 0 0, .int .i64 0] 145)).drew.heap.size = w.heap.size + 1 + 1 := by go_simp
 rw [hne] at hrow
 go_wp2
 exact bodyPost_ret (v := .tuple #[.agg #[.bool neg, .slice (some ⟨w.heap.size + 1 + 1, 0, none⟩) n n, .int .i64 (ex + z)], .int .i64 0]) (by simp [results, Tryz.results112, go_sem, d0, d1, d2, hwr]) rfl ⟨w.heap.size + 1 + 1, rfl, hrow.box (by omega) _ _ _, by omega, box2_end hb _ _ _⟩
def Gave (w : World) (r : Dy × Int) (e : Ending) (w' : World) : Prop :=
 ∃ ao cap, e = .returned (.tuple #[.agg #[.bool r.1.neg, .slice ao r.1.mag.length cap, .int .i64 r.1.exp], .int .i64 r.2]) ∧ LRow w' ao r.1.mag ∧ Frs w.heap.size ao ∧ Below w.heap.size w w'
set_option maxHeartbeats 1000000 in
theorem norm_none_walk (neg : Bool) (xs : List Nat) (ex : Int) (ao : Option Addr) (cap z b : Nat) (w : World) (hr : LRow w ao xs) (hL : Lm xs) (hT : TabW w) (hl : xs.length ≤ 1125899906842624)
  (hz : tz (vl xs) = z) (hbl : bl (vl xs) = b) (hzb : z ≤ b) (hb2 : b ≤ 144115188075855872) (err : Int)
  (hc : (b = z ∧ err = 0) ∨ (z < b ∧ 16384 < b - z ∧ err = 3) ∨ (z < b ∧ b - z ≤ 16384 ∧ (ex < -65536 - (z : Int) ∨ 65536 - (z : Int) < ex) ∧ err = 3)) :
  Calls Tryz.prog 112 #[.agg #[.bool neg, .slice ao xs.length cap, .int .i64 ex]] w fun e w' => e = .returned (.tuple #[.agg #[.bool false, .slice none 0 0, .int .i64 0], .int .i64 err]) ∧ Below w.heap.size w w' := by
 have hend : ∀ o1 o2, Below w.heap.size w ((w.alloc o1).alloc o2) := fun o1 o2 => (((Below.refl _ _).alloc (Nat.le_refl _) o1).alloc (by simp) o2)
 rcases hc with ⟨h, rfl⟩ | ⟨h0, h, rfl⟩ | ⟨h0, h1, h, rfl⟩
 ·have h0 : (((b : Int) - (z : Int)) == 0) = true := by simp; omega
  clear h
  go_enter Tryz.func112, Tryz.ntmps112
  go_wp2_with (first | (go_at_call 120; refine (trailing_any _ _ _ _ ((hr.alloc _).alloc _) hL (tabW_alloc (tabW_alloc hT _) _) hl).mono ?_; rintro e w' ⟨rfl, rfl⟩) | (go_at_call 121; refine (bitLen_any _ _ _ _ ((hr.alloc _).alloc _) hL hl).mono ?_; rintro e w' ⟨rfl, rfl⟩))
  exact bodyPost_ret (v := .tuple #[.agg #[.bool false, .slice none 0 0, .int .i64 0], .int .i64 0]) (by simp [results, Tryz.results112, go_sem]) rfl ⟨rfl, hend _ _⟩
 ·have h1 : (((b : Int) - (z : Int)) == 0) = false := by simp; omega
  have h2 : (16384 : Int) < (b : Int) - (z : Int) := by omega
  go_enter Tryz.func112, Tryz.ntmps112
  go_wp2_with (first | (go_at_call 120; refine (trailing_any _ _ _ _ ((hr.alloc _).alloc _) hL (tabW_alloc (tabW_alloc hT _) _) hl).mono ?_; rintro e w' ⟨rfl, rfl⟩) | (go_at_call 121; refine (bitLen_any _ _ _ _ ((hr.alloc _).alloc _) hL hl).mono ?_; rintro e w' ⟨rfl, rfl⟩))
  exact bodyPost_ret (v := .tuple #[.agg #[.bool false, .slice none 0 0, .int .i64 0], .int .i64 3]) (by simp [results, Tryz.results112, go_sem]) rfl ⟨rfl, hend _ _⟩
 ·have h2 : (((b : Int) - (z : Int)) == 0) = false := by simp; omega
  have h3 : (b : Int) - (z : Int) ≤ 16384 := by omega
  by_cases h4 : ex < -65536 - (z : Int)
  all_goals
   go_enter Tryz.func112, Tryz.ntmps112
   go_wp2_with (first | (go_at_call 120; refine (trailing_any _ _ _ _ ((hr.alloc _).alloc _) hL (tabW_alloc (tabW_alloc hT _) _) hl).mono ?_; rintro e w' ⟨rfl, rfl⟩) | (go_at_call 121; refine (bitLen_any _ _ _ _ ((hr.alloc _).alloc _) hL hl).mono ?_; rintro e w' ⟨rfl, rfl⟩))
   exact bodyPost_ret (v := .tuple #[.agg #[.bool false, .slice none 0 0, .int .i64 0], .int .i64 3]) (by simp [results, Tryz.results112, go_sem]) rfl ⟨rfl, hend _ _⟩
theorem norm_any (d : Dy) (ao : Option Addr) (cap : Nat) (w : World) (hr : LRow w ao d.mag) (hL : Lm d.mag) (hT : TabW w) (hl : d.mag.length ≤ 1125899906842624) :
  Calls Tryz.prog 112 #[.agg #[.bool d.neg, .slice ao d.mag.length cap, .int .i64 d.exp]] w (Gave w (normD d)) := by
 have hb : bl (vl d.mag) ≤ 64 * 1125899906842624 := bl_limbs hL hl
 by_cases h0 : vl d.mag = 0
 ·rw [norm_zero h0]
  refine (norm_none_walk d.neg d.mag d.exp ao cap 0 0 w hr hL hT hl (by rw [h0]; rfl) (by rw [h0]; rfl) (by omega) (by omega) 0 (Or.inl ⟨rfl, rfl⟩)).mono ?_
  rintro e w' ⟨rfl, hb⟩
  exact ⟨none, 0, rfl, LRow.nil _ _, Frs.none _, hb⟩
 ·have hzb := tz_lt_bl h0
  by_cases hc : 16384 < bl (vl d.mag) - tz (vl d.mag) ∨ d.exp + tz (vl d.mag) < -65536 ∨ 65536 < d.exp + tz (vl d.mag)
  ·rw [norm_long h0 hc]
   refine (norm_none_walk d.neg d.mag d.exp ao cap _ _ w hr hL hT hl rfl rfl (by omega) (by omega) 3 (by omega)).mono ?_
   rintro e w' ⟨rfl, hb⟩
   exact ⟨none, 0, rfl, LRow.nil _ _, Frs.none _, hb⟩
  ·rw [norm_fine h0 hc]
   have hnl : nl (vl d.mag / 2 ^ tz (vl d.mag)) = (bl (vl d.mag) - tz (vl d.mag) + 63) / 64 := by unfold nl; rw [bl_div]
   refine (norm_ok_walk d.neg d.mag d.exp ao cap _ (bl (vl d.mag) - tz (vl d.mag)) _ hnl w hr hL hT hl rfl (by omega) (by omega) (by omega) (by omega) (by omega) (by omega)).mono ?_
   rintro e w' ⟨b, rfl, hrow, hge, hb⟩
   refine ⟨some ⟨b, 0, none⟩, nl (vl d.mag / 2 ^ tz (vl d.mag)), ?_, hrow.lrow (lo_length _) (fun j hj => tl_getD hj), fun a e => by cases e; exact hge, hb⟩
   simp only [lo_length]
theorem u64_and1 {x : Nat} (h : x < 18446744073709551616) : bits .and .u64 (x : Int) 1 = ((x % 2 : Nat) : Int) := by
 have g := u64_and_nat x 1 h (by omega)
 have e2 : ((1 : Nat) : Int) = 1 := rfl
 rw [e2] at g
 rw [g]
 have := Nat.and_two_pow_sub_one_eq_mod x 1
 rw [show (2 : Nat) ^ 1 - 1 = 1 from rfl, show (2 : Nat) ^ 1 = 2 from rfl] at this
 rw [this]
theorem cell_alloc {w : World} {a : Addr} {v : Value} (h : w.cell? a = some v) (o : Obj) : (w.alloc o).cell? a = some v := by
 rw [((Below.refl _ _).alloc (Nat.le_refl _) o).cell (World.block_lt_of_cell? w _ h)]; exact h
set_option maxHeartbeats 1000000 in
theorem right_any (d : Dy) (ao : Option Addr) (cap : Nat) (w : World) (hr : LRow w ao d.mag) (hL : Lm d.mag) :
  Calls Tryz.prog 105 #[.agg #[.bool d.neg, .slice ao d.mag.length cap, .int .i64 d.exp]] w fun e w' => e = .returned (.bool (rightB d)) ∧ Below w.heap.size w w' := by
 obtain ⟨neg, xs, ex⟩ := d
 have hend : ∀ o1, Below w.heap.size w (w.alloc o1) := fun o1 => (Below.refl _ _).alloc (Nat.le_refl _) o1
 simp only at *
 by_cases h0 : xs.length = 0
 ·have HE : Hid (rightB ⟨neg, xs, ex⟩ = (!neg && decide (ex = 0))) := (show rightB ⟨neg, xs, ex⟩ = _ by unfold rightB; rw [if_pos (by exact h0)])
  rw [h0]
  cases neg
  all_goals
   go_enter Tryz.func105, Tryz.ntmps105
   go_wp2
   go_ret
   exact ⟨retB (by rw [HE.out]; first | rfl | (rw [Bool.eq_iff_iff]; simp)), hend _⟩
 ·rcases hr with h | ⟨b, off, rfl, hc⟩
  ·omega
  ·have g0 := fun o => cell_alloc (hc 0 (by omega)) o
   have g1 := fun o => cell_alloc (hc (xs.length - 1) (by omega)) o
   have k0 := hL.getD 0
   have HR : Hid (rightB ⟨neg, xs, ex⟩ = decide (xs.length ≤ 256 ∧ xs.getD 0 0 % 2 = 1 ∧ xs.getD (xs.length - 1) 0 ≠ 0 ∧ -65536 ≤ ex ∧ ex ≤ 65536)) := (show rightB ⟨neg, xs, ex⟩ = _ by unfold rightB; rw [if_neg (by exact h0)])
   generalize xs.getD 0 0 = x at *
   generalize xs.getD (xs.length - 1) 0 = y at *
   have ka : bits .and .u64 (x : Int) 1 = (x : Int) % 2 := (u64_and1 k0).trans (by omega)
   have hn0 : ((xs.length : Int) == 0) = false := beq_eq_false_iff_ne.2 (by omega)
   simp only [Nat.add_zero] at g0
   clear hc hL
   by_cases h1 : (xs.length : Int) ≤ 256
   ·by_cases h2 : x % 2 = 1
    ·have h2' : ((x : Int) % 2 == 1) = true := by simp; omega
     by_cases h3 : y = 0
     ·have h3' : ((y : Int) != 0) = false := by simp; omega
      have HE : Hid (rightB ⟨neg, xs, ex⟩ = false) := (show _ = _ by rw [HR.out]; simp [h3])
      clear HR h2 h3
      go_enter Tryz.func105, Tryz.ntmps105
      go_wp2
      go_ret
      exact ⟨retB (by rw [HE.out]), hend _⟩
     ·have h3' : ((y : Int) != 0) = true := by simp; omega
      by_cases h4 : -65536 ≤ ex
      ·by_cases h5 : ex ≤ 65536
       all_goals
        have HE : Hid (rightB ⟨neg, xs, ex⟩ = decide (ex ≤ 65536)) := (show _ = _ by rw [HR.out, Bool.eq_iff_iff]; simp; omega)
        clear HR h2 h3
        go_enter Tryz.func105, Tryz.ntmps105
        go_wp2
        go_ret
        exact ⟨retB (by rw [HE.out]; simp; omega), hend _⟩
      ·have HE : Hid (rightB ⟨neg, xs, ex⟩ = false) := (show _ = _ by rw [HR.out]; simp; omega)
       clear HR h2 h3
       go_enter Tryz.func105, Tryz.ntmps105
       go_wp2
       go_ret
       exact ⟨retB (by rw [HE.out]), hend _⟩
    ·have h2' : ((x : Int) % 2 == 1) = false := by simp; omega
     have HE : Hid (rightB ⟨neg, xs, ex⟩ = false) := (show _ = _ by rw [HR.out]; simp [h2])
     clear HR h2
     go_enter Tryz.func105, Tryz.ntmps105
     go_wp2
     go_ret
     exact ⟨retB (by rw [HE.out]), hend _⟩
   ·have HE : Hid (rightB ⟨neg, xs, ex⟩ = false) := (show _ = _ by rw [HR.out]; simp; omega)
    clear HR
    go_enter Tryz.func105, Tryz.ntmps105
    go_wp2
    go_ret
    exact ⟨retB (by rw [HE.out]), hend _⟩
end Go.Proofs.YtfipmopmpacdaaaGreatDoor
