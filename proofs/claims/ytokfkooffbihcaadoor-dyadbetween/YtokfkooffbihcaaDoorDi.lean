/- Norm's contract; Right, turned, top, sign, copied, CopyDyad, SameDyad. -/
import Derived.Test.YtokfkooffbihcaaDoorDh
namespace Go.Proofs.YtokfkooffbihcaaDoor
open Go.RowKit

/-- A dyad handed back: its limbs lie in memory, nothing old has turned. -/
def Gave (w : World) (r : Dy × Int) (e : Ending) (w' : World) : Prop :=
  ∃ ao cap, e = .returned (.tuple #[.agg #[.bool r.1.neg, .slice ao r.1.mag.length cap, .int .i64 r.1.exp], .int .i64 r.2]) ∧ LRow w' ao r.1.mag ∧ Frs w.heap.size ao ∧ Below w.heap.size w w'

set_option maxHeartbeats 1000000 in
theorem norm_none_walk (neg : Bool) (xs : List Nat) (ex : Int) (ao : Option Addr) (cap z b : Nat) (w : World) (hr : LRow w ao xs) (hL : Lm xs) (hT : TabW w) (hl : xs.length ≤ 1125899906842624)
    (hz : tz (vl xs) = z) (hbl : bl (vl xs) = b) (hzb : z ≤ b) (hb2 : b ≤ 144115188075855872) (err : Int)
    (hc : (b = z ∧ err = 0) ∨ (z < b ∧ 16384 < b - z ∧ err = 3) ∨ (z < b ∧ b - z ≤ 16384 ∧ (ex < -65536 - (z : Int) ∨ 65536 - (z : Int) < ex) ∧ err = 3)) :
    Calls Tryd.prog 13 #[.agg #[.bool neg, .slice ao xs.length cap, .int .i64 ex]] w fun e w' => e = .returned (.tuple #[.agg #[.bool false, .slice none 0 0, .int .i64 0], .int .i64 err]) ∧ Below w.heap.size w w' := by
  have hend : ∀ o1 o2, Below w.heap.size w ((w.alloc o1).alloc o2) := fun o1 o2 => (((Below.refl _ _).alloc (Nat.le_refl _) o1).alloc (by simp) o2)
  rcases hc with ⟨h, rfl⟩ | ⟨h0, h, rfl⟩ | ⟨h0, h1, h, rfl⟩
  · have h0 : (((b : Int) - (z : Int)) == 0) = true := by simp; omega
    clear h
    go_enter Tryd.func13, Tryd.ntmps13
    go_wp2_with (first | (go_at_call 30; refine (trailing_any _ _ _ _ ((hr.alloc _).alloc _) hL (tabW_alloc (tabW_alloc hT _) _) hl).mono ?_; rintro e w' ⟨rfl, rfl⟩) | (go_at_call 31; refine (bitLen_any _ _ _ _ ((hr.alloc _).alloc _) hL hl).mono ?_; rintro e w' ⟨rfl, rfl⟩))
    exact bodyPost_ret (v := .tuple #[.agg #[.bool false, .slice none 0 0, .int .i64 0], .int .i64 0]) (by simp [results, Tryd.results13, go_sem]) rfl ⟨rfl, hend _ _⟩
  · have h1 : (((b : Int) - (z : Int)) == 0) = false := by simp; omega
    have h2 : (16384 : Int) < (b : Int) - (z : Int) := by omega
    go_enter Tryd.func13, Tryd.ntmps13
    go_wp2_with (first | (go_at_call 30; refine (trailing_any _ _ _ _ ((hr.alloc _).alloc _) hL (tabW_alloc (tabW_alloc hT _) _) hl).mono ?_; rintro e w' ⟨rfl, rfl⟩) | (go_at_call 31; refine (bitLen_any _ _ _ _ ((hr.alloc _).alloc _) hL hl).mono ?_; rintro e w' ⟨rfl, rfl⟩))
    exact bodyPost_ret (v := .tuple #[.agg #[.bool false, .slice none 0 0, .int .i64 0], .int .i64 3]) (by simp [results, Tryd.results13, go_sem]) rfl ⟨rfl, hend _ _⟩
  · have h2 : (((b : Int) - (z : Int)) == 0) = false := by simp; omega
    have h3 : (b : Int) - (z : Int) ≤ 16384 := by omega
    by_cases h4 : ex < -65536 - (z : Int)
    all_goals
      go_enter Tryd.func13, Tryd.ntmps13
      go_wp2_with (first | (go_at_call 30; refine (trailing_any _ _ _ _ ((hr.alloc _).alloc _) hL (tabW_alloc (tabW_alloc hT _) _) hl).mono ?_; rintro e w' ⟨rfl, rfl⟩) | (go_at_call 31; refine (bitLen_any _ _ _ _ ((hr.alloc _).alloc _) hL hl).mono ?_; rintro e w' ⟨rfl, rfl⟩))
      exact bodyPost_ret (v := .tuple #[.agg #[.bool false, .slice none 0 0, .int .i64 0], .int .i64 3]) (by simp [results, Tryd.results13, go_sem]) rfl ⟨rfl, hend _ _⟩

theorem norm_any (d : Dy) (ao : Option Addr) (cap : Nat) (w : World) (hr : LRow w ao d.mag) (hL : Lm d.mag) (hT : TabW w) (hl : d.mag.length ≤ 1125899906842624) :
    Calls Tryd.prog 13 #[.agg #[.bool d.neg, .slice ao d.mag.length cap, .int .i64 d.exp]] w (Gave w (normD d)) := by
  have hb : bl (vl d.mag) ≤ 64 * 1125899906842624 := bl_limbs hL hl
  by_cases h0 : vl d.mag = 0
  · rw [norm_zero h0]
    refine (norm_none_walk d.neg d.mag d.exp ao cap 0 0 w hr hL hT hl (by rw [h0]; rfl) (by rw [h0]; rfl) (by omega) (by omega) 0 (Or.inl ⟨rfl, rfl⟩)).mono ?_
    rintro e w' ⟨rfl, hb⟩
    exact ⟨none, 0, rfl, LRow.nil _ _, Frs.none _, hb⟩
  · have hzb := tz_lt_bl h0
    by_cases hc : 16384 < bl (vl d.mag) - tz (vl d.mag) ∨ d.exp + tz (vl d.mag) < -65536 ∨ 65536 < d.exp + tz (vl d.mag)
    · rw [norm_long h0 hc]
      refine (norm_none_walk d.neg d.mag d.exp ao cap _ _ w hr hL hT hl rfl rfl (by omega) (by omega) 3 (by omega)).mono ?_
      rintro e w' ⟨rfl, hb⟩
      exact ⟨none, 0, rfl, LRow.nil _ _, Frs.none _, hb⟩
    · rw [norm_fine h0 hc]
      have hnl : nl (vl d.mag / 2 ^ tz (vl d.mag)) = (bl (vl d.mag) - tz (vl d.mag) + 63) / 64 := by unfold nl; rw [bl_div]
      refine (norm_ok_walk d.neg d.mag d.exp ao cap _ (bl (vl d.mag) - tz (vl d.mag)) _ hnl w hr hL hT hl rfl (by omega) (by omega) (by omega) (by omega) (by omega) (by omega)).mono ?_
      rintro e w' ⟨b, rfl, hrow, hge, hb⟩
      refine ⟨some ⟨b, 0, none⟩, nl (vl d.mag / 2 ^ tz (vl d.mag)), ?_, hrow.lrow (lo_length _) (fun j hj => tl_getD hj), fun a e => by cases e; exact hge, hb⟩
      simp only [lo_length]
end Go.Proofs.YtokfkooffbihcaaDoor
