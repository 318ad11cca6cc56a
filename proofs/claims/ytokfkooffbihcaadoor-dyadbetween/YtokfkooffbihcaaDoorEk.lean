/- What Round answers. -/
import Derived.Test.YtokfkooffbihcaaDoorEg
import Derived.Test.YtokfkooffbihcaaDoorDw
import Derived.Test.YtokfkooffbihcaaDoorDx
namespace Go.Proofs.YtokfkooffbihcaaDoor
open Go.RowKit

theorem roundSize_any (d : Dy) (ao : Option Addr) (cap : Nat) (m : Int) (w : World) (hr : LRow w ao d.mag) (hL : Lm d.mag) (h0 : vl d.mag ≠ 0) (hn : d.mag.length ≤ 256) (h1 : -65536 ≤ d.exp) (h2 : d.exp ≤ 65536) (hm : m = 0 ∨ m = 2 ∨ m = 3) :
    Calls Tryd.prog 34 #[.agg #[.bool d.neg, .slice ao d.mag.length cap, .int .i64 d.exp], .int .i8 m] w fun e w' => e = .returned (.float .f64 (rSz (vl d.mag) d.exp m)) ∧ Below w.heap.size w w' := by
  by_cases hg : 1024 < (bl (vl d.mag) : Int) + d.exp
  · exact roundSize_great d ao cap m w hr hL hn h1 h2 hm hg
  · obtain ⟨k1, k2, k3, k4, k5⟩ := kept_bd h0 (show (bl (vl d.mag) : Int) + d.exp ≤ 1024 by omega)
    have hkp : rKp (vl d.mag) d.exp m ≤ 9007199254740992 := by unfold rKp; split <;> omega
    have hor : rLa (vl d.mag) d.exp = -1074 ∨ 4503599627370496 ≤ rKp (vl d.mag) d.exp m := by
      rcases k5 with h | h
      · exact Or.inl h
      · right; unfold rKp; split <;> omega
    obtain ⟨c, hc1, hc2⟩ := mul_kept hkp k3 k4 hor
    have e : rSz (vl d.mag) d.exp m = rW (rKp (vl d.mag) d.exp m) (rLa (vl d.mag) d.exp) := by unfold rSz; rw [if_neg hg]
    rw [e]
    exact roundSize_walk d.neg d.mag d.exp ao cap m (rLa (vl d.mag) d.exp) (rDr (vl d.mag) d.exp) (win (vl d.mag) (rDr (vl d.mag) d.exp)) (rUp (vl d.mag) (rDr (vl d.mag) d.exp) m) (rKp (vl d.mag) d.exp m) c _ w hr hL hn h1 h2 hm hg (by unfold rLa; omega) rfl rfl (by omega) (fun _ => rfl) rfl k3 k4 hc1 hc2

/-- The answer of Round: a word. -/
def rndW (d : Dy) (m : Int) : Nat := if d.mag.length = 0 then 0 else if d.neg then 9223372036854775808 + rSz (vl d.mag) d.exp (szm d.neg m) else rSz (vl d.mag) d.exp (szm d.neg m)
theorem rSz_lt (v : Nat) (e m : Int) (h0 : v ≠ 0) : rSz v e m ≤ 9218868437227405312 := by
  unfold rSz
  by_cases hg : 1024 < (bl v : Int) + e
  · rw [if_pos hg]; split <;> omega
  · rw [if_neg hg]
    obtain ⟨k1, k2, k3, k4, k5⟩ := kept_bd h0 (show (bl v : Int) + e ≤ 1024 by omega)
    exact rW_lt (by unfold rKp; split <;> omega) k4

set_option maxHeartbeats 1000000 in
theorem Round_ok (neg : Bool) (xs : List Nat) (ex : Int) (ao : Option Addr) (cap : Nat) (m : Int) (w : World) (hr : LRow w ao xs) (hL : Lm xs) (hR : rightB ⟨neg, xs, ex⟩ = true) :
    Calls Tryd.prog 15 #[.agg #[.bool neg, .slice ao xs.length cap, .int .i64 ex], .int .i8 m] w fun e w' => e = .returned (.tuple #[.float .f64 (rndW ⟨neg, xs, ex⟩ m), .int .i64 0]) ∧ Below w.heap.size w w' := by
  have xa := right_exp hR
  simp only at xa
  by_cases hl : xs.length = 0
  · have hb : ((xs.length : Int) == 0) = true := beq_iff_eq.2 (by omega)
    have HE : Hid (rndW ⟨neg, xs, ex⟩ m = 0) := (show _ = _ by unfold rndW; rw [if_pos (by exact hl)])
    clear hl
    go_enter Tryd.func15, Tryd.ntmps15
    go_wp2_with (go_at_call 22; refine (right_any ⟨neg, xs, ex⟩ ao cap _ (hr.alloc _) hL).mono ?_; rintro e w1 ⟨rfl, hb1⟩; obtain ⟨⟨c0, c1, c2⟩, ho1⟩ := one_box hb1)
    go_ret2
    exact ⟨by rw [HE.out]; rfl, ho1⟩
  · have hb : ((xs.length : Int) == 0) = false := beq_eq_false_iff_ne.2 (by omega)
    have h0 := (right_ne hR hl).1
    have hsz := fun w' hr' => roundSize_any ⟨neg, xs, ex⟩ ao cap (szm neg m) w' hr' hL h0 (by simp only; omega) (by simp only; omega) (by simp only; omega) (szm_is neg m)
    have hsl := rSz_lt (vl xs) ex (szm neg m) h0
    simp only at hsz h0
    have HE : Hid (rndW ⟨neg, xs, ex⟩ m = if neg then 9223372036854775808 + rSz (vl xs) ex (szm neg m) else rSz (vl xs) ex (szm neg m)) := (show _ = _ by unfold rndW; rw [if_neg (by exact hl)])
    have hu : ∀ b, Op.unary .neg (.float .f64 b) = pure (.float .f64 (Op.negFloat .f64 b)) := fun _ => rfl
    have hg := neg_word (r := rSz (vl xs) ex (szm neg m)) (by omega)
    generalize rSz (vl xs) ex (szm neg m) = r at *
    have hmode := fun w' => sizeMode_any neg m w'
    generalize szm neg m = mm at *
    clear hl h0 hsl
    cases neg
    · clear hg
      go_enter Tryd.func15, Tryd.ntmps15
      go_wp2_with (go_at_call 22; refine (right_any ⟨false, xs, ex⟩ ao cap _ (hr.alloc _) hL).mono ?_; rintro e w1 ⟨rfl, hb1⟩; obtain ⟨⟨c0, c1, c2⟩, ho1⟩ := one_box hb1)
      go_region_held3 (fun w' => w'.cell? ⟨w.heap.size, 0, none⟩ = some (.bool false) ∧ w'.cell? ⟨w.heap.size, 1, none⟩ = some (.slice ao xs.length cap) ∧ w'.cell? ⟨w.heap.size, 2, none⟩ = some (.int .i64 ex)) (go_keep)
        (first | (go_at_call 35; refine (hmode _).mono ?_; rintro e w' ⟨rfl, hww⟩; subst hww) | (go_at_call 34; refine (hsz _ (hr.below ho1).drew).mono ?_; rintro e w2 ⟨rfl, hb2⟩; replace hb2 := undrew hb2; obtain ⟨c0, c1, c2⟩ := three_on (p := w.heap.size) hb2 ⟨c0, c1, c2⟩; have ho2 : Below w.heap.size w w2 := ho1.trans (hb2.mono ho1.size)))
      go_wp2
      go_ret2
      exact ⟨by rw [HE.out]; rfl, ho2⟩
    · go_enter Tryd.func15, Tryd.ntmps15
      go_wp2_with (go_at_call 22; refine (right_any ⟨true, xs, ex⟩ ao cap _ (hr.alloc _) hL).mono ?_; rintro e w1 ⟨rfl, hb1⟩; obtain ⟨⟨c0, c1, c2⟩, ho1⟩ := one_box hb1)
      go_region_held3 (fun w' => w'.cell? ⟨w.heap.size, 0, none⟩ = some (.bool true) ∧ w'.cell? ⟨w.heap.size, 1, none⟩ = some (.slice ao xs.length cap) ∧ w'.cell? ⟨w.heap.size, 2, none⟩ = some (.int .i64 ex)) (go_keep)
        (first | (go_at_call 35; refine (hmode _).mono ?_; rintro e w' ⟨rfl, hww⟩; subst hww) | (go_at_call 34; refine (hsz _ (hr.below ho1).drew).mono ?_; rintro e w2 ⟨rfl, hb2⟩; replace hb2 := undrew hb2; obtain ⟨c0, c1, c2⟩ := three_on (p := w.heap.size) hb2 ⟨c0, c1, c2⟩; have ho2 : Below w.heap.size w w2 := ho1.trans (hb2.mono ho1.size)))
      go_wp2
      go_ret2
      exact ⟨by rw [HE.out]; rfl, ho2⟩

set_option maxHeartbeats 1000000 in
theorem Round_arg (neg : Bool) (xs : List Nat) (ex : Int) (ao : Option Addr) (cap : Nat) (m : Int) (w : World) (hr : LRow w ao xs) (hL : Lm xs) (hR : rightB ⟨neg, xs, ex⟩ = false) :
    Calls Tryd.prog 15 #[.agg #[.bool neg, .slice ao xs.length cap, .int .i64 ex], .int .i8 m] w fun e w' => e = .returned (.tuple #[.float .f64 0, .int .i64 2]) ∧ Below w.heap.size w w' := by
  go_enter Tryd.func15, Tryd.ntmps15
  go_wp2_with (go_at_call 22; refine (right_any ⟨neg, xs, ex⟩ ao cap _ (hr.alloc _) hL).mono ?_; rintro e w1 ⟨rfl, hb1⟩; obtain ⟨⟨c0, c1, c2⟩, ho1⟩ := one_box hb1)
  go_ret2
  exact ⟨rfl, ho1⟩
end Go.Proofs.YtokfkooffbihcaaDoor
