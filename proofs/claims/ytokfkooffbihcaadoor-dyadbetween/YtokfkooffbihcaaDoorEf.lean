/- What sizeMode, goesUp, roundSize answer. -/
import Derived.Test.YtokfkooffbihcaaDoorDn
import Derived.Test.YtokfkooffbihcaaDoorDr
import Derived.Test.YtokfkooffbihcaaDoorWj
namespace Go.Proofs.YtokfkooffbihcaaDoor
open Go.RowKit

/-- How a size is rounded. -/
def szm (neg : Bool) (m : Int) : Int := if m = 3 ∨ (m = 1 ∧ neg = false) ∨ (m = 2 ∧ neg = true) then 3 else if m = 1 ∨ m = 2 then 2 else 0
theorem szm_is (neg : Bool) (m : Int) : szm neg m = 0 ∨ szm neg m = 2 ∨ szm neg m = 3 := by unfold szm; (repeat' split) <;> simp

set_option maxHeartbeats 400000 in
theorem sizeMode_any (neg : Bool) (m : Int) (w : World) : Calls Tryd.prog 35 #[.bool neg, .int .i8 m] w fun e w' => e = .returned (.int .i8 (szm neg m)) ∧ w' = w := by
  by_cases h3 : m = 3
  · subst h3
    go_enter Tryd.func35, Tryd.ntmps35
    go_wp2
    go_ret
    exact ⟨rfl, rfl⟩
  · have b3 : (m == 3) = false := beq_eq_false_iff_ne.2 h3
    by_cases h1 : m = 1
    · subst h1
      cases neg
      all_goals
        go_enter Tryd.func35, Tryd.ntmps35
        go_wp2
        go_ret
        exact ⟨rfl, rfl⟩
    · have b1 : (m == 1) = false := beq_eq_false_iff_ne.2 h1
      by_cases h2 : m = 2
      · subst h2
        cases neg
        all_goals
          go_enter Tryd.func35, Tryd.ntmps35
          go_wp2
          go_ret
          exact ⟨rfl, rfl⟩
      · have b2 : (m == 2) = false := beq_eq_false_iff_ne.2 h2
        have HE : Hid (szm neg m = 0) := (show _ = _ by unfold szm; rw [if_neg (by simp [h1, h2, h3]), if_neg (by simp [h1, h2])])
        clear h1 h2 h3
        go_enter Tryd.func35, Tryd.ntmps35
        go_wp2
        go_ret
        exact ⟨retI HE.out.symm, rfl⟩

set_option maxHeartbeats 400000 in
theorem goesUp_any (xs : List Nat) (ao : Option Addr) (cap : Nat) (dr m : Int) (w : World) (hr : LRow w ao xs) (hL : Lm xs) (h1 : -1000000 ≤ dr) (h2 : dr ≤ 1000000) (hm : m = 0 ∨ m = 2 ∨ m = 3) :
    Calls Tryd.prog 52 #[.slice ao xs.length cap, .int .i64 dr, .int .i8 m] w fun e w' => e = .returned (.bool (rUp (vl xs) dr m)) ∧ w' = w := by
  rcases hm with rfl | rfl | rfl
  · have w1 := window_any xs ao cap (dr - 1) w hr hL (by omega) (by omega)
    have w2 := window_any xs ao cap dr w hr hL (by omega) (by omega)
    have l1 := win_lt (vl xs) (dr - 1)
    have l2 := win_lt (vl xs) dr
    have HE : Hid (rUp (vl xs) dr 0 = ((win (vl xs) (dr - 1) % 2 == 1) && (decide (1 < dr) || (win (vl xs) dr % 2 == 1)))) := rfl
    generalize win (vl xs) (dr - 1) = p at *
    generalize win (vl xs) dr = q at *
    have a1 : bits .and .u64 (p : Int) 1 = (p : Int) % 2 := (u64_and1 l1).trans (by omega)
    have a2 : bits .and .u64 (q : Int) 1 = (q : Int) % 2 := (u64_and1 l2).trans (by omega)
    by_cases hp : p % 2 = 1
    · have b1 : ((p : Int) % 2 == 1) = true := by simp; omega
      by_cases hq : q % 2 = 1
      · have b2 : ((q : Int) % 2 == 1) = true := by simp; omega
        have HE2 : Hid (rUp (vl xs) dr 0 = true) := (show _ = _ by rw [HE.out]; simp [hp, hq])
        by_cases hd : 1 < dr
        all_goals
          clear hp hq HE
          go_enter Tryd.func52, Tryd.ntmps52
          go_wp2_with (first | (go_at_call_of 44 (Value.int IntKind.i64 dr); refine w2.mono ?_; rintro e w' ⟨rfl, hww⟩; subst hww) | (go_at_call 44; refine w1.mono ?_; rintro e w' ⟨rfl, hww⟩; subst hww))
          go_ret
          exact ⟨retB HE2.out.symm, rfl⟩
      · have b2 : ((q : Int) % 2 == 1) = false := by simp; omega
        by_cases hd : 1 < dr
        · have HE2 : Hid (rUp (vl xs) dr 0 = true) := (show _ = _ by rw [HE.out]; simp [hp, hd])
          clear hp hq HE
          go_enter Tryd.func52, Tryd.ntmps52
          go_wp2_with (first | (go_at_call_of 44 (Value.int IntKind.i64 dr); refine w2.mono ?_; rintro e w' ⟨rfl, hww⟩; subst hww) | (go_at_call 44; refine w1.mono ?_; rintro e w' ⟨rfl, hww⟩; subst hww))
          go_ret
          exact ⟨retB HE2.out.symm, rfl⟩
        · have HE2 : Hid (rUp (vl xs) dr 0 = false) := (show _ = _ by rw [HE.out]; simp [hq, hd])
          clear hp hq HE
          go_enter Tryd.func52, Tryd.ntmps52
          go_wp2_with (first | (go_at_call_of 44 (Value.int IntKind.i64 dr); refine w2.mono ?_; rintro e w' ⟨rfl, hww⟩; subst hww) | (go_at_call 44; refine w1.mono ?_; rintro e w' ⟨rfl, hww⟩; subst hww))
          go_ret
          exact ⟨retB (by rw [HE2.out]; simp; omega), rfl⟩
    · have b1 : ((p : Int) % 2 == 1) = false := by simp; omega
      have HE2 : Hid (rUp (vl xs) dr 0 = false) := (show _ = _ by rw [HE.out]; simp [hp])
      clear hp HE
      go_enter Tryd.func52, Tryd.ntmps52
      go_wp2_with (first | (go_at_call_of 44 (Value.int IntKind.i64 dr); refine w2.mono ?_; rintro e w' ⟨rfl, hww⟩; subst hww) | (go_at_call 44; refine w1.mono ?_; rintro e w' ⟨rfl, hww⟩; subst hww))
      go_ret
      exact ⟨retB HE2.out.symm, rfl⟩
  · go_enter Tryd.func52, Tryd.ntmps52
    go_wp2_with fail
    go_ret
    exact ⟨rfl, rfl⟩
  · go_enter Tryd.func52, Tryd.ntmps52
    go_wp2_with fail
    go_ret
    exact ⟨rfl, rfl⟩
theorem join_one {last : Int} (h1 : -1074 ≤ last) (h2 : last ≤ 971) : joinF false 1 last = pw last ∧ okP 1 last = true := by
  have l1 : Nat.log2 1 = 0 := by decide
  have e : jR 1 last = pw last := by
    unfold jR jU jM pw
    rw [l1]
    by_cases hc : last < -1022
    · rw [if_neg (by omega), if_neg (by omega), if_pos hc]; omega
    · rw [if_pos (by omega), if_pos (by omega), if_neg hc]; omega
  have hp := (pw_ok h1 (show last ≤ 1023 by omega)).1
  have hk : okP 1 last = true := by unfold okP; rw [if_neg (by omega), e]; simp; omega
  refine ⟨?_, hk⟩
  simp [joinF, valR, hk, e]

theorem inf1_any (w : World) : Calls Tryd.prog 51 #[.int .i64 1] w fun e w' => e = .returned (.float .f64 9218868437227405312) ∧ w' = w := by
  have ff := run_ffrom
  go_enter Tryd.func51, Tryd.ntmps51
  go_wp2
  go_ret
  exact ⟨rfl, rfl⟩

set_option maxHeartbeats 1000000 in
theorem roundSize_great (d : Dy) (ao : Option Addr) (cap : Nat) (m : Int) (w : World) (hr : LRow w ao d.mag) (hL : Lm d.mag) (hn : d.mag.length ≤ 256) (h1 : -65536 ≤ d.exp) (h2 : d.exp ≤ 65536) (hm : m = 0 ∨ m = 2 ∨ m = 3) (hg : 1024 < (bl (vl d.mag) : Int) + d.exp) :
    Calls Tryd.prog 34 #[.agg #[.bool d.neg, .slice ao d.mag.length cap, .int .i64 d.exp], .int .i8 m] w fun e w' => e = .returned (.float .f64 (rSz (vl d.mag) d.exp m)) ∧ Below w.heap.size w w' := by
  have HE : Hid (rSz (vl d.mag) d.exp m = if m = 3 then 9218868437227405311 else 9218868437227405312) := (show _ = _ by unfold rSz; rw [if_pos hg])
  obtain ⟨neg, xs, ex⟩ := d
  simp only at *
  have htop := fun o => top_any ⟨neg, xs, ex⟩ ao cap (w.alloc o) (hr.alloc o) hL (by simp only; omega) (by simp only; omega) (by simp only; omega)
  simp only at htop
  rcases hm with rfl | rfl | rfl
  all_goals
    go_enter Tryd.func34, Tryd.ntmps34
    go_wp2_with (first | (go_at_call 42; refine (htop _).mono ?_; rintro e w1 ⟨rfl, hb1⟩) | (go_at_call 51; refine (inf1_any _).mono ?_; rintro e w' ⟨rfl, hww⟩; subst hww))
    go_ret
    exact ⟨by rw [HE.out]; rfl, ((Below.refl _ _).alloc (Nat.le_refl _) _).trans (hb1.mono (by go_simp))⟩

theorem one_box {w w1 : World} {x0 x1 x2 : Value} {s : TypeId} (hb : Below (w.alloc (.cells #[x0, x1, x2] s)).heap.size (w.alloc (.cells #[x0, x1, x2] s)) w1) :
    (w1.cell? ⟨w.heap.size, 0, none⟩ = some x0 ∧ w1.cell? ⟨w.heap.size, 1, none⟩ = some x1 ∧ w1.cell? ⟨w.heap.size, 2, none⟩ = some x2) ∧ Below w.heap.size w w1 := by
  obtain ⟨hc, hf⟩ := oldc hb
  have l0 : w.heap.size < (w.alloc (.cells #[x0, x1, x2] s)).heap.size := by go_simp
  refine ⟨⟨?_, ?_, ?_⟩, ((Below.refl _ _).alloc (Nat.le_refl _) _).trans (hb.mono (by omega))⟩
  · rw [hc _ _ l0]; go_simp
  · rw [hc _ _ l0]; go_simp
  · rw [hc _ _ l0]; go_simp
end Go.Proofs.YtokfkooffbihcaaDoor
