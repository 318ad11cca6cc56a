/- What the document's Join computes of any parts, and that BitsMakes answers true whatever parts and place it is given (the library's table lying as its initialiser lays it). -/
import Derived.Test.YtgkodomppebijaaDoorRj
namespace Go.Proofs.YtgkodomppebijaaDoor
open Go.RowKit

theorem joinF_no {f : Nat} {e : Int} (h : okP f e = false) (n : Bool) : joinF n f e = 0 := by unfold joinF; rw [h]; rfl
theorem okP_no {f : Nat} {e : Int} (h : 9007199254740992 ≤ f ∨ e < -1074 ∨ 1023 < e ∨ f ≠ 0 ∧ f % 2 = 0 ∨ f = 0 ∧ e ≠ 0) : okP f e = false := by
  unfold okP
  by_cases h0 : f = 0
  · rw [if_pos h0]; simp; omega
  · rw [if_neg h0]; simp; omega

set_option maxRecDepth 100000 in
set_option maxHeartbeats 1000000 in
theorem rjoin_zero (n : Bool) (w : World) :
    Calls Tryd.prog 30 #[.agg #[.bool n, .int .u64 0, .int .i64 0]] w fun r w' => r = .returned (.tuple #[.float .f64 (joinF n 0 0), .bool (okP 0 0)]) ∧ Below w.heap.size w w' := by
  have ff := run_ffrom
  have hk : okP 0 0 = true := by decide
  have j1 : joinF false 0 0 = 0 := by decide
  have j2 : joinF true 0 0 = 9223372036854775808 := by decide
  have J1 : Hid (joinF false 0 0 = 0) := j1
  have J2 : Hid (joinF true 0 0 = 9223372036854775808) := j2
  clear j1 j2
  go_enter Tryd.func30, Tryd.ntmps30
  go_wp2
  go_quiet (fail)
  go_wp2
  go_loop [4, 5] (fun fv ev => fv = .int .u64 0 ∧ ev = .int .i64 0) (fun _ _ => 0)
  case atStart => exact ⟨rfl, rfl⟩
  case round =>
    obtain ⟨rfl, rfl⟩ := hrel
    cases n
    · go_wp2
      go_ret2
      exact ⟨end_fb J1.out.symm rfl, below_drewN ((Below.refl _ _).alloc (Nat.le_refl _) _) _⟩
    · go_wp2
      go_ret2
      exact ⟨end_fb J2.out.symm rfl, below_drewN ((Below.refl _ _).alloc (Nat.le_refl _) _) _⟩

set_option maxRecDepth 100000 in
set_option maxHeartbeats 1000000 in
theorem rjoin_any (n : Bool) (f : Nat) (e : Int) (w : World) :
    Calls Tryd.prog 30 #[.agg #[.bool n, .int .u64 f, .int .i64 e]] w fun r w' => r = .returned (.tuple #[.float .f64 (joinF n f e), .bool (okP f e)]) ∧ Below w.heap.size w w' := by
  by_cases h1 : 9007199254740992 ≤ f
  · have HK : Hid (okP f e = false) := okP_no (Or.inl h1)
    have a1 : (9007199254740992 : Int) ≤ (f : Int) := by omega
    clear h1
    go_enter Tryd.func30, Tryd.ntmps30
    go_wp2
    go_ret2
    exact ⟨end_fb (joinF_no HK.out n).symm HK.out.symm, (Below.refl _ _).alloc (Nat.le_refl _) _⟩
  · have a1 : ¬ (9007199254740992 ≤ (f : Int)) := by omega
    by_cases h2 : e < -1074
    · have HK : Hid (okP f e = false) := okP_no (Or.inr (Or.inl h2))
      clear h1
      go_enter Tryd.func30, Tryd.ntmps30
      go_wp2
      go_ret2
      exact ⟨end_fb (joinF_no HK.out n).symm HK.out.symm, (Below.refl _ _).alloc (Nat.le_refl _) _⟩
    · by_cases h3 : 1023 < e
      · have HK : Hid (okP f e = false) := okP_no (Or.inr (Or.inr (Or.inl h3)))
        clear h1
        go_enter Tryd.func30, Tryd.ntmps30
        go_wp2
        go_ret2
        exact ⟨end_fb (joinF_no HK.out n).symm HK.out.symm, (Below.refl _ _).alloc (Nat.le_refl _) _⟩
      · by_cases h4 : f = 0
        · by_cases h5 : e = 0
          · subst h4 h5
            exact rjoin_zero n w
          · have HK : Hid (okP f e = false) := okP_no (Or.inr (Or.inr (Or.inr (Or.inr ⟨h4, h5⟩))))
            have b0 : ((f : Int) == 0) = true := by simp; omega
            have b1 : ((f : Int) % 2 == 0) = true := by simp; omega
            have b2 : (e != 0) = true := by simp; omega
            clear h1 h4 h5
            go_enter Tryd.func30, Tryd.ntmps30
            go_wp2
            go_ret2
            exact ⟨end_fb (joinF_no HK.out n).symm HK.out.symm, (Below.refl _ _).alloc (Nat.le_refl _) _⟩
        · have b0 : ((f : Int) == 0) = false := by simp; omega
          by_cases h5 : f % 2 = 0
          · have HK : Hid (okP f e = false) := okP_no (Or.inr (Or.inr (Or.inr (Or.inl ⟨h4, h5⟩))))
            have b1 : ((f : Int) % 2 == 0) = true := by simp; omega
            clear h1 h4 h5
            go_enter Tryd.func30, Tryd.ntmps30
            go_wp2
            go_ret2
            exact ⟨end_fb (joinF_no HK.out n).symm HK.out.symm, (Below.refl _ _).alloc (Nat.le_refl _) _⟩
          · have b1 : ((f : Int) % 2 == 0) = false := by simp; omega
            refine rjoin_core n f e h4 b0 b1 (by omega) (by omega) (by omega) ?_ w
            unfold okP; rw [if_neg h4, decide_eq_decide]; omega

theorem old_cells {W V : World} (hb : Below W.heap.size W V) : ∀ b o, b < W.heap.size → V.cell? ⟨b, o, none⟩ = W.cell? ⟨b, o, none⟩ := fun b o h => hb.cell (p := ⟨b, o, none⟩) h
theorem same_refl (a : Nat) : sameB a a = true := by unfold sameB; cases nanB a <;> simp
theorem joinF_lt (n : Bool) (f : Nat) (e : Int) : joinF n f e < 18446744073709551616 := by
  have := valR_lt f e
  unfold joinF; (repeat' split) <;> omega

set_option maxRecDepth 100000 in
set_option maxHeartbeats 1000000 in
theorem law_makes (n : Bool) (f : Nat) (e p : Int) (hf : f < 18446744073709551616) (hp1 : -9223372036854775808 ≤ p) (hp2 : p ≤ 9223372036854775807) (w : World) (hT : TabW w) :
    Calls Tryd.prog 5 #[.agg #[.bool n, .int .u64 f, .int .i64 e], .int .i64 p] w fun r w' => r = .returned (.bool true) ∧ Below w.heap.size w w' := by
  have s1 := same_refl (joinF n f e)
  have s2 := same_refl (atF p)
  have l1 := joinF_lt n f e
  have l2 := atF_lt p
  go_enter Tryd.func5, Tryd.ntmps5
  go_wp2_with (first | (go_at_call 11; refine (join_any _ _ _ (by assumption) _).mono ?_; rintro r w1 ⟨rfl, hb1⟩; have hc1 := old_cells hb1) | (go_at_call 30; refine (rjoin_any _ _ _ _).mono ?_; rintro r w2 ⟨rfl, hb2⟩) | (go_at_call 10; refine (at_any _ (by assumption) (by assumption) _).mono ?_; rintro r w' ⟨rfl, rfl⟩) | (go_at_call 31; refine (rat_any _ (by assumption) (by assumption) _).mono ?_; rintro r w' ⟨rfl, rfl⟩) | (go_at_call 13; refine (samef_any _ _ (by assumption) (by assumption) _).mono ?_; rintro r w' ⟨rfl, rfl⟩) | (go_at_call 22; refine (awake_any _ ?_).mono ?_; rotate_left; rintro r w3 ⟨rfl, hb3⟩))
  · have hA := (((Below.refl w.heap.size w).alloc (Nat.le_refl _) _).trans (hb1.mono (by simp))).trans (hb2.mono (by have := hb1.size; simp at this; omega))
    go_ret
    exact ⟨rfl, hA.trans (hb3.mono hA.size)⟩
  · have hA := (((Below.refl w.heap.size w).alloc (Nat.le_refl _) _).trans (hb1.mono (by simp))).trans (hb2.mono (by have := hb1.size; simp at this; omega))
    exact tabW_below hT hA
end Go.Proofs.YtgkodomppebijaaDoor
