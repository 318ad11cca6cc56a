/- Most, of the program and of the document. -/
import Derived.Test.YtojdlheblnjoiaaAc
import Derived.Deep.QuietTactic
import Derived.BigQuiet
namespace Go.Proofs.Ytojdlheblnjoiaa
open Go.RowKit

set_option maxHeartbeats 2000000 in
theorem vmost_any (xs : List Nat) (ao : Option Addr) (cap : Nat) (w : World) (hr : GRow w ao xs) (hF : FW xs) (hn : xs.length ≤ 1125899906842624) :
    Calls Try.prog 20 #[.slice ao xs.length cap] w fun e w' => e = .returned (.tuple #[.int .i64 (msL xs xs.length).1, .float .f64 (msL xs xs.length).2]) ∧ w' = w := by
  go_enter Try.func20, Try.ntmps20
  go_wp2
  go_loopg [4, 5, 6, 10] xs.length (fun g a s _ i wr => ∃ k : Nat, k ≤ xs.length ∧ g = xs.length - k ∧ a = .int .i64 (msL xs k).1 ∧ s = .float .f64 (msL xs k).2 ∧ i = .int .i64 k ∧ wr = w)
  case atStart => exact ⟨0, Nat.zero_le _, rfl, rfl, rfl, rfl, rfl⟩
  case round =>
    obtain ⟨k, hk, hg, rfl, rfl, rfl, rfl⟩ := hrel
    have HG : Hid (gk = xs.length - k) := hg
    clear hg
    by_cases hlt : k < xs.length
    · rcases hr with h | ⟨b, off, rfl, hc⟩
      · omega
      have g1 := hc k hlt
      have hx := hF.at hlt
      obtain ⟨m1, m2, m3⟩ := msL_bounds xs k
      have HY : Hid (nanB (xs.getD k 0) = false → ((msL xs k).1 < 0 ∨ (msL xs k).2 < rung (xs.getD k 0)) → msL xs (k + 1) = ((k : Int), rung (xs.getD k 0))) := msL_yes
      have HO : Hid ((nanB (xs.getD k 0) = true ∨ (0 ≤ (msL xs k).1 ∧ rung (xs.getD k 0) ≤ (msL xs k).2)) → msL xs (k + 1) = msL xs k) := msL_no
      generalize xs.getD k 0 = x at *
      obtain ⟨⟨at_, sz⟩, hq⟩ : ∃ q : Int × Nat, msL xs k = q := ⟨_, rfl⟩
      rw [hq] at m1 m2 m3 HY HO
      rw [hq]
      dsimp only at m1 m2 m3 HY HO ⊢
      have cb := abs_any x hx
      have cn := isnan_any (rung x) (vrung64 x)
      rw [nan_rung] at cn
      have i1 : (k : Int) < (xs.length : Int) := by omega
      have hrl := rung_lt x
      clear hc hq
      cases hnan : nanB x
      · have hru : rung x ≤ 9218868437227405312 := by unfold nanB at hnan; simpa using hnan
        have ho := size_gt hru m3
        rw [hnan] at cn
        by_cases hy : at_ < 0 ∨ sz < rung x
        · have HS := HY.out hnan hy
          have e1 : Hid (((k : Int)) = (msL xs (k + 1)).1) := (show _ = _ by rw [HS])
          have e2 : Hid (rung x = (msL xs (k + 1)).2) := (show _ = _ by rw [HS])
          clear HY HO HS
          by_cases hs : sz < rung x
          · rw [decide_eq_true hs] at ho
            clear hy hs
            go_wp2_with (first
              | (go_at_call 29; refine (cb _).mono ?_; rintro e w' ⟨rfl, rfl⟩)
              | (go_at_call 43; refine (cn _).mono ?_; rintro e w' ⟨rfl, rfl⟩))
            go_roundg (xs.length - (k + 1))
            case measure => rw [HG.out]; omega
            case rel => exact ⟨k + 1, by omega, rfl, by rw [← e1.out], by rw [← e2.out], by go_num, rfl⟩
          · rw [decide_eq_false hs] at ho
            have ha : at_ < 0 := by omega
            clear hy hs
            go_wp2_with (first
              | (go_at_call 29; refine (cb _).mono ?_; rintro e w' ⟨rfl, rfl⟩)
              | (go_at_call 43; refine (cn _).mono ?_; rintro e w' ⟨rfl, rfl⟩))
            go_roundg (xs.length - (k + 1))
            case measure => rw [HG.out]; omega
            case rel => exact ⟨k + 1, by omega, rfl, by rw [← e1.out], by rw [← e2.out], by go_num, rfl⟩
        · have HS := HO.out (Or.inr (by omega))
          have hs : ¬ sz < rung x := by omega
          have ha : ¬ at_ < 0 := by omega
          have e1 : Hid (at_ = (msL xs (k + 1)).1) := (show _ = _ by rw [HS])
          have e2 : Hid (sz = (msL xs (k + 1)).2) := (show _ = _ by rw [HS])
          rw [decide_eq_false hs] at ho
          clear HY HO HS hy hs
          go_wp2_with (first
            | (go_at_call 29; refine (cb _).mono ?_; rintro e w' ⟨rfl, rfl⟩)
            | (go_at_call 43; refine (cn _).mono ?_; rintro e w' ⟨rfl, rfl⟩))
          go_roundg (xs.length - (k + 1))
          case measure => rw [HG.out]; omega
          case rel => exact ⟨k + 1, by omega, rfl, by rw [← e1.out], by rw [← e2.out], by go_num, rfl⟩
      · have ho := size_gt_nan (v := sz) (vrung64 x) (by omega) (by rw [nan_rung]; exact hnan)
        rw [hnan] at cn
        have HS := HO.out (Or.inl hnan)
        have e1 : Hid (at_ = (msL xs (k + 1)).1) := (show _ = _ by rw [HS])
        have e2 : Hid (sz = (msL xs (k + 1)).2) := (show _ = _ by rw [HS])
        clear HY HO HS
        by_cases ha : at_ < 0
        all_goals
          go_wp2_with (first
            | (go_at_call 29; refine (cb _).mono ?_; rintro e w' ⟨rfl, rfl⟩)
            | (go_at_call 43; refine (cn _).mono ?_; rintro e w' ⟨rfl, rfl⟩))
          go_roundg (xs.length - (k + 1))
          case measure => rw [HG.out]; omega
          case rel => exact ⟨k + 1, by omega, rfl, by rw [← e1.out], by rw [← e2.out], by go_num, rfl⟩
    · have ek : k = xs.length := by omega
      subst ek
      have i1 : ¬ (xs.length : Int) < (xs.length : Int) := by omega
      go_wp2
      exact bodyPost_ret (v := .tuple #[.int .i64 (msL xs xs.length).1, .float .f64 (msL xs xs.length).2]) (by simp [results, Try.results20, go_sem]) rfl ⟨rfl, rfl⟩
set_option maxHeartbeats 2000000 in
theorem rmost_any (xs : List Nat) (ao : Option Addr) (cap : Nat) (w : World) (hr : GRow w ao xs) (hF : FW xs) (hn : xs.length ≤ 1125899906842624) :
    Calls Try.prog 21 #[.slice ao xs.length cap] w fun e w' => e = .returned (.tuple #[.int .i64 (msL xs xs.length).1, .float .f64 (msL xs xs.length).2]) ∧ Below w.heap.size w w' := by
  go_enter Try.func21, Try.ntmps21
  go_wp2
  go_loopg [4, 5, 6] xs.length (fun g a s i wr => ∃ k : Nat, k ≤ xs.length ∧ g = xs.length - k ∧ a = .int .i64 (msL xs k).1 ∧ s = .float .f64 (msL xs k).2 ∧ i = .int .i64 k ∧ Hid (Below w.heap.size w wr))
  case atStart => exact ⟨0, Nat.zero_le _, rfl, rfl, rfl, rfl, Below.refl _ _⟩
  case round =>
    obtain ⟨k, hk, hg, rfl, rfl, rfl, hB⟩ := hrel
    have HG : Hid (gk = xs.length - k) := hg
    clear hg
    by_cases hlt : k < xs.length
    · rcases hr.below hB.out with h | ⟨b, off, rfl, hc⟩
      · omega
      have g1 := hc k hlt
      have hx := hF.at hlt
      obtain ⟨m1, m2, m3⟩ := msL_bounds xs k
      have HY : Hid (nanB (xs.getD k 0) = false → ((msL xs k).1 < 0 ∨ (msL xs k).2 < rung (xs.getD k 0)) → msL xs (k + 1) = ((k : Int), rung (xs.getD k 0))) := msL_yes
      have HO : Hid ((nanB (xs.getD k 0) = true ∨ (0 ≤ (msL xs k).1 ∧ rung (xs.getD k 0) ≤ (msL xs k).2)) → msL xs (k + 1) = msL xs k) := msL_no
      generalize xs.getD k 0 = x at *
      obtain ⟨⟨at_, sz⟩, hq⟩ : ∃ q : Int × Nat, msL xs k = q := ⟨_, rfl⟩
      rw [hq] at m1 m2 m3 HY HO
      rw [hq]
      dsimp only at m1 m2 m3 HY HO ⊢
      have cb := abs_any x hx
      have na := ord_same x hx
      have i1 : (k : Int) < (xs.length : Int) := by omega
      have hrl := rung_lt x
      clear hc hq
      cases hnan : nanB x
      · have hru : rung x ≤ 9218868437227405312 := by unfold nanB at hnan; simpa using hnan
        have ho := size_gt hru m3
        rw [hnan] at na
        by_cases hy : at_ < 0 ∨ sz < rung x
        · have HS := HY.out hnan hy
          have e1 : Hid (((k : Int)) = (msL xs (k + 1)).1) := (show _ = _ by rw [HS])
          have e2 : Hid (rung x = (msL xs (k + 1)).2) := (show _ = _ by rw [HS])
          clear HY HO HS
          by_cases ha : at_ < 0
          · clear hy
            go_wp2
            go_quiet ((go_at_call 29; exact Calls.quiet_of_same (cb _)))
            go_wp2_with (go_at_call 29; refine (cb _).mono ?_; rintro e w' ⟨rfl, rfl⟩)
            go_roundg (xs.length - (k + 1))
            case measure => rw [HG.out]; omega
            case rel => exact ⟨k + 1, by omega, rfl, by rw [← e1.out], by rw [← e2.out], by go_num, below_drewN hB.out _⟩
          · have hs : sz < rung x := by omega
            rw [decide_eq_true hs] at ho
            clear hy hs
            go_wp2
            go_quiet ((go_at_call 29; exact Calls.quiet_of_same (cb _)))
            go_wp2_with (go_at_call 29; refine (cb _).mono ?_; rintro e w' ⟨rfl, rfl⟩)
            go_roundg (xs.length - (k + 1))
            case measure => rw [HG.out]; omega
            case rel => exact ⟨k + 1, by omega, rfl, by rw [← e1.out], by rw [← e2.out], by go_num, below_drewN hB.out _⟩
        · have HS := HO.out (Or.inr (by omega))
          have hs : ¬ sz < rung x := by omega
          have ha : ¬ at_ < 0 := by omega
          have e1 : Hid (at_ = (msL xs (k + 1)).1) := (show _ = _ by rw [HS])
          have e2 : Hid (sz = (msL xs (k + 1)).2) := (show _ = _ by rw [HS])
          rw [decide_eq_false hs] at ho
          clear HY HO HS hy hs
          go_wp2
          go_quiet ((go_at_call 29; exact Calls.quiet_of_same (cb _)))
          go_wp2_with (go_at_call 29; refine (cb _).mono ?_; rintro e w' ⟨rfl, rfl⟩)
          go_roundg (xs.length - (k + 1))
          case measure => rw [HG.out]; omega
          case rel => exact ⟨k + 1, by omega, rfl, by rw [← e1.out], by rw [← e2.out], by go_num, below_drewN hB.out _⟩
      · rw [hnan] at na
        have HS := HO.out (Or.inl hnan)
        have e1 : Hid (at_ = (msL xs (k + 1)).1) := (show _ = _ by rw [HS])
        have e2 : Hid (sz = (msL xs (k + 1)).2) := (show _ = _ by rw [HS])
        clear HY HO HS
        go_wp2
        go_quiet ((go_at_call 29; exact Calls.quiet_of_same (cb _)))
        go_wp2
        go_roundg (xs.length - (k + 1))
        case measure => rw [HG.out]; omega
        case rel => exact ⟨k + 1, by omega, rfl, by rw [← e1.out], by rw [← e2.out], by go_num, below_drewN hB.out _⟩
    · have ek : k = xs.length := by omega
      subst ek
      have i1 : ¬ (xs.length : Int) < (xs.length : Int) := by omega
      go_wp2
      exact bodyPost_ret (v := .tuple #[.int .i64 (msL xs xs.length).1, .float .f64 (msL xs xs.length).2]) (by simp [results, Try.results21, go_sem]) rfl ⟨rfl, hB.out⟩
end Go.Proofs.Ytojdlheblnjoiaa
