/- Ratios: isOne, fits, Put, answer. -/
import Derived.Test.YtmcnnnmlacpppaaDoorRta
namespace Go.Proofs.YtmcnnnmlacpppaaDoor
open Go.RowKit

/-- So many limbs as a right ratio may have, the last one not 0. -/
def fitB (xs : List Nat) : Bool := decide (0 < xs.length) && decide (xs.length ≤ 256) && decide (xs.getD (xs.length - 1) 0 ≠ 0)
set_option maxHeartbeats 400000 in
theorem isOne_any (xs : List Nat) (ao : Option Addr) (cap : Nat) (w : World) (hr : LRow w ao xs) :
    Calls Tryd.prog 52 #[.slice ao xs.length cap] w fun e w' => e = .returned (.bool (decide (xs = [1]))) ∧ w' = w := by
  by_cases h1 : xs.length = 1
  · obtain ⟨x, rfl⟩ : ∃ x, xs = [x] := by
      cases xs with
      | nil => simp at h1
      | cons a l =>
        cases l with
        | nil => exact ⟨a, rfl⟩
        | cons b l => simp at h1
    rcases hr with h | ⟨b, o, rfl, hc⟩
    · simp at h
    have g := hc 0 (by simp)
    simp only [List.getD_cons_zero, Nat.add_zero] at g
    have HE : Hid (decide ([x] = [1]) = ((x : Int) == 1)) := (show _ = _ by
      by_cases h : x = 1
      · subst h; rfl
      · rw [decide_eq_false (by simpa using h), eq_comm]; simp; omega)
    rw [HE.out]
    simp only [List.length_cons, List.length_nil]
    clear hc h1 HE
    go_enter Tryd.func52, Tryd.ntmps52
    go_wp2
    go_ret
    exact ⟨rfl, rfl⟩
  · have t1 : ((xs.length : Int) == 1) = false := by simp; omega
    have HE : Hid (decide (xs = [1]) = false) := decide_eq_false fun h => h1 (by rw [h]; rfl)
    rw [HE.out]
    clear HE
    go_enter Tryd.func52, Tryd.ntmps52
    go_wp2
    go_ret
    exact ⟨rfl, rfl⟩
set_option maxHeartbeats 400000 in
theorem fits_any (xs : List Nat) (ao : Option Addr) (cap : Nat) (w : World) (hr : LRow w ao xs) :
    Calls Tryd.prog 53 #[.slice ao xs.length cap] w fun e w' => e = .returned (.bool (fitB xs)) ∧ w' = w := by
  by_cases h0 : 0 < xs.length
  · by_cases h1 : xs.length ≤ 256
    · rcases hr with h | ⟨b, o, rfl, hc⟩
      · omega
      have g := hc (xs.length - 1) (by omega)
      obtain ⟨n, hn⟩ : ∃ n, xs.length - 1 = n := ⟨_, rfl⟩
      obtain ⟨x, hx⟩ : ∃ x, xs.getD (xs.length - 1) 0 = x := ⟨_, rfl⟩
      have HE : Hid (fitB xs = ((x : Int) != 0)) := (show _ = _ by
        unfold fitB
        rw [decide_eq_true h0, decide_eq_true h1, hx, Bool.true_and, Bool.true_and]
        by_cases h : x = 0
        · subst h; rfl
        · rw [decide_eq_true h, eq_comm]; simp; omega)
      rw [HE.out]
      rw [hx, hn] at g
      have i1 : (xs.length : Int) - 1 = (n : Int) := by omega
      have i2 : (n : Int) < (xs.length : Int) := by omega
      have i3 : (0 : Int) < (xs.length : Int) := by omega
      have i4 : (xs.length : Int) ≤ 256 := by omega
      have i5 : n < xs.length := by omega
      have w1 : IntKind.i64.wrap (n : Int) = (n : Int) := by rw [IntKind.wrap_i64]; omega
      clear hc HE hx hn
      go_enter Tryd.func53, Tryd.ntmps53
      go_wp2
      go_ret
      exact ⟨rfl, rfl⟩
    · have HE : Hid (fitB xs = false) := (show _ = _ by unfold fitB; rw [decide_eq_false h1, Bool.and_false, Bool.false_and])
      rw [HE.out]
      have i3 : (0 : Int) < (xs.length : Int) := by omega
      have i4 : ¬ (xs.length : Int) ≤ 256 := by omega
      clear HE
      go_enter Tryd.func53, Tryd.ntmps53
      go_wp2
      go_ret
      exact ⟨rfl, rfl⟩
  · have HE : Hid (fitB xs = false) := (show _ = _ by unfold fitB; rw [decide_eq_false h0, Bool.false_and, Bool.false_and])
    rw [HE.out]
    have i3 : ¬ (0 : Int) < (xs.length : Int) := by omega
    clear HE
    go_enter Tryd.func53, Tryd.ntmps53
    go_wp2
    go_ret
    exact ⟨rfl, rfl⟩
set_option maxHeartbeats 1000000 in
theorem lput_any (xs : List Nat) (ao : Option Addr) (cap : Nat) (w : World) (h : LS w ao cap xs) (hL : Lm xs) (hn : xs.length ≤ 100000) :
    Calls Tryd.prog 51 #[.int .i64 0, .slice ao xs.length cap] w (GaveLW w (vl xs)) := by
  have ct := trimL_any xs ao cap w h hL (by omega)
  have hT := h.trim hL
  have nle := nlW_le hL
  generalize vl xs = z at *
  have hl := lo_length z
  obtain ⟨n, en⟩ : ∃ n, nl z = n := ⟨_, rfl⟩
  unfold GaveLW
  rw [en] at ct hl nle ⊢
  obtain ⟨ts, ets⟩ : ∃ ts, lo z = ts := ⟨_, rfl⟩
  rw [ets] at hT hl ⊢
  clear ets en
  by_cases h0 : n = 0
  · subst h0
    go_enter Tryd.func51, Tryd.ntmps51
    go_wp2_with (go_at_call 43; refine ct.mono ?_; rintro e w' ⟨rfl, hww⟩; subst w')
    go_ret
    exact ⟨none, 0, rfl, ⟨Or.inl hl, by omega, fun _ => rfl⟩, Below.refl _ _⟩
  · have t1 : ((n : Int) == 0) = false := by simp; omega
    have hmk := run_make_row' (P := Tryd.prog) 23 22 (.int .u64 0) 8 Tryd.underlying23 Tryd.infoU rfl .i64 .i64 n (by omega) (by omega)
    have hmade := FRow.made w n
    have hbm : Below w.heap.size w (w.alloc (.cells (madeCells #[.int .u64 0] n) 22)) := (Below.refl _ _).alloc (Nat.le_refl _) _
    rcases hT.1 with hc | ⟨b, o, rfl, hc⟩
    · omega
    go_enter Tryd.func51, Tryd.ntmps51
    go_wp2_with (go_at_call 43; refine ct.mono ?_; rintro e w' ⟨rfl, hww⟩; subst w')
    clear hmk ct
    go_loopg [19] n (fun g i wr => ∃ k : Nat, k ≤ n ∧ g = n - k ∧ i = .int .i64 k ∧ FRow wr w.heap.size n (fun j => if j < k then ts.getD j 0 else 0) ∧ Below w.heap.size w wr)
    case atStart => exact ⟨0, Nat.zero_le _, rfl, rfl, hmade.congr (fun j _ => by simp), hbm⟩
    case round =>
      obtain ⟨k, hk, hg, rfl, hrow, hb⟩ := hrel
      clear hmade hbm
      by_cases hlt : k < n
      · have g0 := hc k (by omega)
        have g1 : wr.cell? ⟨b, o + k, none⟩ = some (.int .u64 (ts.getD k 0 : Nat)) := by rw [hb.cell (World.block_lt_of_cell? w _ g0)]; exact g0
        have hcell : wr.cell? ⟨w.heap.size, k, none⟩ = some (.int .u64 ((if k < k then ts.getD k 0 else 0 : Nat) : Int)) := World.rowIs.cell hrow hlt
        have hfro := World.rowIs.frozen hrow k
        rw [if_neg (by omega)] at hcell
        have hset := hrow.set k (ts.getD k 0)
        obtain ⟨x, ex⟩ : ∃ x, ts.getD k 0 = x := ⟨_, rfl⟩
        rw [ex] at g1 hset
        have EX : Hid _ := ex
        have hbs := hb.setCell (p := ⟨w.heap.size, k, none⟩) (Nat.le_refl _) (.int .u64 ((x : Nat) : Int))
        clear hrow hb g0 ex
        go_wp2
        go_roundg (n - (k + 1))
        case measure => omega
        case rel =>
          refine ⟨k + 1, by omega, rfl, by go_num, hset.congr (fun j hj => ?_), hbs⟩
          by_cases hjk : j = k
          · subst hjk; rw [if_pos rfl, if_pos (by omega), EX.out]
          · rw [if_neg hjk]
            by_cases h : j < k
            · rw [if_pos h, if_pos (by omega)]
            · rw [if_neg h, if_neg (by omega)]
      · have hkn : k = n := by omega
        subst hkn
        go_wp2
        go_ret
        exact ⟨_, _, rfl, ⟨FRow.lrow hrow hl (fun j hj => by rw [if_pos hj]), by omega, fun e => by cases e⟩, hb⟩
end Go.Proofs.YtmcnnnmlacpppaaDoor
