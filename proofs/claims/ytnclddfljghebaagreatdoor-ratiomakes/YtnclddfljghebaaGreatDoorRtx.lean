/- limbs.Put at so many places. -/
import Derived.Test.YtnclddfljghebaaGreatDoorQ4
namespace Go.Proofs.YtnclddfljghebaaGreatDoor
open Go.RowKit

theorem vl_noughts : ∀ n : Nat, vl (List.replicate n 0) = 0
  | 0 => rfl
  | n + 1 => by rw [List.replicate_succ, vl, vl_noughts n]
theorem getD_up (L : Nat) (ts : List Nat) (j : Nat) : (List.replicate L 0 ++ ts).getD j 0 = if L ≤ j then ts.getD (j - L) 0 else 0 := by
  simp only [List.getD_eq_getElem?_getD, List.getElem?_append, List.length_replicate, List.getElem?_replicate]
  by_cases q : j < L
  · rw [if_pos q, if_pos q, if_neg (by omega)]; rfl
  · rw [if_neg q, if_pos (by omega)]
theorem lo_up (L : Nat) {z : Nat} (hz : z ≠ 0) : lo (2 ^ (64 * L) * z) = List.replicate L 0 ++ lo z := by
  have e : vl (List.replicate L 0 ++ lo z) = 2 ^ (64 * L) * z := by
    rw [vl_append, vl_noughts, vl_lo, List.length_replicate, Nat.zero_add]
  rw [← e]
  have hl := lo_length z
  have hp : nl z ≠ 0 := fun h => hz (by have := vl_lo z; rw [List.length_eq_zero_iff.1 (hl.trans h)] at this; exact this.symm)
  refine lo_vl (fun x hx => ?_) (Or.inr ?_)
  · rcases List.mem_append.1 hx with h | h
    · rw [(List.mem_replicate.1 h).2]; omega
    · exact lo_lm z x h
  · have := (lo_last hz).1
    rw [List.length_append, List.length_replicate, getD_up, if_pos (by omega)]
    rw [show L + (lo z).length - 1 - L = (lo z).length - 1 by omega]
    exact this
set_option maxHeartbeats 1000000 in
theorem lputn_any (L : Nat) (xs : List Nat) (ao : Option Addr) (cap : Nat) (w : World) (h : LS w ao cap xs) (hL : Lm xs) (hn : xs.length ≤ 100000) (hl0 : L ≤ 100000) :
    Calls Tryz.prog 75 #[.int .i64 L, .slice ao xs.length cap] w (GaveLW w (2 ^ (64 * L) * vl xs)) := by
  have ct := trimL_any xs ao cap w h hL (by omega)
  have hT := h.trim hL
  have nle := nlW_le hL
  generalize vl xs = z at *
  have hl := lo_length z
  by_cases h0 : nl z = 0
  · have hz : z = 0 := by have := vl_lo z; rw [List.length_eq_zero_iff.1 (hl.trans h0)] at this; exact this.symm
    subst hz
    rw [Nat.mul_zero]
    unfold GaveLW
    rw [h0] at ct hl
    go_enter Tryz.func75, Tryz.ntmps75
    go_wp2_with (go_at_call 35; refine ct.mono ?_; rintro e w' ⟨rfl, hww⟩; subst w')
    go_ret
    exact ⟨none, 0, by rw [h0]; rfl, ⟨Or.inl hl, by omega, fun _ => rfl⟩, Below.refl _ _⟩
  · have hz : z ≠ 0 := fun e => h0 (by rw [e]; rfl)
    have eup := lo_up L hz
    have elen : nl (2 ^ (64 * L) * z) = L + nl z := by rw [← lo_length, eup, List.length_append, List.length_replicate, hl]
    unfold GaveLW
    rw [eup, elen]
    clear eup elen hz
    obtain ⟨n, en⟩ : ∃ n, nl z = n := ⟨_, rfl⟩
    rw [en] at ct hl nle h0 ⊢
    obtain ⟨ts, ets⟩ : ∃ ts, lo z = ts := ⟨_, rfl⟩
    rw [ets] at hT hl ⊢
    clear ets en
    have t1 : ((n : Int) == 0) = false := by simp; omega
    have hmk := run_make_row' (P := Tryz.prog) 22 46 (.int .u64 0) 8 Tryz.underlying22 Tryz.infoU rfl .i64 .i64 (L + n) (by omega) (by omega)
    rw [show ((L + n : Nat) : Int) = (L : Int) + (n : Int) by omega] at hmk
    have hmade := FRow.made w (L + n)
    have hbm : Below w.heap.size w (w.alloc (.cells (madeCells #[.int .u64 0] (L + n)) 46)) := (Below.refl _ _).alloc (Nat.le_refl _) _
    rcases hT.1 with hc | ⟨b, o, rfl, hc⟩
    · omega
    go_enter Tryz.func75, Tryz.ntmps75
    go_wp2_with (go_at_call 35; refine ct.mono ?_; rintro e w' ⟨rfl, hww⟩; subst w')
    clear hmk ct
    go_loopg [19] n (fun g i wr => ∃ k : Nat, k ≤ n ∧ g = n - k ∧ i = .int .i64 k ∧ FRow wr w.heap.size (L + n) (fun j => if L ≤ j ∧ j < L + k then ts.getD (j - L) 0 else 0) ∧ Below w.heap.size w wr)
    case atStart => exact ⟨0, Nat.zero_le _, rfl, rfl, hmade.congr (fun j _ => by rw [if_neg (by omega)]), hbm⟩
    case round =>
      obtain ⟨k, hk, hg, rfl, hrow, hb⟩ := hrel
      clear hmade hbm
      by_cases hlt : k < n
      · have g0 := hc k (by omega)
        have g1 : wr.cell? ⟨b, o + k, none⟩ = some (.int .u64 (ts.getD k 0 : Nat)) := by rw [hb.cell (World.block_lt_of_cell? w _ g0)]; exact g0
        have hcell : wr.cell? ⟨w.heap.size, L + k, none⟩ = some (.int .u64 ((if L ≤ L + k ∧ L + k < L + k then ts.getD (L + k - L) 0 else 0 : Nat) : Int)) := World.rowIs.cell hrow (by omega)
        have hfro := World.rowIs.frozen hrow (L + k)
        rw [if_neg (by omega)] at hcell
        have hset := hrow.set (L + k) (ts.getD k 0)
        obtain ⟨x, ex⟩ : ∃ x, ts.getD k 0 = x := ⟨_, rfl⟩
        rw [ex] at g1 hset
        have EX : Hid _ := ex
        have hbs := hb.setCell (p := ⟨w.heap.size, L + k, none⟩) (Nat.le_refl _) (.int .u64 ((x : Nat) : Int))
        clear hrow hb g0 ex
        go_wp2
        go_roundg (n - (k + 1))
        case measure => omega
        case rel =>
          refine ⟨k + 1, by omega, rfl, by go_num, hset.congr (fun j hj => ?_), hbs⟩
          by_cases hjk : j = L + k
          · subst hjk; rw [if_pos rfl, if_pos (by omega), Nat.add_sub_cancel_left, EX.out]
          · rw [if_neg hjk]
            by_cases h : L ≤ j ∧ j < L + k
            · rw [if_pos h, if_pos (by omega)]
            · rw [if_neg h, if_neg (by omega)]
      · have hkn : k = n := by omega
        subst hkn
        go_wp2
        go_ret
        refine ⟨_, _, rfl, ⟨FRow.lrow hrow (by rw [List.length_append, List.length_replicate, hl]) (fun j hj => ?_), by simp only [List.length_append, List.length_replicate]; omega, fun e => by cases e⟩, hb⟩
        rw [getD_up]
        by_cases q : L ≤ j
        · rw [if_pos q, if_pos ⟨q, hj⟩]
        · rw [if_neg q, if_neg (by omega)]
end Go.Proofs.YtnclddfljghebaaGreatDoor
