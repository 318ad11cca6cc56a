/- What cmpSizes answers. -/
import Derived.Test.YtokfkooffbihcaaDoorDm
import Derived.Deep.RegionHeld3
namespace Go.Proofs.YtokfkooffbihcaaDoor
open Go.RowKit

theorem cmpI_lt {x y : Int} (h : x < y) : cmpI x y = -1 := by unfold cmpI; rw [if_pos h]
theorem cmpI_gt {x y : Int} (h : y < x) : cmpI x y = 1 := by unfold cmpI; rw [if_neg (by omega), if_pos h]
theorem cmpI_eq {x y : Int} (h : x = y) : cmpI x y = 0 := by unfold cmpI; rw [if_neg (by omega), if_neg (by omega)]
theorem cmpI_zero {x y : Int} (h : cmpI x y = 0) : x = y := by unfold cmpI at h; (repeat' split at h) <;> omega
/-- Six cells read anew behind a call. -/
theorem six_on {w1 w2 : World} (h : Below w1.heap.size w1 w2) {p q : Nat} {x0 x1 x2 y0 y1 y2 : Value}
    (hc : w1.cell? ⟨p, 0, none⟩ = some x0 ∧ w1.cell? ⟨p, 1, none⟩ = some x1 ∧ w1.cell? ⟨p, 2, none⟩ = some x2 ∧ w1.cell? ⟨q, 0, none⟩ = some y0 ∧ w1.cell? ⟨q, 1, none⟩ = some y1 ∧ w1.cell? ⟨q, 2, none⟩ = some y2) :
    w2.cell? ⟨p, 0, none⟩ = some x0 ∧ w2.cell? ⟨p, 1, none⟩ = some x1 ∧ w2.cell? ⟨p, 2, none⟩ = some x2 ∧ w2.cell? ⟨q, 0, none⟩ = some y0 ∧ w2.cell? ⟨q, 1, none⟩ = some y1 ∧ w2.cell? ⟨q, 2, none⟩ = some y2 := by
  have one : ∀ (b o : Nat) (v : Value), w1.cell? ⟨b, o, none⟩ = some v → w2.cell? ⟨b, o, none⟩ = some v := fun b o v hc => by
    rw [h.cell (World.block_lt_of_cell? w1 _ hc)]; exact hc
  exact ⟨one _ _ _ hc.1, one _ _ _ hc.2.1, one _ _ _ hc.2.2.1, one _ _ _ hc.2.2.2.1, one _ _ _ hc.2.2.2.2.1, one _ _ _ hc.2.2.2.2.2⟩
theorem two_box (w : World) (x0 x1 x2 y0 y1 y2 : Value) (s t : TypeId) :
    let W := ((w.alloc (.cells #[x0, x1, x2] s)).alloc (.cells #[y0, y1, y2] t)).drew
    W.cell? ⟨w.heap.size, 0, none⟩ = some x0 ∧ W.cell? ⟨w.heap.size, 1, none⟩ = some x1 ∧ W.cell? ⟨w.heap.size, 2, none⟩ = some x2 ∧ W.cell? ⟨w.heap.size + 1, 0, none⟩ = some y0 ∧ W.cell? ⟨w.heap.size + 1, 1, none⟩ = some y1 ∧ W.cell? ⟨w.heap.size + 1, 2, none⟩ = some y2 := by
  refine ⟨?_, ?_, ?_, ?_, ?_, ?_⟩ <;> go_simp

set_option maxHeartbeats 4000000 in
theorem cmpSizes_any (a b : Dy) (ao bo : Option Addr) (cap bcap : Nat) (w : World) (hr : LRow w ao a.mag) (hs : LRow w bo b.mag) (la : Lm a.mag) (lb : Lm b.mag) (na : a.mag.length ≤ 256) (nb : b.mag.length ≤ 256)
    (a0 : vl a.mag ≠ 0) (b0 : vl b.mag ≠ 0) (ea : -65536 ≤ a.exp) (ea2 : a.exp ≤ 65536) (eb : -65536 ≤ b.exp) (eb2 : b.exp ≤ 65536) :
    Calls Tryd.prog 25 #[.agg #[.bool a.neg, .slice ao a.mag.length cap, .int .i64 a.exp], .agg #[.bool b.neg, .slice bo b.mag.length bcap, .int .i64 b.exp]] w fun e w' => e = .returned (.int .i64 (cmpI (sz a) (sz b))) ∧ Below w.heap.size w w' := by
  obtain ⟨N, hN⟩ : ∃ N, max a.mag.length b.mag.length = N := ⟨_, rfl⟩
  have hba : bl (vl a.mag) ≤ 64 * N := bl_limbs la (by omega)
  have hbb : bl (vl b.mag) ≤ 64 * N := bl_limbs lb (by omega)
  have hN2 : N ≤ 256 := by omega
  have HT : Hid (bl (sz a) = (bl (vl a.mag) : Int) + a.exp + 65536 ∧ bl (sz b) = (bl (vl b.mag) : Int) + b.exp + 65536) := ⟨bl_sz a0 ea, bl_sz b0 eb⟩
  have HC : Hid ((bl (vl a.mag) : Int) + a.exp = bl (vl b.mag) + b.exp → (upA (vl a.mag) N < upA (vl b.mag) N → sz a < sz b) ∧ (upA (vl b.mag) N < upA (vl a.mag) N → sz b < sz a) ∧ (upA (vl a.mag) N = upA (vl b.mag) N → sz a = sz b)) := cmp_top a0 b0 ea eb hba hbb
  have HU : Hid (upA (vl a.mag) N < 2 ^ (64 * N) ∧ upA (vl b.mag) N < 2 ^ (64 * N)) := ⟨upA_lt hba, upA_lt hbb⟩
  obtain ⟨n1, m1, e1⟩ := a
  obtain ⟨n2, m2, e2⟩ := b
  simp only at *
  have HN : Hid (max m1.length m2.length = N) := hN
  have hNi : max (m1.length : Int) (m2.length : Int) = N := by omega
  clear hN
  go_enter Tryd.func25, Tryd.ntmps25
  have hrW := fun o1 o2 => ((hr.alloc o1).alloc o2).drew
  have hsW := fun o1 o2 => ((hs.alloc o1).alloc o2).drew
  go_upto_region 1 with fail
  go_cut [11, 12, 13, 14, 15, 5] (fun _ _ _ _ _ s wx => s = .int .i64 (cmpI ((bl (vl m1) : Int) + e1) ((bl (vl m2) : Int) + e2)) ∧ Below ((w.alloc (.cells #[.bool n1, .slice ao m1.length cap, .int .i64 e1] 24)).alloc (.cells #[.bool n2, .slice bo m2.length bcap, .int .i64 e2] 24)).heap.size ((w.alloc (.cells #[.bool n1, .slice ao m1.length cap, .int .i64 e1] 24)).alloc (.cells #[.bool n2, .slice bo m2.length bcap, .int .i64 e2] 24)) wx)
  case first =>
    go_region_held3 (fun w' => w'.cell? ⟨w.heap.size, 0, none⟩ = some (.bool n1) ∧ w'.cell? ⟨w.heap.size, 1, none⟩ = some (.slice ao m1.length cap) ∧ w'.cell? ⟨w.heap.size, 2, none⟩ = some (.int .i64 e1) ∧ w'.cell? ⟨w.heap.size + 1, 0, none⟩ = some (.bool n2) ∧ w'.cell? ⟨w.heap.size + 1, 1, none⟩ = some (.slice bo m2.length bcap) ∧ w'.cell? ⟨w.heap.size + 1, 2, none⟩ = some (.int .i64 e2)) (go_keep)
      (first | (go_at_call 24; refine (cmpInt_any _ _ _).mono ?_; rintro e w' ⟨rfl, hww⟩; subst hww) | (go_at_call_of 42 (Value.agg #[Value.bool n1, Value.slice ao m1.length cap, Value.int IntKind.i64 e1]); refine (top_any ⟨n1, m1, e1⟩ ao cap _ (by first | assumption | exact hrW _ _) la (by simp only; omega) (by simp only; omega) (by simp only; omega)).mono ?_; rintro e wa ⟨rfl, ha⟩; have ka : LRow wa bo m2 := LRow.below (by first | assumption | exact hsW _ _) ha; have ka' : LRow wa ao m1 := LRow.below (by first | assumption | exact hrW _ _) ha; obtain ⟨c0, c1, c2, d0, d1, d2⟩ := six_on (p := w.heap.size) (q := w.heap.size + 1) ha (by first | exact two_box _ _ _ _ _ _ _ _ _ | (refine ⟨?_, ?_, ?_, ?_, ?_, ?_⟩ <;> assumption))) | (go_at_call_of 42 (Value.agg #[Value.bool n2, Value.slice bo m2.length bcap, Value.int IntKind.i64 e2]); refine (top_any ⟨n2, m2, e2⟩ bo bcap _ (by first | assumption | exact hsW _ _) lb (by simp only; omega) (by simp only; omega) (by simp only; omega)).mono ?_; rintro e wb ⟨rfl, hb⟩; have kb : LRow wb ao m1 := LRow.below (by first | assumption | exact hrW _ _) hb; have kb' : LRow wb bo m2 := LRow.below (by first | assumption | exact hsW _ _) hb; obtain ⟨c0, c1, c2, d0, d1, d2⟩ := six_on (p := w.heap.size) (q := w.heap.size + 1) hb (by first | exact two_box _ _ _ _ _ _ _ _ _ | (refine ⟨?_, ?_, ?_, ?_, ?_, ?_⟩ <;> assumption))))
    all_goals go_wp2_with fail
    all_goals go_meet
    all_goals first | exact ⟨rfl, (undrew ha).trans (hb.mono (undrew ha).size)⟩ | exact ⟨rfl, (undrew hb).trans (ha.mono (undrew hb).size)⟩
  case rest =>
    obtain ⟨rfl, hbx⟩ := hcut
    obtain ⟨wq, hwq⟩ : ∃ wq, wq = wc := ⟨_, rfl⟩
    subst hwq
    obtain ⟨⟨c0, c1, c2⟩, ⟨d0, d1, d2⟩, _⟩ := box2 hbx
    have hold := box2_old hbx
    have hrx : LRow wq ao m1 := ((hr.alloc _).alloc _).below hbx
    have hsx : LRow wq bo m2 := ((hs.alloc _).alloc _).below hbx
    have hend : ∀ n, Below w.heap.size w (wq.drewN n) := fun n => ⟨hold.os, hold.tape, hold.output, hold.size, hold.block⟩
    clear hr hs hrW hsW hbx
    by_cases ht : (bl (vl m1) : Int) + e1 = (bl (vl m2) : Int) + e2
    · have h0 : cmpI ((bl (vl m1) : Int) + e1) ((bl (vl m2) : Int) + e2) = 0 := cmpI_eq ht
      have HC2 : Hid _ := HC.out ht
      have HH : Hid (upA (vl m1) N / 2 ^ (64 * N) = upA (vl m2) N / 2 ^ (64 * N)) := (show _ = _ by rw [Nat.div_eq_of_lt HU.out.1, Nat.div_eq_of_lt HU.out.2])
      clear ht HC HT
      go_wp2
      go_quiet (first | (go_at_call_of 31 (Value.slice ao m1.length cap); exact Calls.quiet_of_same (bitLen_any m1 _ _ _ hrx la (by omega))) | (go_at_call_of 31 (Value.slice bo m2.length bcap); exact Calls.quiet_of_same (bitLen_any m2 _ _ _ hsx lb (by omega))))
      clear h0
      go_upto_region 5 with fail
      go_cut [25, 26, 27, 28, 29, 30, 31, 32] (fun _ _ _ _ _ _ t z wx => t = .int .i64 N ∧ z = .int .i64 0 ∧ ∃ n, wx = wq.drewN n)
      case first =>
        go_wp2_with fail
        all_goals
          go_meet
          exact ⟨by have := HN.out; congr 1; omega, rfl, _, rfl⟩
      obtain ⟨rfl, rfl, nz, rfl⟩ := hcut
      go_wp2
      go_loopg [32] N (fun g i wr => ∃ k : Nat, k ≤ N ∧ g = N - k ∧ i = .int .i64 k ∧ Hid (upA (vl m1) N / 2 ^ (64 * (N - k)) = upA (vl m2) N / 2 ^ (64 * (N - k))) ∧ LRow wr ao m1 ∧ LRow wr bo m2 ∧ wr.cell? ⟨w.heap.size, 1, none⟩ = some (.slice ao m1.length cap) ∧ wr.cell? ⟨w.heap.size + 1, 1, none⟩ = some (.slice bo m2.length bcap) ∧ Below w.heap.size w wr)
      case atStart => exact ⟨0, Nat.zero_le _, rfl, rfl, HH, hrx, hsx, c1, d1, hend _⟩
      case round =>
        obtain ⟨k, hk, hg, rfl, hz, hry, hsy, k1, k2, hby⟩ := hrel
        have hen2 : ∀ n, Below w.heap.size w (wr.drewN n) := fun n => ⟨hby.os, hby.tape, hby.output, hby.size, hby.block⟩
        clear hrx hsx c0 c1 c2 d0 d1 d2 hold hend
        by_cases hlt : k < N
        · have HA : Hid (win (vl m1) ((bl (vl m1) : Int) - ((k : Int) + 1) * 64) = upA (vl m1) N / 2 ^ (64 * (N - 1 - k)) % 18446744073709551616) := win_top hba hlt
          have HB : Hid (win (vl m2) ((bl (vl m2) : Int) - ((k : Int) + 1) * 64) = upA (vl m2) N / 2 ^ (64 * (N - 1 - k)) % 18446744073709551616) := win_top hbb hlt
          have hstep := top_step (A := upA (vl m1) N) (B := upA (vl m2) N) (j := N - 1 - k) (by rw [show N - 1 - k + 1 = N - k by omega]; exact hz.out)
          have hstep2 := top_step (A := upA (vl m2) N) (B := upA (vl m1) N) (j := N - 1 - k) (by rw [show N - 1 - k + 1 = N - k by omega]; exact hz.out.symm)
          have wA := win_lt (vl m1) ((bl (vl m1) : Int) - ((k : Int) + 1) * 64)
          have wB := win_lt (vl m2) ((bl (vl m2) : Int) - ((k : Int) + 1) * 64)
          obtain ⟨x, hx⟩ : ∃ x, win (vl m1) ((bl (vl m1) : Int) - ((k : Int) + 1) * 64) = x := ⟨_, rfl⟩
          obtain ⟨y, hy⟩ : ∃ y, win (vl m2) ((bl (vl m2) : Int) - ((k : Int) + 1) * 64) = y := ⟨_, rfl⟩
          have HA2 : Hid (x = upA (vl m1) N / 2 ^ (64 * (N - 1 - k)) % 18446744073709551616) := (show _ = _ by rw [← hx]; exact HA.out)
          have HB2 : Hid (y = upA (vl m2) N / 2 ^ (64 * (N - 1 - k)) % 18446744073709551616) := (show _ = _ by rw [← hy]; exact HB.out)
          rw [← HA2.out, ← HB2.out] at hstep hstep2
          have w1 := fun w' => window_any m1 ao cap ((bl (vl m1) : Int) - ((k : Int) + 1) * 64) w'
          have w2 := fun w' => window_any m2 bo bcap ((bl (vl m2) : Int) - ((k : Int) + 1) * 64) w'
          rw [hx] at w1
          rw [hy] at w2
          have HW1 : Hid _ := w1
          have HW2 : Hid _ := w2
          have HS1 : Hid _ := hstep
          have HS2 : Hid _ := hstep2
          clear HA HB hx hy wA wB hz w1 w2 hstep hstep2
          have hwr1 : IntKind.i64.wrap ((bl (vl m1) : Int) - ((k : Int) + 1) * 64) = (bl (vl m1) : Int) - ((k : Int) + 1) * 64 := by rw [IntKind.wrap_i64]; omega
          have hwr2 : IntKind.i64.wrap ((bl (vl m2) : Int) - ((k : Int) + 1) * 64) = (bl (vl m2) : Int) - ((k : Int) + 1) * 64 := by rw [IntKind.wrap_i64]; omega
          rcases Nat.lt_trichotomy x y with hxy | hxy | hxy
          · have hc : cmpI (x : Int) (y : Int) = -1 := cmpI_lt (by omega)
            have HE : Hid (cmpI (sz ⟨n1, m1, e1⟩) (sz ⟨n2, m2, e2⟩) = -1) := cmpI_lt (by have := HC2.out.1 (HS1.out.2 hxy); omega)
            clear HC2 HS1 HS2 HA2 HB2
            go_wp2
            go_quiet (first | (go_at_call 43; exact Calls.quiet_of_same (cmpU_any _ _ _)) | (go_at_call_of 44 (Value.slice ao m1.length cap); exact Calls.quiet_of_same (HW1.out _ hry la (by omega) (by omega))) | (go_at_call_of 44 (Value.slice bo m2.length bcap); exact Calls.quiet_of_same (HW2.out _ hsy lb (by omega) (by omega))))
            go_wp2
            go_ret
            exact ⟨retI (hc.trans HE.out.symm), hen2 _⟩
          · subst hxy
            have hc : cmpI (x : Int) (x : Int) = 0 := cmpI_eq rfl
            go_wp2
            go_quiet (first | (go_at_call 43; exact Calls.quiet_of_same (cmpU_any _ _ _)) | (go_at_call_of 44 (Value.slice ao m1.length cap); exact Calls.quiet_of_same (HW1.out _ hry la (by omega) (by omega))) | (go_at_call_of 44 (Value.slice bo m2.length bcap); exact Calls.quiet_of_same (HW2.out _ hsy lb (by omega) (by omega))))
            go_wp2
            go_roundg (N - (k + 1))
            case measure => omega
            case rel => exact ⟨k + 1, by omega, rfl, by go_num, (show _ = _ by rw [show N - (k + 1) = N - 1 - k by omega]; exact HS1.out.1 (by first | rfl | trivial)), hry, hsy, k1, k2, hen2 _⟩
          · have hc : cmpI (x : Int) (y : Int) = 1 := cmpI_gt (by omega)
            have HE : Hid (cmpI (sz ⟨n1, m1, e1⟩) (sz ⟨n2, m2, e2⟩) = 1) := cmpI_gt (by have := HC2.out.2.1 (HS2.out.2 hxy); omega)
            clear HC2 HS1 HS2 HA2 HB2
            go_wp2
            go_quiet (first | (go_at_call 43; exact Calls.quiet_of_same (cmpU_any _ _ _)) | (go_at_call_of 44 (Value.slice ao m1.length cap); exact Calls.quiet_of_same (HW1.out _ hry la (by omega) (by omega))) | (go_at_call_of 44 (Value.slice bo m2.length bcap); exact Calls.quiet_of_same (HW2.out _ hsy lb (by omega) (by omega))))
            go_wp2
            go_ret
            exact ⟨retI (hc.trans HE.out.symm), hen2 _⟩
        · have HE : Hid (cmpI (sz ⟨n1, m1, e1⟩) (sz ⟨n2, m2, e2⟩) = 0) := cmpI_eq (by
            have := hz.out
            rw [show N - k = 0 by omega, Nat.mul_zero, Nat.pow_zero, Nat.div_one, Nat.div_one] at this
            have := HC2.out.2.2 this
            omega)
          clear HC2 hz
          go_wp2
          go_ret
          exact ⟨retI HE.out.symm, hby⟩
    · have hb1 := HT.out.1
      have hb2 := HT.out.2
      rcases (show (bl (vl m1) : Int) + e1 < (bl (vl m2) : Int) + e2 ∨ (bl (vl m2) : Int) + e2 < (bl (vl m1) : Int) + e1 by omega) with h | h
      · have h0 : cmpI ((bl (vl m1) : Int) + e1) ((bl (vl m2) : Int) + e2) = -1 := cmpI_lt h
        have HE : Hid (cmpI (sz ⟨n1, m1, e1⟩) (sz ⟨n2, m2, e2⟩) = -1) := cmpI_lt (by have := bl_mono (x := sz ⟨n1, m1, e1⟩) (y := sz ⟨n2, m2, e2⟩) (by omega); omega)
        clear hb1 hb2 ht h HT HC
        go_wp2
        go_ret
        exact ⟨retI (h0.trans HE.out.symm), hold⟩
      · have h0 : cmpI ((bl (vl m1) : Int) + e1) ((bl (vl m2) : Int) + e2) = 1 := cmpI_gt h
        have HE : Hid (cmpI (sz ⟨n1, m1, e1⟩) (sz ⟨n2, m2, e2⟩) = 1) := cmpI_gt (by have := bl_mono (x := sz ⟨n2, m2, e2⟩) (y := sz ⟨n1, m1, e1⟩) (by omega); omega)
        clear hb1 hb2 ht h HT HC
        go_wp2
        go_ret
        exact ⟨retI (h0.trans HE.out.symm), hold⟩
end Go.Proofs.YtokfkooffbihcaaDoor
