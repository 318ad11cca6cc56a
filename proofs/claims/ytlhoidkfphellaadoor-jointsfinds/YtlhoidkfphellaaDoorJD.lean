/- JointsChecks. -/
import Derived.Test.YtlhoidkfphellaaDoorJA
import Derived.Test.YtlhoidkfphellaaDoorJB
import Derived.Test.YtlhoidkfphellaaDoorJC
namespace Go.Proofs.YtlhoidkfphellaaDoor
open Go.RowKit

theorem dnear_any (x : Int) (w : World) : Calls Tryd.prog 53 #[.int .i32 x] w fun e w' => e = .returned (.bool (crB x)) ∧ w' = w := by
  go_enter Tryd.func53, Tryd.ntmps53
  by_cases p : (-1048576 : Int) ≤ x
  · by_cases q : x ≤ (1048576 : Int)
    · have Hc : Hid (crB x = true) := (show _ = _ by unfold crB; simp; omega)
      go_wp2
      go_ret
      exact ⟨by rw [Hc.out]; rfl, rfl⟩
    · have Hc : Hid (crB x = false) := (show _ = _ by unfold crB; simp; omega)
      go_wp2
      go_ret
      exact ⟨by rw [Hc.out]; rfl, rfl⟩
  · have Hc : Hid (crB x = false) := (show _ = _ by unfold crB; simp; omega)
    go_wp2
    go_ret
    exact ⟨by rw [Hc.out]; rfl, rfl⟩
set_option maxHeartbeats 1000000 in
theorem dfind_any (js : List Jn) (s : ByteArray) (ao : Option Addr) (cap : Nat) (w : World) (hr : JRow w ao js) (hn : js.length ≤ 1125899906842624) :
    Calls Tryd.prog 13 #[.slice ao js.length cap, .string s] w fun e w' => e = .returned (.tuple #[.int .i64 ((fdA js s).1 : Nat), .bool (fdA js s).2]) ∧ w' = w := by
  obtain ⟨N, hN⟩ : ∃ N, js.length = N := ⟨_, rfl⟩
  have HN : Hid (js.length = N) := hN
  rw [hN] at hn ⊢
  clear hN
  go_enter Tryd.func13, Tryd.ntmps13
  go_wp2
  go_loopg [6] N (fun g v wr => ∃ k : Nat, k ≤ N ∧ g = N - k ∧ v = .int .i64 k ∧ Hid (∀ i, i < k → fdB js s i = false) ∧ wr = w)
  case atStart => exact ⟨0, by omega, rfl, rfl, (fun i hi => absurd hi (by omega)), rfl⟩
  case round =>
    obtain ⟨k, hk, hg, rfl, hq, rfl⟩ := hrel
    have HG : Hid (gk = N - k) := hg
    clear hg
    by_cases hlt : k < N
    · rcases hr with h | ⟨b, off, rfl, hc⟩
      · exact absurd (HN.out ▸ h) (by omega)
      · have hkl : k < js.length := by rw [HN.out]; exact hlt
        obtain ⟨g0, g1, g2, g3⟩ := hc k hkl
        obtain ⟨⟨t, x, y, f⟩, ex⟩ : ∃ j, js.getD k jz = j := ⟨_, rfl⟩
        rw [ex] at g0 g1 g2 g3
        simp only at g0 g1 g2 g3
        clear hc
        have i2 : (k : Int) < (N : Int) := by omega
        have HF : Hid (fdB js s k = decide (t = s)) := (show _ = _ by unfold fdB; rw [ex])
        have HB : Hid (fdB js s k = true → fdA js s = (k, true)) := fun q => fd_some hkl hq.out q
        by_cases e : t = s
        · have Hc : Hid (fdA js s = (k, true)) := HB.out (by rw [HF.out]; simp [e])
          clear HF HB ex
          subst e
          go_wp2
          go_ret2
          exact ⟨by rw [Hc.out]; rfl, rfl⟩
        · have HQ : Hid (∀ i, i < k + 1 → fdB js s i = false) := fun i hi => by
            rcases (show i < k ∨ i = k by omega) with h | rfl
            · exact hq.out i h
            · rw [HF.out]; simp [e]
          have e2 := txt_ne e
          clear HF HB ex e
          go_wp2
          go_roundg (N - (k + 1))
          case measure => rw [HG.out]; omega
          case rel => exact ⟨k + 1, by omega, rfl, by go_num, HQ, rfl⟩
    · have e : k = js.length := by have := HN.out; omega
      have Hc : Hid (fdA js s = (0, false)) := fd_none (by rw [← e]; exact hq.out)
      have i2 : ¬ (k : Int) < (N : Int) := by omega
      clear e
      go_wp2
      go_ret2
      exact ⟨by rw [Hc.out]; rfl, rfl⟩
set_option maxHeartbeats 1000000 in
theorem dname_any (s : ByteArray) (hs : s.size ≤ 9223372036854775807) (w : World) :
    Calls Tryd.prog 52 #[.string s] w fun e w' => e = .returned (.bool (nmB s)) ∧ w' = w := by
  obtain ⟨N, hN⟩ : ∃ N, s.size = N := ⟨_, rfl⟩
  have HN : Hid (s.size = N) := hN
  rw [hN] at hs
  go_enter Tryd.func52, Tryd.ntmps52
  by_cases h1 : (N : Int) < 1
  · have Hn : Hid (nmB s = false) := (show _ = _ by unfold nmB; rw [HN.out]; simp; omega)
    go_wp2
    go_ret
    exact ⟨by rw [Hn.out]; rfl, rfl⟩
  by_cases h2 : (8 : Int) < (N : Int)
  · have Hn : Hid (nmB s = false) := (show _ = _ by unfold nmB; rw [HN.out]; simp; omega)
    go_wp2
    go_ret
    exact ⟨by rw [Hn.out]; rfl, rfl⟩
  have Hall : Hid (nmB s = nmK s N) := by
    show _ = _
    unfold nmB
    rw [HN.out]
    have a : 1 ≤ N := by omega
    have b : N ≤ 8 := by omega
    simp [a, b]
  go_wp2
  go_loopg [3] N (fun g v wr => ∃ k : Nat, k ≤ N ∧ g = N - k ∧ v = .int .i64 k ∧ Hid (nmK s k = true) ∧ wr = w)
  case atStart => exact ⟨0, by omega, rfl, rfl, rfl, rfl⟩
  case round =>
    obtain ⟨k, hk, hg, rfl, hq, rfl⟩ := hrel
    have HG : Hid (gk = N - k) := hg
    clear hg h1 h2
    by_cases hp : k < N
    · have i2 : (k : Int) < (N : Int) := by omega
      have hps : k < s.size := by rw [HN.out]; exact hp
      have Hby : Hid (byN s k = (s[k]'hps).toNat) := (show _ = _ by unfold byN; rw [dif_pos hps])
      have Hstep : Hid (nmK s (k + 1) = chB k (byN s k)) := (show _ = _ by unfold nmK; rw [hq.out]; rfl)
      have HB : Hid (chB k (byN s k) = false → nmB s = false) := fun q => by rw [Hall.out]; exact nmK_not hp q
      clear hq hN
      by_cases a1 : (97 : Int) ≤ ((s[k]'hps).toNat : Int)
      · by_cases a2 : ((s[k]'hps).toNat : Int) ≤ (122 : Int)
        · have HQ : Hid (nmK s (k + 1) = true) := (show _ = _ by rw [Hstep.out, Hby.out]; unfold chB lttB; simp; omega)
          have a3 : (48 : Int) ≤ ((s[k]'hps).toNat : Int) := by omega
          have a4 : ¬ ((s[k]'hps).toNat : Int) ≤ (57 : Int) := by omega
          clear Hstep HB Hby
          go_wp2
          go_roundg (N - (k + 1))
          case measure => rw [HG.out]; omega
          case rel => exact ⟨k + 1, by omega, rfl, by go_num, HQ, rfl⟩
        · have Hn : Hid (nmB s = false) := HB.out (by rw [Hby.out]; unfold chB lttB dgtB; rw [Bool.eq_false_iff]; simp; omega)
          have a3 : (48 : Int) ≤ ((s[k]'hps).toNat : Int) := by omega
          have a4 : ¬ ((s[k]'hps).toNat : Int) ≤ (57 : Int) := by omega
          clear Hstep HB Hby
          go_wp2
          go_ret
          exact ⟨by rw [Hn.out]; rfl, rfl⟩
      · by_cases a3 : (48 : Int) ≤ ((s[k]'hps).toNat : Int)
        · by_cases a4 : ((s[k]'hps).toNat : Int) ≤ (57 : Int)
          · by_cases z : k = 0
            · have Hn : Hid (nmB s = false) := HB.out (by rw [Hby.out]; unfold chB lttB dgtB; rw [Bool.eq_false_iff]; simp; omega)
              clear Hstep HB Hby
              subst z
              go_wp2
              go_ret
              exact ⟨by rw [Hn.out]; rfl, rfl⟩
            · have HQ : Hid (nmK s (k + 1) = true) := (show _ = _ by rw [Hstep.out, Hby.out]; unfold chB lttB dgtB; simp; omega)
              clear Hstep HB Hby
              go_wp2
              go_roundg (N - (k + 1))
              case measure => rw [HG.out]; omega
              case rel => exact ⟨k + 1, by omega, rfl, by go_num, HQ, rfl⟩
          · have Hn : Hid (nmB s = false) := HB.out (by rw [Hby.out]; unfold chB lttB dgtB; rw [Bool.eq_false_iff]; simp; omega)
            clear Hstep HB Hby
            go_wp2
            go_ret
            exact ⟨by rw [Hn.out]; rfl, rfl⟩
        · have Hn : Hid (nmB s = false) := HB.out (by rw [Hby.out]; unfold chB lttB dgtB; rw [Bool.eq_false_iff]; simp; omega)
          clear Hstep HB Hby
          go_wp2
          go_ret
          exact ⟨by rw [Hn.out]; rfl, rfl⟩
    · have i2 : ¬ (k : Int) < (N : Int) := by omega
      have e : k = N := by omega
      have HS : Hid (nmB s = true) := (show _ = _ by rw [Hall.out, ← e]; exact hq.out)
      clear hq e
      go_wp2
      go_ret
      exact ⟨by rw [HS.out]; rfl, rfl⟩
set_option maxHeartbeats 1000000 in
theorem dmay_any (j : Jn) (hj : JW j) (w : World) :
    Calls Tryd.prog 31 #[jV j] w fun e w' => e = .returned (.bool (myB j)) ∧ Below w.heap.size w w' := by
  obtain ⟨s, x, y, f⟩ := j
  have hs : s.size ≤ maxLen := hj.1
  clear hj
  have EM : myB (s, x, y, f) = (nmB s && (crB x && crB y) && decide (f ≤ 7)) := rfl
  have HM : Hid _ := EM
  clear EM
  unfold jV
  simp only
  have X0 := JBox.new w (.string s) (.int .i32 x) (.int .i32 y) (.int .u8 f) 33
  have hb0 : Below w.heap.size w (w.alloc (.cells #[.string s, .int .i32 x, .int .i32 y, .int .u8 f] 33)) := (Below.refl _ _).alloc (Nat.le_refl _) _
  have cn := fun w' => dname_any s (by unfold maxLen at hs; omega) w'
  have cx := fun w' => dnear_any x w'
  have cy := fun w' => dnear_any y w'
  go_enter Tryd.func31, Tryd.ntmps31
  go_upto_region 1 with fail
  generalize w.alloc (.cells #[.string s, .int .i32 x, .int .i32 y, .int .u8 f] 33) = W0 at *
  obtain ⟨x0, x1, x2, x3, _, _, _, _, _⟩ := id X0
  generalize nmB s = b0 at *
  generalize crB x = b1 at *
  generalize crB y = b2 at *
  by_cases h2 : f ≤ 7
  · have i2 : (f : Int) ≤ 7 := by omega
    cases b0 <;> cases b1 <;> cases b2
    all_goals
      go_wp2_with (first | (go_at_call 52; refine (cn _).mono ?_; rintro e w1 ⟨rfl, rfl⟩) | (go_at_call_of 53 (Value.int IntKind.i32 x); refine (cx _).mono ?_; rintro e w1 ⟨rfl, rfl⟩) | (go_at_call 53; refine (cy _).mono ?_; rintro e w1 ⟨rfl, rfl⟩))
      go_ret
      exact ⟨by rw [HM.out]; simp [h2], hb0⟩
  · have i2 : ¬ (f : Int) ≤ 7 := by omega
    cases b0 <;> cases b1 <;> cases b2
    all_goals
      go_wp2_with (first | (go_at_call 52; refine (cn _).mono ?_; rintro e w1 ⟨rfl, rfl⟩) | (go_at_call_of 53 (Value.int IntKind.i32 x); refine (cx _).mono ?_; rintro e w1 ⟨rfl, rfl⟩) | (go_at_call 53; refine (cy _).mono ?_; rintro e w1 ⟨rfl, rfl⟩))
      go_ret
      exact ⟨by rw [HM.out]; simp [h2] <;> omega, hb0⟩
end Go.Proofs.YtlhoidkfphellaaDoor

namespace Go.Proofs.YtlhoidkfphellaaDoor
open Go.RowKit

set_option maxHeartbeats 4000000 in
theorem finds_law (js : List Jn) (s : ByteArray) (ao : Option Addr) (cap : Nat) (w : World) (hT : TabW w) (hr : JRow w ao js) (hs : ao = none → cap = 0 ∧ js.length = 0) (hn : js.length ≤ 4398046511104) :
    Calls Tryd.prog 4 #[.slice ao js.length cap, .string s] w fun e w' => e = .returned (.bool true) ∧ Below w.heap.size w w' := by
  have cl := lentJ_any js ao cap w hr hs (by omega)
  have cF := fun t w' (h : JRow w' (some ⟨w.heap.size, 0, none⟩) js) => find_any js t (some ⟨w.heap.size, 0, none⟩) (js.length + 12) w' h (by omega)
  have cD := fun t w' (h : JRow w' ao js) => dfind_any js t ao cap w' h (by omega)
  have cK := fun w' (t : TabW w') (h : JRow w' ao js) (l : LentJ w' w.heap.size js) => keptJ_any js ao cap w.heap.size w' t h l (by omega)
  have HR : Hid (JRow w ao js) := hr
  clear hs hr
  obtain ⟨N, hN⟩ : ∃ N, js.length = N := ⟨_, rfl⟩
  have HN : Hid (js.length = N) := hN
  rw [hN] at cl cF cD cK hn ⊢
  clear hN
  go_enter Tryd.func4, Tryd.ntmps4
  go_upto_region 2 with (go_at_call 7; refine cl.mono ?_; rintro e w1 ⟨rfl, hL, b1⟩)
  clear cl
  have c1 := cF s w1 hL.row
  obtain ⟨⟨r1, r2⟩, er⟩ : ∃ r, fdA js s = r := ⟨_, rfl⟩
  rw [er] at c1
  simp only at c1
  go_upto_region 3 with (go_at_call 12; refine c1.mono ?_; rintro e w2 ⟨rfl, d2⟩)
  have b2 := b1.trans (d2.mono b1.size)
  replace hL := hL.below d2
  clear c1 d2 b1
  have c2 := cD s w2 (HR.out.below b2)
  rw [er] at c2
  simp only at c2
  clear er
  have n1 : ((r1 : Int) != (r1 : Int)) = false := by simp
  have n2 : (r2 != r2) = false := by simp
  go_upto_region 7 with (go_at_call 13; refine c2.mono ?_; rintro e w3 ⟨rfl, rfl⟩)
  clear c2 n1 n2
  go_loopg [10] N (fun g v wr => ∃ k : Nat, k ≤ N ∧ g = N - k ∧ v = .int .i64 k ∧ LentJ wr w.heap.size js ∧ Below w.heap.size w wr)
  case atStart => exact ⟨0, by omega, rfl, rfl, hL, b2⟩
  case round =>
    obtain ⟨k, hk, hg, rfl, hLr, hb⟩ := hrel
    have HG : Hid (gk = N - k) := hg
    clear hg hL b2
    by_cases hlt : k < N ∧ k < 100
    · obtain ⟨hlt, h100⟩ := hlt
      have hrr := HR.out.below hb
      have hr0 := hrr
      rcases hr0 with h | ⟨b, off, rfl, hc⟩
      · exact absurd (HN.out ▸ h) (by omega)
      · have hkl : k < js.length := by rw [HN.out]; exact hlt
        obtain ⟨g0, _, _, _⟩ := hc k hkl
        generalize (js.getD k jz).1 = t at *
        clear hc
        have i1 : (k : Int) < (N : Int) := by omega
        have i2 : (k : Int) < 100 := by omega
        have c1 := cF t wr hLr.row
        obtain ⟨⟨q1, q2⟩, er⟩ : ∃ r, fdA js t = r := ⟨_, rfl⟩
        rw [er] at c1
        simp only at c1
        go_upto_region 10 with (go_at_call 12; refine c1.mono ?_; rintro e w4 ⟨rfl, d4⟩)
        have b4 := hb.trans (d4.mono hb.size)
        have hL4 := hLr.below d4
        have h0 := (d4.cell (World.block_lt_of_cell? wr _ g0)).trans g0
        have c2 := cD t w4 (HR.out.below b4)
        rw [er] at c2
        simp only at c2
        clear er c1 d4 g0 hrr
        have n1 : ((q1 : Int) != (q1 : Int)) = false := by simp
        have n2 : (q2 != q2) = false := by simp
        go_wp2_with (go_at_call 13; refine c2.mono ?_; rintro e w5 ⟨rfl, rfl⟩)
        go_roundg (N - (k + 1))
        case measure => rw [HG.out]; omega
        case rel => exact ⟨k + 1, by omega, rfl, by go_num, hL4, b4⟩
    · have Tr := tabW_below hT hb
      have ck := cK wr Tr (HR.out.below hb) hLr
      have ca := fun w' (h : TabW w') => jawake_any w' h
      by_cases h1 : k < N
      · have i1 : (k : Int) < (N : Int) := by omega
        have i2 : ¬ (k : Int) < 100 := by omega
        go_wp2_with (first | (go_at_call 10; refine ck.mono ?_; rintro e w4 ⟨rfl, d4⟩; have b4 := hb.trans (d4.mono hb.size)) | (go_at_call 11; refine (ca _ (tabW_below hT b4)).mono ?_; rintro e w5 ⟨rfl, d5⟩))
        go_ret
        exact ⟨rfl, b4.trans (d5.mono b4.size)⟩
      · have i1 : ¬ (k : Int) < (N : Int) := by omega
        go_wp2_with (first | (go_at_call 10; refine ck.mono ?_; rintro e w4 ⟨rfl, d4⟩; have b4 := hb.trans (d4.mono hb.size)) | (go_at_call 11; refine (ca _ (tabW_below hT b4)).mono ?_; rintro e w5 ⟨rfl, d5⟩))
        go_ret
        exact ⟨rfl, b4.trans (d5.mono b4.size)⟩
end Go.Proofs.YtlhoidkfphellaaDoor

namespace Go.Proofs.YtlhoidkfphellaaDoor
open Go.RowKit

theorem int_ne_b {a b : Int} (h : ¬ a = b) : (a == b) = false := by simpa using h
set_option maxHeartbeats 4000000 in
theorem dcheck_any (js : List Jn) (ao : Option Addr) (cap : Nat) (w : World) (hr : JRow w ao js) (hw : JWs js) (hn : js.length ≤ 1125899906842624) :
    Calls Tryd.prog 9 #[.slice ao js.length cap] w fun e w' => e = .returned (.tuple #[.int .i64 (ckA js).1, .int .i64 ((ckA js).2 : Nat)]) ∧ Below w.heap.size w w' := by
  have HR : Hid (JRow w ao js) := hr
  clear hr
  obtain ⟨N, hN⟩ : ∃ N, js.length = N := ⟨_, rfl⟩
  have HN : Hid (js.length = N) := hN
  rw [hN] at hn ⊢
  go_enter Tryd.func9, Tryd.ntmps9
  by_cases h1 : 16 < N
  · have i1 : (16 : Int) < (N : Int) := by omega
    have Hc : Hid (ckA js = (3, 0)) := ck_long (by rw [hN]; exact h1)
    go_wp2
    go_ret2
    exact ⟨by rw [Hc.out]; rfl, Below.refl _ _⟩
  have i1 : ¬ (16 : Int) < (N : Int) := by omega
  have HL : Hid (¬ 16 < js.length) := (by rw [hN]; exact h1 : ¬ 16 < js.length)
  go_wp2
  clear h1 i1 hN
  go_loopg [4] N (fun g v wr => ∃ k : Nat, k ≤ N ∧ g = N - k ∧ v = .int .i64 k ∧ Hid (∀ i, i < k → fB js i = false) ∧ Below w.heap.size w wr)
  case atStart => exact ⟨0, by omega, rfl, rfl, (fun i hi => absurd hi (by omega)), Below.refl _ _⟩
  case round =>
    obtain ⟨k, hk, hg, rfl, hq, hbr⟩ := hrel
    have HG : Hid (gk = N - k) := hg
    clear hg
    by_cases hlt : k < N
    · have hrr := HR.out.below hbr
      rcases hrr with h | ⟨b, off, rfl, hc⟩
      · exact absurd (HN.out ▸ h) (by omega)
      · have hkl : k < js.length := by rw [HN.out]; exact hlt
        obtain ⟨g0, g1, g2, g3⟩ := hc k hkl
        have hjw := hw.at hkl
        obtain ⟨⟨s, x, y, f⟩, ex⟩ : ∃ j, js.getD k jz = j := ⟨_, rfl⟩
        rw [ex] at g0 g1 g2 g3 hjw
        simp only at g0 g1 g2 g3
        clear hc
        have i2 : (k : Int) < (N : Int) := by omega
        have HF : Hid (fB js k = (hsN (js.take k) s || hsP (js.take k) x y || !myB (s, x, y, f))) := (show _ = _ by unfold fB; rw [ex])
        have HB : Hid (fB js k = true → ckA js = (280, k)) := fun q => ck_bad HL.out hkl hq.out q
        have cm := fun w' => dmay_any (s, x, y, f) hjw w'
        unfold jV at cm
        simp only at cm
        generalize myB (s, x, y, f) = my at *
        cases my
        · have Hc : Hid (ckA js = (280, k)) := HB.out (by rw [HF.out]; simp)
          go_wp2_with (go_at_call 31; refine (cm _).mono ?_; rintro e w1 ⟨rfl, b1⟩)
          go_ret2
          exact ⟨by rw [Hc.out]; rfl, hbr.trans (b1.mono hbr.size)⟩
        · go_upto_region 9 with (go_at_call 31; refine (cm _).mono ?_; rintro e w1 ⟨rfl, b1⟩)
          have hb1 := hbr.trans (b1.mono hbr.size)
          clear g0 g1 g2 g3 cm b1 hbr hlt hkl
          have HK : Hid (k < N) := (by omega : k < N)
          go_loopg [5] k (fun g v wr => ∃ m : Nat, m ≤ k ∧ g = k - m ∧ v = .int .i64 m ∧ Hid (hsN (js.take m) s = false ∧ hsP (js.take m) x y = false) ∧ Below w.heap.size w wr)
          case atStart => exact ⟨0, by omega, rfl, rfl, ⟨rfl, rfl⟩, hb1⟩
          case round =>
            obtain ⟨m, hm, hg2, rfl, hq2, hbm⟩ := hrel
            have HG2 : Hid (_ = k - m) := hg2
            clear hg2 hb1
            by_cases hlm : m < k
            · have hrr := HR.out.below hbm
              rcases hrr with h | ⟨b', off', e', hc⟩
              · exact absurd (HN.out ▸ h) (by have := HK.out; omega)
              · cases e'
                have hml : m < js.length := by rw [HN.out]; have := HK.out; omega
                have hkl : k < js.length := by rw [HN.out]; exact HK.out
                obtain ⟨g0, g1, g2, g3⟩ := hc k hkl
                obtain ⟨d0, d1, d2, d3⟩ := hc m hml
                have hgrow := jtake_at hml
                have hany : js.getD m jz ∈ js.take k := by
                  rw [jgetD_at hml]
                  exact List.mem_take_iff_getElem.2 ⟨m, by omega, rfl⟩
                rw [ex] at g0 g1 g2 g3
                obtain ⟨⟨t, p, q, z⟩, ey⟩ : ∃ j, js.getD m jz = j := ⟨_, rfl⟩
                rw [ey] at d0 d1 d2 d3 hgrow hany
                simp only at d0 d1 d2 d3 g0 g1 g2 g3
                have HBN : Hid (t = s → ckA js = (280, k)) := fun e => HB.out (by
                  rw [HF.out, show hsN (js.take k) s = true from List.any_eq_true.2 ⟨_, hany, by simp [e]⟩]; rfl)
                have HBP : Hid (p = x ∧ q = y → ckA js = (280, k)) := fun e => HB.out (by
                  rw [HF.out, show hsP (js.take k) x y = true from List.any_eq_true.2 ⟨_, hany, by simp [e.1, e.2]⟩]; simp)
                have HQ2 : Hid (¬ t = s → ¬ (p = x ∧ q = y) → hsN (js.take (m + 1)) s = false ∧ hsP (js.take (m + 1)) x y = false) := fun e1 e2 => by
                  rw [hgrow, hsN_snoc, hsP_snoc, hq2.out.1, hq2.out.2]
                  exact ⟨by simp [e1], by simpa using e2⟩
                have i3 : (m : Int) < (k : Int) := by omega
                have i4 : (m : Int) < (N : Int) := by have := HK.out; omega
                have i5 : m < N := by have := HK.out; omega
                have i6 : k < N := HK.out
                clear hc hgrow hany hml hkl ey hq2 HB HF
                by_cases e1 : t = s
                · have Hc : Hid (ckA js = (280, k)) := HBN.out e1
                  clear HBN HBP HQ2
                  subst e1
                  go_upto_region 11 with fail
                  go_quiet (fail)
                  go_wp2
                  go_ret2
                  exact ⟨by rw [Hc.out]; rfl, below_drewN hbm _⟩
                · have n1 := txt_ne e1
                  by_cases e2 : p = x
                  · by_cases e3 : q = y
                    · have Hc : Hid (ckA js = (280, k)) := HBP.out ⟨e2, e3⟩
                      clear HBN HBP HQ2 e1
                      subst e2 e3
                      go_upto_region 11 with fail
                      go_quiet (fail)
                      go_wp2
                      go_ret2
                      exact ⟨by rw [Hc.out]; rfl, below_drewN hbm _⟩
                    · have HQ3 : Hid (hsN (js.take (m + 1)) s = false ∧ hsP (js.take (m + 1)) x y = false) := HQ2.out e1 (fun h => e3 h.2)
                      clear HBN HBP HQ2 e1
                      subst e2
                      have n3 := int_ne_b e3
                      go_upto_region 11 with fail
                      go_quiet (fail)
                      go_wp2
                      go_roundg (k - (m + 1))
                      case measure => rw [HG2.out]; omega
                      case rel => exact ⟨m + 1, by omega, rfl, by go_num, HQ3, below_drewN hbm _⟩
                  · have HQ3 : Hid (hsN (js.take (m + 1)) s = false ∧ hsP (js.take (m + 1)) x y = false) := HQ2.out e1 (fun h => e2 h.1)
                    clear HBN HBP HQ2 e1
                    have n3 := int_ne_b e2
                    go_upto_region 11 with fail
                    go_quiet (fail)
                    go_wp2
                    go_roundg (k - (m + 1))
                    case measure => rw [HG2.out]; omega
                    case rel => exact ⟨m + 1, by omega, rfl, by go_num, HQ3, below_drewN hbm _⟩
            · have e : m = k := by omega
              have HQ : Hid (∀ i, i < k + 1 → fB js i = false) := fun i hi => by
                rcases (show i < k ∨ i = k by omega) with h | rfl
                · exact hq.out i h
                · rw [HF.out, ← e, hq2.out.1, hq2.out.2]; rfl
              have i3 : ¬ (m : Int) < (k : Int) := by omega
              have i6 : k < N := HK.out
              clear hq2 e HF HB
              go_wp2
              go_roundg (N - (k + 1))
              case measure => rw [HG.out]; omega
              case rel => exact ⟨k + 1, by omega, rfl, by go_num, HQ, hbm⟩
    · have e : k = js.length := by have := HN.out; omega
      have Hc : Hid (ckA js = (0, 0)) := ck_ok HL.out (by rw [← e]; exact hq.out)
      have i2 : ¬ (k : Int) < (N : Int) := by omega
      clear e
      go_wp2
      go_ret2
      exact ⟨by rw [Hc.out]; rfl, hbr⟩
end Go.Proofs.YtlhoidkfphellaaDoor

namespace Go.Proofs.YtlhoidkfphellaaDoor
open Go.RowKit

set_option maxHeartbeats 4000000 in
theorem checks_law (js : List Jn) (ao : Option Addr) (cap : Nat) (w : World) (hT : TabW w) (hr : JRow w ao js) (hw : JWs js) (hs : ao = none → cap = 0 ∧ js.length = 0) (hn : js.length ≤ 4398046511104) :
    Calls Tryd.prog 3 #[.slice ao js.length cap] w fun e w' => e = .returned (.bool true) ∧ Below w.heap.size w w' := by
  have cl := lentJ_any js ao cap w hr hs (by omega)
  have cC := fun w' (h : JRow w' (some ⟨w.heap.size, 0, none⟩) js) => check_any js (some ⟨w.heap.size, 0, none⟩) (js.length + 12) w' h hw (by omega)
  have cD := fun w' (h : JRow w' ao js) => dcheck_any js ao cap w' h hw (by omega)
  have cK := fun w' (t : TabW w') (h : JRow w' ao js) (l : LentJ w' w.heap.size js) => keptJ_any js ao cap w.heap.size w' t h l (by omega)
  have ca := fun w' (h : TabW w') => jawake_any w' h
  have HR : Hid (JRow w ao js) := hr
  clear hs hr
  generalize js.length = N at cl cC cD cK hn ⊢
  generalize ckA js = r at cC cD
  obtain ⟨r1, r2⟩ := r
  simp only at cC cD
  have n1 : (r1 == r1) = true := by simp
  have n2 : ((r2 : Int) == (r2 : Int)) = true := by simp
  go_enter Tryd.func3, Tryd.ntmps3
  go_upto_region 2 with (go_at_call 7; refine cl.mono ?_; rintro e w1 ⟨rfl, hL, b1⟩)
  have c1 := cC w1 hL.row
  go_upto_region 3 with (go_at_call 8; refine c1.mono ?_; rintro e w2 ⟨rfl, d2⟩)
  have b2 := b1.trans (d2.mono b1.size)
  replace hL := hL.below d2
  clear c1 d2 b1 cl
  have c2 := cD w2 (HR.out.below b2)
  go_upto_region 4 with (go_at_call 9; refine c2.mono ?_; rintro e w3 ⟨rfl, d3⟩)
  have b3 := b2.trans (d3.mono b2.size)
  replace hL := hL.below d3
  clear c2 d3 b2
  have ck := cK w3 (tabW_below hT b3) (HR.out.below b3) hL
  go_wp2_with (first | (go_at_call 10; refine ck.mono ?_; rintro e w4 ⟨rfl, d4⟩; have b4 := b3.trans (d4.mono b3.size)) | (go_at_call 11; refine (ca _ (tabW_below hT b4)).mono ?_; rintro e w5 ⟨rfl, d5⟩))
  go_ret
  exact ⟨rfl, b4.trans (d5.mono b4.size)⟩
end Go.Proofs.YtlhoidkfphellaaDoor
