/- What the kit's SamePlaces answers of places that are alike. -/
import Derived.Test.YtkjgilffljlanaaGreatDoorBA
import Derived.Test.YtkjgilffljlanaaGreatDoorZf
import Derived.Test.YtkjgilffljlanaaGreatDoorK1
import Derived.BigQuiet
import Derived.Deep.QuietTactic
import Derived.Test.YtkjgilffljlanaaGreatDoorBB
namespace Go.Proofs.YtkjgilffljlanaaGreatDoor
open Go.RowKit
theorem bge_le {x c : Nat} (hx : x < 18446744073709551616) (hc : c < 18446744073709551616) (nc : nanB c = false) : geF x c = leF c x := by
 cases h : nanB x
 ·unfold geF leF
  rw [gt_num hx hc h nc, eq_num hx hc h nc, lt_num hc hx nc h, eq_num hc hx nc h, Bool.eq_iff_iff]
  simp
  omega
 ·unfold geF leF
  rw [ord_nan hx hc (Or.inl h), ord_nan hc hx (Or.inr h)]
  rfl
theorem eq_zero {x : Nat} (hx : x < 18446744073709551616) : ((FloatKind.f64.format.order x 0 == some .eq) && !sgn x) = decide (x = 0) := by
 cases h : nanB x
 ·rw [eq_num hx (by omega) h (by decide), Bool.eq_iff_iff]
  rw [show place 0 = 0 by decide]
  unfold place sgn rung
  simp
  split <;> omega
 ·rw [ord_nan hx (by omega) (Or.inl h)]
  have : x ≠ 0 := by rintro rfl; revert h; decide
  simp [this]
set_option maxHeartbeats 1000000 in
theorem number_any (x : Nat) (hx : x < 18446744073709551616) (w : World) :
    Calls Tryz.prog 64 #[.float .f64 x] w fun e w' => e = .returned (.bool (nbB x)) ∧ w' = w := by
  have e0 := bge_le hx (c := 4336966441157787648) (by omega) (by decide)
  have e1 : (FloatKind.f64.format.order x 4336966441157787648 == some .gt || FloatKind.f64.format.order x 4336966441157787648 == some .eq) = geF x 4336966441157787648 := rfl
  have e2 : (FloatKind.f64.format.order x 4877398396442247168 == some .lt || FloatKind.f64.format.order x 4877398396442247168 == some .eq) = leF x 4877398396442247168 := rfl
  rw [e0] at e1
  have HB : Hid (nbB x = (leF 4336966441157787648 x && leF x 4877398396442247168)) := (show _ = _ from rfl)
  clear e0
  generalize nbB x = nb at *
  generalize leF 4336966441157787648 x = p at *
  generalize leF x 4877398396442247168 = q at *
  cases p <;> cases q
  all_goals
    (go_enter Tryz.func64, Tryz.ntmps64
     go_wp2
     go_ret
     exact ⟨by rw [HB.out]; rfl, rfl⟩)
set_option maxHeartbeats 1000000 in
theorem named_any (s : ByteArray) (hs : s.size ≤ 9223372036854775807) (w : World) :
  Calls Tryz.prog 63 #[.string s] w fun e w' => e = .returned (.bool (nmB s)) ∧ w' = w := by
 obtain ⟨N, hN⟩ : ∃ N, s.size = N := ⟨_, rfl⟩
 have HN : Hid (s.size = N) := hN
 rw [hN] at hs
 have hnil : N = 0 → s.toList = [] := fun h => by
  have q : s.data.size = 0 := hN.trans h
  rw [ByteArray.toList_eq, Array.toList_eq_nil_iff]
  exact Array.eq_empty_of_size_eq_zero q
 have hcons : ¬ N = 0 → ¬ s.toList = [] := fun h e => h (by
  rw [ByteArray.toList_eq, Array.toList_eq_nil_iff] at e
  have q : s.data.size = N := hN
  rw [← q, e]
  rfl)
 go_enter Tryz.func63, Tryz.ntmps63
 by_cases h1 : N = 0
 ·have e1 := hnil h1
  have e2 : s.toList.isEmpty = true := by rw [e1]; rfl
  have Hn : Hid (nmB s = false) := (show _ = _ by unfold nmB; rw [HN.out]; simp; omega)
  clear hnil hcons h1 hN
  go_wp2
  go_ret
  exact ⟨by rw [Hn.out]; rfl, rfl⟩
 have e1 := hcons h1
 have e2 : s.toList.isEmpty = false := by simpa using e1
 clear hnil hcons
 by_cases h2 : (8 : Int) < (N : Int)
 ·have Hn : Hid (nmB s = false) := (show _ = _ by unfold nmB; rw [HN.out]; simp; omega)
  have h3 : ¬ (N : Int) ≤ 8 := by omega
  go_wp2
  go_ret
  exact ⟨by rw [Hn.out]; rfl, rfl⟩
 have h3 : (N : Int) ≤ 8 := by omega
 have h4 : (0 : Int) < (N : Int) := by omega
 have hp0 : 0 < s.size := by omega
 have Hall : Hid (nmB s = nmK s N) := by
  show _ = _
  unfold nmB
  rw [HN.out]
  have a : 1 ≤ N := by omega
  have b : N ≤ 8 := by omega
  simp [a, b]
 have HB0 : Hid (chB 0 (byN s 0) = false → nmB s = false) := fun q => by rw [Hall.out]; exact nmK_not (by omega) q
 have Hb0 : Hid (byN s 0 = (s[0]'hp0).toNat) := (show _ = _ by unfold byN; rw [dif_pos hp0])
 by_cases c1 : (97 : Int) ≤ ((s[0]'hp0).toNat : Int)
 ·by_cases c2 : ((s[0]'hp0).toNat : Int) ≤ 122
  ·have HL0 : Hid (97 ≤ byN s 0 ∧ byN s 0 ≤ 122) := (by rw [Hb0.out]; omega : 97 ≤ byN s 0 ∧ byN s 0 ≤ 122)
   clear HB0 Hb0
   go_upto_region 4 with fail
   clear e1 e2 c1 c2 hp0 h1 h2 h3 h4
   go_loopg [3] N (fun g v wr => ∃ k : Nat, k ≤ N ∧ g = N - k ∧ v = .int .i64 k ∧ Hid (nmK s k = true) ∧ wr = w)
   case atStart => exact ⟨0, by omega, rfl, rfl, rfl, rfl⟩
   case round =>
    obtain ⟨k, hk, hg, rfl, hq, rfl⟩ := hrel
    have HG : Hid (gk = N - k) := hg
    clear hg
    by_cases hp : k < N
    ·have i2 : (k : Int) < (N : Int) := by omega
     have hps : k < s.size := by rw [HN.out]; exact hp
     have Hby : Hid (byN s k = (s[k]'hps).toNat) := (show _ = _ by unfold byN; rw [dif_pos hps])
     have Hstep : Hid (nmK s (k + 1) = chB k (byN s k)) := (show _ = _ by unfold nmK; rw [hq.out]; rfl)
     have HB : Hid (chB k (byN s k) = false → nmB s = false) := fun q => by rw [Hall.out]; exact nmK_not hp q
     have HZ : Hid (k = 0 → 97 ≤ (s[k]'hps).toNat ∧ (s[k]'hps).toNat ≤ 122) := fun z => by
      have := HL0.out
      rw [← z, Hby.out] at this
      exact this
     clear hq
     by_cases a1 : (97 : Int) ≤ ((s[k]'hps).toNat : Int)
     ·by_cases a2 : ((s[k]'hps).toNat : Int) ≤ (122 : Int)
      ·have HQ : Hid (nmK s (k + 1) = true) := (show _ = _ by rw [Hstep.out, Hby.out]; unfold chB lttB; simp; omega)
       have a3 : (48 : Int) ≤ ((s[k]'hps).toNat : Int) := by omega
       have a4 : ¬ ((s[k]'hps).toNat : Int) ≤ (57 : Int) := by omega
       clear Hstep HB Hby
       go_wp2
       go_roundg (N - (k + 1))
       case measure => rw [HG.out]; omega
       case rel => exact ⟨k + 1, by omega, rfl, by go_num, HQ, rfl⟩
      ·have Hn : Hid (nmB s = false) := HB.out (by rw [Hby.out]; unfold chB lttB dgtB; rw [Bool.eq_false_iff]; simp; omega)
       have a3 : (48 : Int) ≤ ((s[k]'hps).toNat : Int) := by omega
       have a4 : ¬ ((s[k]'hps).toNat : Int) ≤ (57 : Int) := by omega
       clear Hstep HB Hby
       go_wp2
       go_ret
       exact ⟨by rw [Hn.out]; rfl, rfl⟩
     ·have z : k ≠ 0 := fun z => by have := HZ.out z; omega
      by_cases a3 : (48 : Int) ≤ ((s[k]'hps).toNat : Int)
      ·by_cases a4 : ((s[k]'hps).toNat : Int) ≤ (57 : Int)
       ·have HQ : Hid (nmK s (k + 1) = true) := (show _ = _ by rw [Hstep.out, Hby.out]; unfold chB lttB dgtB; simp; omega)
        clear Hstep HB Hby
        go_wp2
        go_roundg (N - (k + 1))
        case measure => rw [HG.out]; omega
        case rel => exact ⟨k + 1, by omega, rfl, by go_num, HQ, rfl⟩
       ·have Hn : Hid (nmB s = false) := HB.out (by rw [Hby.out]; unfold chB lttB dgtB; rw [Bool.eq_false_iff]; simp; omega)
        clear Hstep HB Hby
        go_wp2
        go_ret
        exact ⟨by rw [Hn.out]; rfl, rfl⟩
      ·have Hn : Hid (nmB s = false) := HB.out (by rw [Hby.out]; unfold chB lttB dgtB; rw [Bool.eq_false_iff]; simp; omega)
       clear Hstep HB Hby
       go_wp2
       go_ret
       exact ⟨by rw [Hn.out]; rfl, rfl⟩
    ·have i2 : ¬ (k : Int) < (N : Int) := by omega
     have e : k = N := by omega
     have HS : Hid (nmB s = true) := (show _ = _ by rw [Hall.out, ← e]; exact hq.out)
     clear hq e
     go_wp2
     go_ret
     exact ⟨by rw [HS.out]; rfl, rfl⟩
  ·have Hn : Hid (nmB s = false) := HB0.out (by rw [Hb0.out]; unfold chB lttB dgtB; rw [Bool.eq_false_iff]; simp; omega)
   clear HB0 Hb0
   go_wp2
   go_ret
   exact ⟨by rw [Hn.out]; rfl, rfl⟩
 ·have Hn : Hid (nmB s = false) := HB0.out (by rw [Hb0.out]; unfold chB lttB dgtB; rw [Bool.eq_false_iff]; simp; omega)
  clear HB0 Hb0
  go_wp2
  go_ret
  exact ⟨by rw [Hn.out]; rfl, rfl⟩
theorem btxt_ne {t s : ByteArray} (e : ¬ t = s) : (t.toList == s.toList) = false := by
 rw [ByteArray.toList_eq, ByteArray.toList_eq]
 exact beq_eq_false_iff_ne.2 fun q => e (WideShapes.bytes_inj q)
theorem bint_ne {a b : Int} (h : ¬ a = b) : (a == b) = false := by simpa using h
set_option maxHeartbeats 8000000 in
theorem dmaym_any (ms : List Mb) (A : Nat) (k : Nat) (ao mo : Option Addr) (ac mc : Nat) (w : World) (mr : MRow w mo ms) (mw : MWs ms) (mn : ms.length ≤ 1125899906842624) (hk : k < ms.length) :
  Calls Tryz.prog 38 #[.agg #[.slice ao A ac, .slice mo ms.length mc], .int .i64 k] w fun e w' => e = .returned (.bool (!fM A ms k)) ∧ Below w.heap.size w w' := by
 obtain ⟨N, hN⟩ : ∃ N, ms.length = N := ⟨_, rfl⟩
 have HN : Hid (ms.length = N) := hN
 have hkN : k < N := by omega
 have HK : Hid (k < N) := hkN
 rw [hN] at mn ⊢
 have hb0 : Below w.heap.size w (w.alloc (.cells #[.slice ao A ac, .slice mo N mc] 25)) := (Below.refl _ _).alloc (Nat.le_refl _) _
 have p0 : (w.alloc (.cells #[.slice ao A ac, .slice mo N mc] 25)).cell? ⟨w.heap.size, 0, none⟩ = some (.slice ao A ac) := by simp [go_sem]
 have p1 : (w.alloc (.cells #[.slice ao A ac, .slice mo N mc] 25)).cell? ⟨w.heap.size, 1, none⟩ = some (.slice mo N mc) := by simp [go_sem]
 have pl : w.heap.size < (w.alloc (.cells #[.slice ao A ac, .slice mo N mc] 25)).heap.size := by simp
 replace mr := mr.below hb0
 have hmw := mw.at hk
 rcases id mr with h | ⟨b, off, rfl, hc⟩
 ·omega
 have gm := hc k hk
 obtain ⟨m, ex⟩ : ∃ m, ms.getD k mz = m := ⟨_, rfl⟩
 rw [ex] at gm hmw
 have HF : Hid (fM A ms k = (hsM (ms.take k) m.nm || !mmB A m)) := (show _ = _ by unfold fM; rw [ex])
 have HM : Hid (mmB A m = (nmB m.nm && ldB m.a m.b A && (nbB m.e && nbB m.ar) && kdB m)) := (show _ = _ from rfl)
 have HKD : Hid (kdB m = if m.kd = 1 then !m.ha && !m.hb && decide (m.i = 0) else if m.kd = 2 then nbB m.i else false) := (show _ = _ from rfl)
 have cn := fun w' => named_any m.nm (by have := hmw.s; unfold maxLen at this; omega) w'
 have ce := fun w' => number_any m.e hmw.e w'
 have cr := fun w' => number_any m.ar hmw.ar w'
 have ci := fun w' => number_any m.i hmw.i w'
 have cg := fun w' => signbit_any m.i hmw.i w'
 have hz0 := eq_zero hmw.i
 have HX : Hid (∀ i, i < k → (ms.getD i mz).nm = m.nm → hsM (ms.take k) m.nm = true) := fun i hi e => by
  unfold hsM
  refine List.any_eq_true.2 ⟨ms.getD i mz, ?_, by simpa using e⟩
  rw [mgetD_at (by omega)]
  exact List.mem_take_iff_getElem.2 ⟨i, by omega, rfl⟩
 have HY : Hid (∀ i, i < k → (ms.getD i mz).nm ≠ m.nm → hsM (ms.take i) m.nm = false → hsM (ms.take (i + 1)) m.nm = false) := fun i hi e h => by
  rw [mtake_at (by omega), hsM_snoc, h]
  simpa using e
 have st : Below (w.alloc (.cells #[.slice ao A ac, .slice (some ⟨b, off, none⟩) N mc] 25)).heap.size _ ((w.alloc (.cells #[.slice ao A ac, .slice (some ⟨b, off, none⟩) N mc] 25)).alloc (mO m 42)) := (Below.refl _ _).alloc (Nat.le_refl _) _
 have X7 := MBox.new (w.alloc (.cells #[.slice ao A ac, .slice (some ⟨b, off, none⟩) N mc] 25)) m 42
 have hs1 : (w.alloc (.cells #[.slice ao A ac, .slice (some ⟨b, off, none⟩) N mc] 25)).heap.size = w.heap.size + 1 := by simp
 obtain ⟨s, kd, xa, xb, ha, hb, xe, xr, xi⟩ := m
 generalize fM A ms k = f at *
 generalize mmB A _ = my at *
 generalize kdB _ = kb at *
 unfold mO at X7 st
 simp only at *
 rw [hs1] at X7
 obtain ⟨g0, g1, g2, g3, g4, g5, g6, g7, g8⟩ := gm
 simp only at g0 g1 g2 g3 g4 g5 g6 g7 g8
 have hbl : b < w.heap.size + 1 := by have := World.block_lt_of_cell? _ _ g0; rw [hs1] at this; exact this
 have n1 : b ≠ w.heap.size + 1 := by omega
 have n2 : w.heap.size + 1 ≠ b := by omega
 have hst := run_storef Tryz.prog
 clear ex hmw mw hc
 go_enter Tryz.func38, Tryz.ntmps38
 go_upto_region 2 with fail
 clear hst
 have q0 := (st.cell (p := ⟨w.heap.size, 0, none⟩) pl).trans p0
 have q1 := (st.cell (p := ⟨w.heap.size, 1, none⟩) pl).trans p1
 have hb1 := hb0.trans (st.mono hb0.size)
 have pl2 := Nat.lt_of_lt_of_le pl st.size
 replace mr := mr.below st
 clear g0 g1 g2 g3 g4 g5 g6 g7 g8 p0 p1 st hb0 hs1 pl
 generalize (w.alloc (.cells #[.slice ao A ac, .slice (some ⟨b, off, none⟩) N mc] 25)).alloc (.cells #[.string s, .int .u8 kd, .int .i64 xa, .int .i64 xb, .bool ha, .bool hb, .float .f64 xe, .float .f64 xr, .float .f64 xi] 42) = W1 at *
 go_upto_region 3 with fail
 clear hk hN n1 n2 hbl
 go_loopg [6] k (fun g v wr => ∃ j : Nat, j ≤ k ∧ g = k - j ∧ v = .int .i64 j ∧ Hid (hsM (ms.take j) s = false) ∧ Below W1.heap.size W1 wr)
 case atStart => exact ⟨0, by omega, rfl, rfl, rfl, Below.refl _ _⟩
 case round =>
  obtain ⟨j, hj, hg, rfl, hq, hbr⟩ := hrel
  have HG : Hid (gk = k - j) := hg
  clear hg
  have X8 := X7.below hbr
  have r0 := (hbr.cell (p := ⟨w.heap.size, 0, none⟩) pl2).trans q0
  have r1 := (hbr.cell (p := ⟨w.heap.size, 1, none⟩) pl2).trans q1
  have hbx := hb1.trans (hbr.mono hb1.size)
  by_cases hlt : j < k
  ·rcases mr.below hbr with h | ⟨b', off', e', hc⟩
   ·exact absurd (HN.out ▸ h) (by omega)
   ·cases e'
    have gj := hc j (by rw [HN.out]; omega)
    have y0 := X8.at0.c0
    have hx1 := HX.out j hlt
    have hy1 := HY.out j hlt
    obtain ⟨m', ey⟩ : ∃ m', ms.getD j mz = m' := ⟨_, rfl⟩
    rw [ey] at gj hx1 hy1
    have t0 := gj.c0
    obtain ⟨t, ht⟩ : ∃ t, m'.nm = t := ⟨_, rfl⟩
    rw [ht] at t0 hx1 hy1
    have i1 : (j : Int) < (k : Int) := by omega
    have i2 : (j : Int) < (N : Int) := by omega
    have i3 : j < N := by omega
    clear hc gj ht ey
    by_cases e1 : t = s
    ·have Hc : Hid (f = true) := HF.out.trans (by rw [hx1 e1]; rfl)
     clear hx1 hy1 HF
     subst e1
     go_upto_region 5 with fail
     go_quiet (fail)
     go_wp2
     go_ret
     exact ⟨by rw [Hc.out]; rfl, below_drewN hbx _⟩
    ·have HQ : Hid (hsM (ms.take (j + 1)) s = false) := hy1 e1 hq.out
     have n3 := btxt_ne e1
     clear hx1 hy1 HF
     go_upto_region 5 with fail
     go_quiet (fail)
     go_wp2
     go_roundg (k - (j + 1))
     case measure => rw [HG.out]; omega
     case rel => exact ⟨j + 1, by omega, rfl, by go_num, HQ, below_drewN hbr _⟩
  ·have e : j = k := by omega
   subst e
   have Hf : Hid (f = !my) := HF.out.trans (by rw [hq.out]; rfl)
   have i1 : ¬ (j : Int) < (j : Int) := by omega
   have HLD : Hid (ldB xa xb A = (decide (0 ≤ xa) && decide (0 ≤ xb) && decide (xa < A) && decide (xb < A) && decide (xa ≠ xb))) := (show _ = _ from rfl)
   obtain ⟨y0, y1, y2, y3, y4, y5, y6, y7, y8⟩ := X8.at0
   simp only [Nat.zero_add] at y0 y1 y2 y3 y4 y5 y6 y7 y8
   clear HF HX HY mr X8 X7 q0 q1 hq hlt hb1 hbr HG pl2
   cases h0 : nmB s <;> rw [h0] at cn
   ·have Hc : Hid (f = true) := Hf.out.trans (by rw [HM.out, h0]; rfl)
    clear Hf HM HKD HLD
    go_wp2_with (first | (go_at_call 63; refine (cn _).mono ?_; rintro e w1 ⟨rfl, rfl⟩) | (go_at_call_of 64 (Value.float FloatKind.f64 xe); refine (ce _).mono ?_; rintro e w1 ⟨rfl, rfl⟩) | (go_at_call_of 64 (Value.float FloatKind.f64 xr); refine (cr _).mono ?_; rintro e w1 ⟨rfl, rfl⟩) | (go_at_call_of 64 (Value.float FloatKind.f64 xi); refine (ci _).mono ?_; rintro e w1 ⟨rfl, rfl⟩) | (go_at_call 65; refine (cg _).mono ?_; rintro e w1 ⟨rfl, rfl⟩))
    go_ret
    exact ⟨by rw [Hc.out]; rfl, hbx⟩
   by_cases c0 : 0 ≤ xa
   case neg =>
    have d0 : xa < 0 := by omega
    have Hc : Hid (f = true) := Hf.out.trans (by rw [HM.out, HLD.out]; simp [c0])
    clear Hf HM HKD HLD
    go_wp2_with (first | (go_at_call 63; refine (cn _).mono ?_; rintro e w1 ⟨rfl, rfl⟩) | (go_at_call_of 64 (Value.float FloatKind.f64 xe); refine (ce _).mono ?_; rintro e w1 ⟨rfl, rfl⟩) | (go_at_call_of 64 (Value.float FloatKind.f64 xr); refine (cr _).mono ?_; rintro e w1 ⟨rfl, rfl⟩) | (go_at_call_of 64 (Value.float FloatKind.f64 xi); refine (ci _).mono ?_; rintro e w1 ⟨rfl, rfl⟩) | (go_at_call 65; refine (cg _).mono ?_; rintro e w1 ⟨rfl, rfl⟩))
    go_ret
    exact ⟨by rw [Hc.out]; rfl, hbx⟩
   have d0 : ¬ xa < 0 := by omega
   by_cases c1 : xa < A
   case neg =>
    have d1 : (A : Int) ≤ xa := by omega
    have Hc : Hid (f = true) := Hf.out.trans (by rw [HM.out, HLD.out]; simp [c1])
    clear Hf HM HKD HLD
    go_wp2_with (first | (go_at_call 63; refine (cn _).mono ?_; rintro e w1 ⟨rfl, rfl⟩) | (go_at_call_of 64 (Value.float FloatKind.f64 xe); refine (ce _).mono ?_; rintro e w1 ⟨rfl, rfl⟩) | (go_at_call_of 64 (Value.float FloatKind.f64 xr); refine (cr _).mono ?_; rintro e w1 ⟨rfl, rfl⟩) | (go_at_call_of 64 (Value.float FloatKind.f64 xi); refine (ci _).mono ?_; rintro e w1 ⟨rfl, rfl⟩) | (go_at_call 65; refine (cg _).mono ?_; rintro e w1 ⟨rfl, rfl⟩))
    go_ret
    exact ⟨by rw [Hc.out]; rfl, hbx⟩
   have d1 : ¬ (A : Int) ≤ xa := by omega
   by_cases c2 : 0 ≤ xb
   case neg =>
    have d2 : xb < 0 := by omega
    have Hc : Hid (f = true) := Hf.out.trans (by rw [HM.out, HLD.out]; simp [c2])
    clear Hf HM HKD HLD
    go_wp2_with (first | (go_at_call 63; refine (cn _).mono ?_; rintro e w1 ⟨rfl, rfl⟩) | (go_at_call_of 64 (Value.float FloatKind.f64 xe); refine (ce _).mono ?_; rintro e w1 ⟨rfl, rfl⟩) | (go_at_call_of 64 (Value.float FloatKind.f64 xr); refine (cr _).mono ?_; rintro e w1 ⟨rfl, rfl⟩) | (go_at_call_of 64 (Value.float FloatKind.f64 xi); refine (ci _).mono ?_; rintro e w1 ⟨rfl, rfl⟩) | (go_at_call 65; refine (cg _).mono ?_; rintro e w1 ⟨rfl, rfl⟩))
    go_ret
    exact ⟨by rw [Hc.out]; rfl, hbx⟩
   have d2 : ¬ xb < 0 := by omega
   by_cases c3 : xb < A
   case neg =>
    have d3 : (A : Int) ≤ xb := by omega
    have Hc : Hid (f = true) := Hf.out.trans (by rw [HM.out, HLD.out]; simp [c3])
    clear Hf HM HKD HLD
    go_wp2_with (first | (go_at_call 63; refine (cn _).mono ?_; rintro e w1 ⟨rfl, rfl⟩) | (go_at_call_of 64 (Value.float FloatKind.f64 xe); refine (ce _).mono ?_; rintro e w1 ⟨rfl, rfl⟩) | (go_at_call_of 64 (Value.float FloatKind.f64 xr); refine (cr _).mono ?_; rintro e w1 ⟨rfl, rfl⟩) | (go_at_call_of 64 (Value.float FloatKind.f64 xi); refine (ci _).mono ?_; rintro e w1 ⟨rfl, rfl⟩) | (go_at_call 65; refine (cg _).mono ?_; rintro e w1 ⟨rfl, rfl⟩))
    go_ret
    exact ⟨by rw [Hc.out]; rfl, hbx⟩
   have d3 : ¬ (A : Int) ≤ xb := by omega
   by_cases c4 : xa = xb
   case pos =>
    have Hc0 : Hid (f = true) := Hf.out.trans (by rw [HM.out, HLD.out]; simp [c4])
    subst c4
    have Hc : Hid (f = true) := Hc0.out
    clear Hf HM HKD HLD
    go_wp2_with (first | (go_at_call 63; refine (cn _).mono ?_; rintro e w1 ⟨rfl, rfl⟩) | (go_at_call_of 64 (Value.float FloatKind.f64 xe); refine (ce _).mono ?_; rintro e w1 ⟨rfl, rfl⟩) | (go_at_call_of 64 (Value.float FloatKind.f64 xr); refine (cr _).mono ?_; rintro e w1 ⟨rfl, rfl⟩) | (go_at_call_of 64 (Value.float FloatKind.f64 xi); refine (ci _).mono ?_; rintro e w1 ⟨rfl, rfl⟩) | (go_at_call 65; refine (cg _).mono ?_; rintro e w1 ⟨rfl, rfl⟩))
    go_ret
    exact ⟨by rw [Hc.out]; rfl, hbx⟩
   have n4 := bint_ne c4
   have Hl : Hid (ldB xa xb A = true) := HLD.out.trans (by simp [c0, c1, c2, c3, c4])
   cases h2 : nbB xe <;> rw [h2] at ce
   ·have Hc : Hid (f = true) := Hf.out.trans (by rw [HM.out, h2]; simp)
    clear Hf HM HKD HLD
    go_wp2_with (first | (go_at_call 63; refine (cn _).mono ?_; rintro e w1 ⟨rfl, rfl⟩) | (go_at_call_of 64 (Value.float FloatKind.f64 xe); refine (ce _).mono ?_; rintro e w1 ⟨rfl, rfl⟩) | (go_at_call_of 64 (Value.float FloatKind.f64 xr); refine (cr _).mono ?_; rintro e w1 ⟨rfl, rfl⟩) | (go_at_call_of 64 (Value.float FloatKind.f64 xi); refine (ci _).mono ?_; rintro e w1 ⟨rfl, rfl⟩) | (go_at_call 65; refine (cg _).mono ?_; rintro e w1 ⟨rfl, rfl⟩))
    go_ret
    exact ⟨by rw [Hc.out]; rfl, hbx⟩
   cases h3 : nbB xr <;> rw [h3] at cr
   ·have Hc : Hid (f = true) := Hf.out.trans (by rw [HM.out, h3]; simp)
    clear Hf HM HKD HLD
    go_wp2_with (first | (go_at_call 63; refine (cn _).mono ?_; rintro e w1 ⟨rfl, rfl⟩) | (go_at_call_of 64 (Value.float FloatKind.f64 xe); refine (ce _).mono ?_; rintro e w1 ⟨rfl, rfl⟩) | (go_at_call_of 64 (Value.float FloatKind.f64 xr); refine (cr _).mono ?_; rintro e w1 ⟨rfl, rfl⟩) | (go_at_call_of 64 (Value.float FloatKind.f64 xi); refine (ci _).mono ?_; rintro e w1 ⟨rfl, rfl⟩) | (go_at_call 65; refine (cg _).mono ?_; rintro e w1 ⟨rfl, rfl⟩))
    go_ret
    exact ⟨by rw [Hc.out]; rfl, hbx⟩
   have Hk : Hid (f = !kb) := Hf.out.trans (by rw [HM.out, h0, h2, h3, Hl.out]; rfl)
   clear Hf HM HLD Hl h0 h2 h3
   by_cases k1 : kd = 1
   ·subst k1
    have HB0 : Hid (kb = (!ha && !hb && decide (xi = 0))) := HKD.out.trans (by rw [if_pos rfl])
    obtain ⟨q, hq⟩ : ∃ q, (FloatKind.f64.format.order xi 0 == some .eq) = q := ⟨_, rfl⟩
    rw [hq] at hz0
    generalize sgn xi = sg at *
    have HB : Hid (kb = (!ha && !hb && (q && !sg))) := HB0.out.trans (by rw [hz0])
    clear HKD HB0 hz0
    cases ha
    case true =>
     have Hc : Hid (f = true) := Hk.out.trans (by rw [HB.out]; rfl)
     clear Hk HB
     go_wp2_with (first | (go_at_call 63; refine (cn _).mono ?_; rintro e w1 ⟨rfl, rfl⟩) | (go_at_call_of 64 (Value.float FloatKind.f64 xe); refine (ce _).mono ?_; rintro e w1 ⟨rfl, rfl⟩) | (go_at_call_of 64 (Value.float FloatKind.f64 xr); refine (cr _).mono ?_; rintro e w1 ⟨rfl, rfl⟩) | (go_at_call_of 64 (Value.float FloatKind.f64 xi); refine (ci _).mono ?_; rintro e w1 ⟨rfl, rfl⟩) | (go_at_call 65; refine (cg _).mono ?_; rintro e w1 ⟨rfl, rfl⟩))
     go_ret
     exact ⟨by rw [Hc.out]; rfl, hbx⟩
    cases hb
    case true =>
     have Hc : Hid (f = true) := Hk.out.trans (by rw [HB.out]; rfl)
     clear Hk HB
     go_wp2_with (first | (go_at_call 63; refine (cn _).mono ?_; rintro e w1 ⟨rfl, rfl⟩) | (go_at_call_of 64 (Value.float FloatKind.f64 xe); refine (ce _).mono ?_; rintro e w1 ⟨rfl, rfl⟩) | (go_at_call_of 64 (Value.float FloatKind.f64 xr); refine (cr _).mono ?_; rintro e w1 ⟨rfl, rfl⟩) | (go_at_call_of 64 (Value.float FloatKind.f64 xi); refine (ci _).mono ?_; rintro e w1 ⟨rfl, rfl⟩) | (go_at_call 65; refine (cg _).mono ?_; rintro e w1 ⟨rfl, rfl⟩))
     go_ret
     exact ⟨by rw [Hc.out]; rfl, hbx⟩
    cases q
    case false =>
     have Hc : Hid (f = true) := Hk.out.trans (by rw [HB.out]; rfl)
     clear Hk HB
     go_wp2_with (first | (go_at_call 63; refine (cn _).mono ?_; rintro e w1 ⟨rfl, rfl⟩) | (go_at_call_of 64 (Value.float FloatKind.f64 xe); refine (ce _).mono ?_; rintro e w1 ⟨rfl, rfl⟩) | (go_at_call_of 64 (Value.float FloatKind.f64 xr); refine (cr _).mono ?_; rintro e w1 ⟨rfl, rfl⟩) | (go_at_call_of 64 (Value.float FloatKind.f64 xi); refine (ci _).mono ?_; rintro e w1 ⟨rfl, rfl⟩) | (go_at_call 65; refine (cg _).mono ?_; rintro e w1 ⟨rfl, rfl⟩))
     go_ret
     exact ⟨by rw [Hc.out]; rfl, hbx⟩
    cases sg
    case true =>
     have Hc : Hid (f = true) := Hk.out.trans (by rw [HB.out]; rfl)
     clear Hk HB
     go_wp2_with (first | (go_at_call 63; refine (cn _).mono ?_; rintro e w1 ⟨rfl, rfl⟩) | (go_at_call_of 64 (Value.float FloatKind.f64 xe); refine (ce _).mono ?_; rintro e w1 ⟨rfl, rfl⟩) | (go_at_call_of 64 (Value.float FloatKind.f64 xr); refine (cr _).mono ?_; rintro e w1 ⟨rfl, rfl⟩) | (go_at_call_of 64 (Value.float FloatKind.f64 xi); refine (ci _).mono ?_; rintro e w1 ⟨rfl, rfl⟩) | (go_at_call 65; refine (cg _).mono ?_; rintro e w1 ⟨rfl, rfl⟩))
     go_ret
     exact ⟨by rw [Hc.out]; rfl, hbx⟩
    have Hc : Hid (f = false) := Hk.out.trans (by rw [HB.out]; rfl)
    clear Hk HB
    go_wp2_with (first | (go_at_call 63; refine (cn _).mono ?_; rintro e w1 ⟨rfl, rfl⟩) | (go_at_call_of 64 (Value.float FloatKind.f64 xe); refine (ce _).mono ?_; rintro e w1 ⟨rfl, rfl⟩) | (go_at_call_of 64 (Value.float FloatKind.f64 xr); refine (cr _).mono ?_; rintro e w1 ⟨rfl, rfl⟩) | (go_at_call_of 64 (Value.float FloatKind.f64 xi); refine (ci _).mono ?_; rintro e w1 ⟨rfl, rfl⟩) | (go_at_call 65; refine (cg _).mono ?_; rintro e w1 ⟨rfl, rfl⟩))
    go_ret
    exact ⟨by rw [Hc.out]; rfl, hbx⟩
   ·by_cases k2 : kd = 2
    ·subst k2
     have HB : Hid (kb = nbB xi) := HKD.out.trans (by rw [if_neg (by decide), if_pos rfl])
     clear HKD hz0 k1
     generalize nbB xi = ni at *
     cases ni
     case false =>
      have Hc : Hid (f = true) := Hk.out.trans (by rw [HB.out]; rfl)
      clear Hk HB
      go_wp2_with (first | (go_at_call 63; refine (cn _).mono ?_; rintro e w1 ⟨rfl, rfl⟩) | (go_at_call_of 64 (Value.float FloatKind.f64 xe); refine (ce _).mono ?_; rintro e w1 ⟨rfl, rfl⟩) | (go_at_call_of 64 (Value.float FloatKind.f64 xr); refine (cr _).mono ?_; rintro e w1 ⟨rfl, rfl⟩) | (go_at_call_of 64 (Value.float FloatKind.f64 xi); refine (ci _).mono ?_; rintro e w1 ⟨rfl, rfl⟩) | (go_at_call 65; refine (cg _).mono ?_; rintro e w1 ⟨rfl, rfl⟩))
      go_ret
      exact ⟨by rw [Hc.out]; rfl, hbx⟩
     have Hc : Hid (f = false) := Hk.out.trans (by rw [HB.out]; rfl)
     clear Hk HB
     go_wp2_with (first | (go_at_call 63; refine (cn _).mono ?_; rintro e w1 ⟨rfl, rfl⟩) | (go_at_call_of 64 (Value.float FloatKind.f64 xe); refine (ce _).mono ?_; rintro e w1 ⟨rfl, rfl⟩) | (go_at_call_of 64 (Value.float FloatKind.f64 xr); refine (cr _).mono ?_; rintro e w1 ⟨rfl, rfl⟩) | (go_at_call_of 64 (Value.float FloatKind.f64 xi); refine (ci _).mono ?_; rintro e w1 ⟨rfl, rfl⟩) | (go_at_call 65; refine (cg _).mono ?_; rintro e w1 ⟨rfl, rfl⟩))
     go_ret
     exact ⟨by rw [Hc.out]; rfl, hbx⟩
    ·have HB : Hid (kb = false) := HKD.out.trans (by rw [if_neg k1, if_neg k2])
     have j1 : ((kd : Int) == 1) = false := by simpa using (by omega : ¬ (kd : Int) = 1)
     have j2 : ((kd : Int) == 2) = false := by simpa using (by omega : ¬ (kd : Int) = 2)
     clear HKD hz0 k1 k2
     have Hc : Hid (f = true) := Hk.out.trans (by rw [HB.out]; rfl)
     clear Hk HB
     go_wp2_with (first | (go_at_call 63; refine (cn _).mono ?_; rintro e w1 ⟨rfl, rfl⟩) | (go_at_call_of 64 (Value.float FloatKind.f64 xe); refine (ce _).mono ?_; rintro e w1 ⟨rfl, rfl⟩) | (go_at_call_of 64 (Value.float FloatKind.f64 xr); refine (cr _).mono ?_; rintro e w1 ⟨rfl, rfl⟩) | (go_at_call_of 64 (Value.float FloatKind.f64 xi); refine (ci _).mono ?_; rintro e w1 ⟨rfl, rfl⟩) | (go_at_call 65; refine (cg _).mono ?_; rintro e w1 ⟨rfl, rfl⟩))
     go_ret
     exact ⟨by rw [Hc.out]; rfl, hbx⟩
def tn1 (m : Mb) (q : Nat) : Bool := decide (m.kd = 2) && ((decide (m.a = q) && !m.ha) || (decide (m.b = q) && !m.hb))
def tnB (ms : List Mb) (q : Nat) : Bool := ms.any fun m => tn1 m q
def freB (f : Nat) (t : Bool) : Bool × Bool × Bool := (decide (f % 2 = 0), decide (f / 2 % 2 = 0), decide (f / 4 % 2 = 0) && t)
def plN (n : Int) (b : Bool × Bool × Bool) : (Int × Int × Int) × Int :=
 let x := if b.1 then (n, n + 1) else (-1, n)
 let y := if b.2.1 then (x.2, x.2 + 1) else (-1, x.2)
 let z := if b.2.2 then (y.2, y.2 + 1) else (-1, y.2)
 ((x.1, y.1, z.1), z.2)
def plK (js : List Jn) (ms : List Mb) : Nat → List (Int × Int × Int) × Int
 | 0 => ([], 0)
 | k + 1 => ((plK js ms k).1 ++ [(plN (plK js ms k).2 (freB (js.getD k jz).2.2.2 (tnB ms k))).1], (plN (plK js ms k).2 (freB (js.getD k jz).2.2.2 (tnB ms k))).2)
theorem plK_len (js : List Jn) (ms : List Mb) (k : Nat) : (plK js ms k).1.length = k := by
 induction k with
 | zero => rfl
 | succ n ih => simp [plK, ih]
def P3Row (w : World) (ao : Option Addr) (ps : List (Int × Int × Int)) : Prop := ps.length = 0 ∨ ∃ b off, ao = some ⟨b, off, none⟩ ∧ ∀ k, k < ps.length →
 w.cell? ⟨b, off + k * 3, none⟩ = some (.int .i64 (ps.getD k (0, 0, 0)).1) ∧ w.cell? ⟨b, off + k * 3 + 1, none⟩ = some (.int .i64 (ps.getD k (0, 0, 0)).2.1) ∧ w.cell? ⟨b, off + k * 3 + 2, none⟩ = some (.int .i64 (ps.getD k (0, 0, 0)).2.2)
theorem P3Row.below {w w' : World} {ao : Option Addr} {ps : List (Int × Int × Int)} (h : P3Row w ao ps) (hb : Below w.heap.size w w') : P3Row w' ao ps := by
 rcases h with h | ⟨b, off, rfl, hc⟩
 ·exact Or.inl h
 ·refine Or.inr ⟨b, off, rfl, fun j hj => ?_⟩
  obtain ⟨c0, c1, c2⟩ := hc j hj
  exact ⟨by rw [hb.cell (World.block_lt_of_cell? w _ c0)]; exact c0, by rw [hb.cell (World.block_lt_of_cell? w _ c1)]; exact c1, by rw [hb.cell (World.block_lt_of_cell? w _ c2)]; exact c2⟩
end Go.Proofs.YtkjgilffljlanaaGreatDoor
