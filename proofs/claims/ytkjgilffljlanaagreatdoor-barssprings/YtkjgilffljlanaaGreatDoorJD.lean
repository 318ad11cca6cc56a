/- JointsChecks. -/
import Derived.Test.YtkjgilffljlanaaGreatDoorJA
import Derived.Test.YtkjgilffljlanaaGreatDoorJB
import Derived.Test.YtkjgilffljlanaaGreatDoorJC
namespace Go.Proofs.YtkjgilffljlanaaGreatDoor
open Go.RowKit
theorem dnear_any (x : Int) (w : World) : Calls Tryz.prog 83 #[.int .i32 x] w fun e w' => e = .returned (.bool (crB x)) ∧ w' = w := by
 go_enter Tryz.func83, Tryz.ntmps83
 by_cases p : (-1048576 : Int) ≤ x
 ·by_cases q : x ≤ (1048576 : Int)
  ·have Hc : Hid (crB x = true) := (show _ = _ by unfold crB; simp; omega)
   go_wp2
   go_ret
   exact ⟨by rw [Hc.out]; rfl, rfl⟩
  ·have Hc : Hid (crB x = false) := (show _ = _ by unfold crB; simp; omega)
   go_wp2
   go_ret
   exact ⟨by rw [Hc.out]; rfl, rfl⟩
 ·have Hc : Hid (crB x = false) := (show _ = _ by unfold crB; simp; omega)
  go_wp2
  go_ret
  exact ⟨by rw [Hc.out]; rfl, rfl⟩
set_option maxHeartbeats 1000000 in
theorem dname_any (s : ByteArray) (hs : s.size ≤ 9223372036854775807) (w : World) :
  Calls Tryz.prog 82 #[.string s] w fun e w' => e = .returned (.bool (nmB s)) ∧ w' = w := by
 obtain ⟨N, hN⟩ : ∃ N, s.size = N := ⟨_, rfl⟩
 have HN : Hid (s.size = N) := hN
 rw [hN] at hs
 go_enter Tryz.func82, Tryz.ntmps82
 by_cases h1 : (N : Int) < 1
 ·have Hn : Hid (nmB s = false) := (show _ = _ by unfold nmB; rw [HN.out]; simp; omega)
  go_wp2
  go_ret
  exact ⟨by rw [Hn.out]; rfl, rfl⟩
 by_cases h2 : (8 : Int) < (N : Int)
 ·have Hn : Hid (nmB s = false) := (show _ = _ by unfold nmB; rw [HN.out]; simp; omega)
  go_wp2
  go_ret
  exact ⟨by rw [Hn.out]; rfl, rfl⟩
 have Hall : Hid (nmB s = nmK s N) := by
  show _ = _
  unfold nmB
  rw [HN.out]
  have a : 1 ≤ N := by omega
  have b : N ≤ 8 := by omega
  simp [a, b]
 go_wp2
 go_loopg [3] N (fun g v wr => ∃ k : Nat, k ≤ N ∧ g = N - k ∧ v = .int .i64 k ∧ Hid (nmK s k = true) ∧ wr = w)
 case atStart => exact ⟨0, by omega, rfl, rfl, rfl, rfl⟩
 case round =>
  obtain ⟨k, hk, hg, rfl, hq, rfl⟩ := hrel
  have HG : Hid (gk = N - k) := hg
  clear hg h1 h2
  by_cases hp : k < N
  ·have i2 : (k : Int) < (N : Int) := by omega
   have hps : k < s.size := by rw [HN.out]; exact hp
   have Hby : Hid (byN s k = (s[k]'hps).toNat) := (show _ = _ by unfold byN; rw [dif_pos hps])
   have Hstep : Hid (nmK s (k + 1) = chB k (byN s k)) := (show _ = _ by unfold nmK; rw [hq.out]; rfl)
   have HB : Hid (chB k (byN s k) = false → nmB s = false) := fun q => by rw [Hall.out]; exact nmK_not hp q
   clear hq hN
   by_cases a1 : (97 : Int) ≤ ((s[k]'hps).toNat : Int)
   ·by_cases a2 : ((s[k]'hps).toNat : Int) ≤ (122 : Int)
    ·have HQ : Hid (nmK s (k + 1) = true) := (show _ = _ by rw [Hstep.out, Hby.out]; unfold chB lttB; simp; omega)
     have a3 : (48 : Int) ≤ ((s[k]'hps).toNat : Int) := by omega
     have a4 : ¬ ((s[k]'hps).toNat : Int) ≤ (57 : Int) := by omega
     clear Hstep HB Hby
     go_wp2
     go_roundg (N - (k + 1))
     case measure => rw [HG.out]; omega
     case rel => exact ⟨k + 1, by omega, rfl, by go_num, HQ, rfl⟩
    ·have Hn : Hid (nmB s = false) := HB.out (by rw [Hby.out]; unfold chB lttB dgtB; rw [Bool.eq_false_iff]; simp; omega)
     have a3 : (48 : Int) ≤ ((s[k]'hps).toNat : Int) := by omega
     have a4 : ¬ ((s[k]'hps).toNat : Int) ≤ (57 : Int) := by omega
     clear Hstep HB Hby
     go_wp2
     go_ret
     exact ⟨by rw [Hn.out]; rfl, rfl⟩
   ·by_cases a3 : (48 : Int) ≤ ((s[k]'hps).toNat : Int)
    ·by_cases a4 : ((s[k]'hps).toNat : Int) ≤ (57 : Int)
     ·by_cases z : k = 0
      ·have Hn : Hid (nmB s = false) := HB.out (by rw [Hby.out]; unfold chB lttB dgtB; rw [Bool.eq_false_iff]; simp; omega)
       clear Hstep HB Hby
       subst z
       go_wp2
       go_ret
       exact ⟨by rw [Hn.out]; rfl, rfl⟩
      ·have HQ : Hid (nmK s (k + 1) = true) := (show _ = _ by rw [Hstep.out, Hby.out]; unfold chB lttB dgtB; simp; omega)
       clear Hstep HB Hby
       go_wp2
       go_roundg (N - (k + 1))
       case measure => rw [HG.out]; omega
       case rel => exact ⟨k + 1, by omega, rfl, by go_num, HQ, rfl⟩
     ·have Hn : Hid (nmB s = false) := HB.out (by rw [Hby.out]; unfold chB lttB dgtB; rw [Bool.eq_false_iff]; simp; omega)
      clear Hstep HB Hby
      go_wp2
      go_ret
      exact ⟨by rw [Hn.out]; rfl, rfl⟩
    ·have Hn : Hid (nmB s = false) := HB.out (by rw [Hby.out]; unfold chB lttB dgtB; rw [Bool.eq_false_iff]; simp; omega)
     clear Hstep HB Hby
     go_wp2
     go_ret
     exact ⟨by rw [Hn.out]; rfl, rfl⟩
  ·have i2 : ¬ (k : Int) < (N : Int) := by omega
   have e : k = N := by omega
   have HS : Hid (nmB s = true) := (show _ = _ by rw [Hall.out, ← e]; exact hq.out)
   clear hq e
   go_wp2
   go_ret
   exact ⟨by rw [HS.out]; rfl, rfl⟩
set_option maxHeartbeats 1000000 in
theorem dmay_any (j : Jn) (hj : JW j) (w : World) :
  Calls Tryz.prog 62 #[jV j] w fun e w' => e = .returned (.bool (myB j)) ∧ Below w.heap.size w w' := by
 obtain ⟨s, x, y, f⟩ := j
 have hs : s.size ≤ maxLen := hj.1
 clear hj
 have EM : myB (s, x, y, f) = (nmB s && (crB x && crB y) && decide (f ≤ 7)) := rfl
 have HM : Hid _ := EM
 clear EM
 unfold jV
 simp only
 have X0 := JBox.new w (.string s) (.int .i32 x) (.int .i32 y) (.int .u8 f) 46
 have hb0 : Below w.heap.size w (w.alloc (.cells #[.string s, .int .i32 x, .int .i32 y, .int .u8 f] 46)) := (Below.refl _ _).alloc (Nat.le_refl _) _
 have cn := fun w' => dname_any s (by unfold maxLen at hs; omega) w'
 have cx := fun w' => dnear_any x w'
 have cy := fun w' => dnear_any y w'
 go_enter Tryz.func62, Tryz.ntmps62
 go_upto_region 1 with fail
 generalize w.alloc (.cells #[.string s, .int .i32 x, .int .i32 y, .int .u8 f] 46) = W0 at *
 obtain ⟨x0, x1, x2, x3, _, _, _, _, _⟩ := id X0
 generalize nmB s = b0 at *
 generalize crB x = b1 at *
 generalize crB y = b2 at *
 by_cases h2 : f ≤ 7
 ·have i2 : (f : Int) ≤ 7 := by omega
  cases b0 <;> cases b1 <;> cases b2
  all_goals
   go_wp2_with (first | (go_at_call 82; refine (cn _).mono ?_; rintro e w1 ⟨rfl, rfl⟩) | (go_at_call_of 83 (Value.int IntKind.i32 x); refine (cx _).mono ?_; rintro e w1 ⟨rfl, rfl⟩) | (go_at_call 83; refine (cy _).mono ?_; rintro e w1 ⟨rfl, rfl⟩))
   go_ret
   exact ⟨by rw [HM.out]; simp [h2], hb0⟩
 ·have i2 : ¬ (f : Int) ≤ 7 := by omega
  cases b0 <;> cases b1 <;> cases b2
  all_goals
   go_wp2_with (first | (go_at_call 82; refine (cn _).mono ?_; rintro e w1 ⟨rfl, rfl⟩) | (go_at_call_of 83 (Value.int IntKind.i32 x); refine (cx _).mono ?_; rintro e w1 ⟨rfl, rfl⟩) | (go_at_call 83; refine (cy _).mono ?_; rintro e w1 ⟨rfl, rfl⟩))
   go_ret
   exact ⟨by rw [HM.out]; simp [h2] <;> omega, hb0⟩
theorem int_ne_b {a b : Int} (h : ¬ a = b) : (a == b) = false := by simpa using h
set_option maxHeartbeats 4000000 in
theorem dcheck_any (js : List Jn) (ao : Option Addr) (cap : Nat) (w : World) (hr : JRow w ao js) (hw : JWs js) (hn : js.length ≤ 1125899906842624) :
  Calls Tryz.prog 37 #[.slice ao js.length cap] w fun e w' => e = .returned (.tuple #[.int .i64 (ckA js).1, .int .i64 ((ckA js).2 : Nat)]) ∧ Below w.heap.size w w' := by
 have HR : Hid (JRow w ao js) := hr
 clear hr
 obtain ⟨N, hN⟩ : ∃ N, js.length = N := ⟨_, rfl⟩
 have HN : Hid (js.length = N) := hN
 rw [hN] at hn ⊢
 go_enter Tryz.func37, Tryz.ntmps37
 by_cases h1 : 16 < N
 ·have i1 : (16 : Int) < (N : Int) := by omega
  have Hc : Hid (ckA js = (3, 0)) := ck_long (by rw [hN]; exact h1)
  go_wp2
  go_ret2
  exact ⟨by rw [Hc.out]; rfl, Below.refl _ _⟩
 have i1 : ¬ (16 : Int) < (N : Int) := by omega
 have HL : Hid (¬ 16 < js.length) := (by rw [hN]; exact h1 : ¬ 16 < js.length)
 go_wp2
 clear h1 i1 hN
 go_loopg [4] N (fun g v wr => ∃ k : Nat, k ≤ N ∧ g = N - k ∧ v = .int .i64 k ∧ Hid (∀ i, i < k → fB js i = false) ∧ Below w.heap.size w wr)
 case atStart => exact ⟨0, by omega, rfl, rfl, (fun i hi => absurd hi (by omega)), Below.refl _ _⟩
 case round =>
  obtain ⟨k, hk, hg, rfl, hq, hbr⟩ := hrel
  have HG : Hid (gk = N - k) := hg
  clear hg
  by_cases hlt : k < N
  ·have hrr := HR.out.below hbr
   rcases hrr with h | ⟨b, off, rfl, hc⟩
   ·exact absurd (HN.out ▸ h) (by omega)
   ·have hkl : k < js.length := by rw [HN.out]; exact hlt
    obtain ⟨g0, g1, g2, g3⟩ := hc k hkl
    have hjw := hw.at hkl
    obtain ⟨⟨s, x, y, f⟩, ex⟩ : ∃ j, js.getD k jz = j := ⟨_, rfl⟩
    rw [ex] at g0 g1 g2 g3 hjw
    simp only at g0 g1 g2 g3
    clear hc
    have i2 : (k : Int) < (N : Int) := by omega
    have HF : Hid (fB js k = (hsN (js.take k) s || hsP (js.take k) x y || !myB (s, x, y, f))) := (show _ = _ by unfold fB; rw [ex])
    have HB : Hid (fB js k = true → ckA js = (280, k)) := fun q => ck_bad HL.out hkl hq.out q
    have cm := fun w' => dmay_any (s, x, y, f) hjw w'
    unfold jV at cm
    simp only at cm
    generalize myB (s, x, y, f) = my at *
    cases my
    ·have Hc : Hid (ckA js = (280, k)) := HB.out (by rw [HF.out]; simp)
     go_wp2_with (go_at_call 62; refine (cm _).mono ?_; rintro e w1 ⟨rfl, b1⟩)
     go_ret2
     exact ⟨by rw [Hc.out]; rfl, hbr.trans (b1.mono hbr.size)⟩
    ·go_upto_region 9 with (go_at_call 62; refine (cm _).mono ?_; rintro e w1 ⟨rfl, b1⟩)
     have hb1 := hbr.trans (b1.mono hbr.size)
     clear g0 g1 g2 g3 cm b1 hbr hlt hkl
     have HK : Hid (k < N) := (by omega : k < N)
     go_loopg [5] k (fun g v wr => ∃ m : Nat, m ≤ k ∧ g = k - m ∧ v = .int .i64 m ∧ Hid (hsN (js.take m) s = false ∧ hsP (js.take m) x y = false) ∧ Below w.heap.size w wr)
     case atStart => exact ⟨0, by omega, rfl, rfl, ⟨rfl, rfl⟩, hb1⟩
     case round =>
      obtain ⟨m, hm, hg2, rfl, hq2, hbm⟩ := hrel
      have HG2 : Hid (_ = k - m) := hg2
      clear hg2 hb1
      by_cases hlm : m < k
      ·have hrr := HR.out.below hbm
       rcases hrr with h | ⟨b', off', e', hc⟩
       ·exact absurd (HN.out ▸ h) (by have := HK.out; omega)
       ·cases e'
        have hml : m < js.length := by rw [HN.out]; have := HK.out; omega
        have hkl : k < js.length := by rw [HN.out]; exact HK.out
        obtain ⟨g0, g1, g2, g3⟩ := hc k hkl
        obtain ⟨d0, d1, d2, d3⟩ := hc m hml
        have hgrow := jtake_at hml
        have hany : js.getD m jz ∈ js.take k := by
         rw [jgetD_at hml]
         exact List.mem_take_iff_getElem.2 ⟨m, by omega, rfl⟩
        rw [ex] at g0 g1 g2 g3
        obtain ⟨⟨t, p, q, z⟩, ey⟩ : ∃ j, js.getD m jz = j := ⟨_, rfl⟩
        rw [ey] at d0 d1 d2 d3 hgrow hany
        simp only at d0 d1 d2 d3 g0 g1 g2 g3
        have HBN : Hid (t = s → ckA js = (280, k)) := fun e => HB.out (by
         rw [HF.out, show hsN (js.take k) s = true from List.any_eq_true.2 ⟨_, hany, by simp [e]⟩]; rfl)
        have HBP : Hid (p = x ∧ q = y → ckA js = (280, k)) := fun e => HB.out (by
         rw [HF.out, show hsP (js.take k) x y = true from List.any_eq_true.2 ⟨_, hany, by simp [e.1, e.2]⟩]; simp)
        have HQ2 : Hid (¬ t = s → ¬ (p = x ∧ q = y) → hsN (js.take (m + 1)) s = false ∧ hsP (js.take (m + 1)) x y = false) := fun e1 e2 => by
         rw [hgrow, hsN_snoc, hsP_snoc, hq2.out.1, hq2.out.2]
         exact ⟨by simp [e1], by simpa using e2⟩
        have i3 : (m : Int) < (k : Int) := by omega
        have i4 : (m : Int) < (N : Int) := by have := HK.out; omega
        have i5 : m < N := by have := HK.out; omega
        have i6 : k < N := HK.out
        clear hc hgrow hany hml hkl ey hq2 HB HF
        by_cases e1 : t = s
        ·have Hc : Hid (ckA js = (280, k)) := HBN.out e1
         clear HBN HBP HQ2
         subst e1
         go_upto_region 11 with fail
         go_quiet (fail)
         go_wp2
         go_ret2
         exact ⟨by rw [Hc.out]; rfl, below_drewN hbm _⟩
        ·have n1 := txt_ne e1
         by_cases e2 : p = x
         ·by_cases e3 : q = y
          ·have Hc : Hid (ckA js = (280, k)) := HBP.out ⟨e2, e3⟩
           clear HBN HBP HQ2 e1
           subst e2 e3
           go_upto_region 11 with fail
           go_quiet (fail)
           go_wp2
           go_ret2
           exact ⟨by rw [Hc.out]; rfl, below_drewN hbm _⟩
          ·have HQ3 : Hid (hsN (js.take (m + 1)) s = false ∧ hsP (js.take (m + 1)) x y = false) := HQ2.out e1 (fun h => e3 h.2)
           clear HBN HBP HQ2 e1
           subst e2
           have n3 := int_ne_b e3
           go_upto_region 11 with fail
           go_quiet (fail)
           go_wp2
           go_roundg (k - (m + 1))
           case measure => rw [HG2.out]; omega
           case rel => exact ⟨m + 1, by omega, rfl, by go_num, HQ3, below_drewN hbm _⟩
         ·have HQ3 : Hid (hsN (js.take (m + 1)) s = false ∧ hsP (js.take (m + 1)) x y = false) := HQ2.out e1 (fun h => e2 h.1)
          clear HBN HBP HQ2 e1
          have n3 := int_ne_b e2
          go_upto_region 11 with fail
          go_quiet (fail)
          go_wp2
          go_roundg (k - (m + 1))
          case measure => rw [HG2.out]; omega
          case rel => exact ⟨m + 1, by omega, rfl, by go_num, HQ3, below_drewN hbm _⟩
      ·have e : m = k := by omega
       have HQ : Hid (∀ i, i < k + 1 → fB js i = false) := fun i hi => by
        rcases (show i < k ∨ i = k by omega) with h | rfl
        ·exact hq.out i h
        ·rw [HF.out, ← e, hq2.out.1, hq2.out.2]; rfl
       have i3 : ¬ (m : Int) < (k : Int) := by omega
       have i6 : k < N := HK.out
       clear hq2 e HF HB
       go_wp2
       go_roundg (N - (k + 1))
       case measure => rw [HG.out]; omega
       case rel => exact ⟨k + 1, by omega, rfl, by go_num, HQ, hbm⟩
  ·have e : k = js.length := by have := HN.out; omega
   have Hc : Hid (ckA js = (0, 0)) := ck_ok HL.out (by rw [← e]; exact hq.out)
   have i2 : ¬ (k : Int) < (N : Int) := by omega
   clear e
   go_wp2
   go_ret2
   exact ⟨by rw [Hc.out]; rfl, hbr⟩
end Go.Proofs.YtkjgilffljlanaaGreatDoor
