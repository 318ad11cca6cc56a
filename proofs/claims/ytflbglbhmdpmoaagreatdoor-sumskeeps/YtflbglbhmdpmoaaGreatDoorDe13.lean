/- SumsKeeps, of any lists and any way. -/
import Derived.Test.YtflbglbhmdpmoaaGreatDoorDe12
namespace Go.Proofs.YtflbglbhmdpmoaaGreatDoor
open Go.RowKit

/-- What a turn starts from. -/
def KI (w wr : World) (A N : Nat) (X : List Nat) : Prop := X.length = N ∧ FW X ∧ LentF wr A X ∧ Below w.heap.size w wr
set_option maxRecDepth 100000 in
set_option maxHeartbeats 8000000 in
theorem skeeps_law (l k : List Nat) (m : Int) (ao bo : Option Addr) (cap cap2 : Nat) (w : World) (hT : TabW w) (hr : GRow w ao l) (hs : GRow w bo k) (hF : FW l) (hG : FW k) (hc : l.length ≤ cap) (hd : k.length ≤ cap2) (hn : cap ≤ 1125899906842624) (hm : cap2 ≤ 1125899906842624) (za : ao = none → cap = 0 ∧ l.length = 0) :
    Calls Tryz.prog 4 #[.slice ao l.length cap, .slice bo k.length cap2, .int .i8 m] w fun e w' => e = .returned (.bool true) ∧ Below w.heap.size w w' := by
  have cf := few_any l.length cap ao w hc hn
  have cg := fun W => few_any k.length cap2 bo W hd hm
  rw [← few_len] at cf
  simp only [← few_len] at cg
  have hl0 := List.length_take_le 4096 l
  have hl1 := List.length_take_le' 4096 l
  have cL := lentR_any (l.take 4096) ao cap w (hr.take _) (fun h => by have := za h; exact ⟨this.1, by omega⟩) (by omega)
  have FX := hF.take 4096
  have FY := hG.take 4096
  have RY := hs.take 4096
  generalize l.take 4096 = X0 at *
  generalize k.take 4096 = Y at *
  clear hr hs hF hG za
  obtain ⟨N, hN⟩ : ∃ N, X0.length = N := ⟨_, rfl⟩
  rw [hN] at cf cL hl0
  obtain ⟨A, hA⟩ : ∃ A, w.heap.size = A := ⟨_, rfl⟩
  simp only [hA] at cL ⊢
  have HA : Hid (w.heap.size = A) := hA
  have HN : Hid (X0.length = N) := hN
  clear hA hN
  go_enter Tryz.func4, Tryz.ntmps4
  go_upto_region 4 with (first
    | (go_at_call 6; refine cf.mono ?_; rintro e w0 ⟨rfl, h0⟩; subst w0)
    | (go_at_call 13; refine cL.mono ?_; rintro e w1 ⟨rfl, L1, b1⟩))
  clear cf cL
  go_loopg [8] 2 (fun g s8 wr => ∃ (j : Nat) (X : List Nat), j ≤ 2 ∧ g = 2 - j ∧ s8 = .int .i64 j ∧ Hid (KI w wr A N X))
  case atStart => exact ⟨0, X0, by omega, rfl, rfl, (show KI _ _ _ _ _ from ⟨HN.out, FX, L1, by rw [HA.out]; exact b1⟩)⟩
  case round =>
    clear L1 b1 FX HN
    obtain ⟨j, X, hj, hg, rfl, hK⟩ := hrel
    obtain ⟨hX, FX, LX, bX⟩ := hK.out
    have HG : Hid (gk = 2 - j) := hg
    have HX : Hid (X.length = N) := hX
    clear hg hK
    by_cases hlt : j < 2
    · have i1 : (j : Int) < 2 := by omega
      have cC : ∀ W, LentF W A X → Calls Tryz.prog 14 #[.slice (some ⟨A, 0, none⟩) N (N + 12)] W fun e w' => ∃ bo bc, e = .returned (.slice bo N bc) ∧ GRow w' bo X ∧ N ≤ bc ∧ bc ≤ 9223372036854775807 ∧ Below W.heap.size W w' := fun W h => by
        have := copyL_any X A (N + 12) W h (by omega)
        unfold GaveK at this
        rw [hX] at this
        exact this
      have cK : ∀ W bo bc, GRow W bo X → LentF W A X → Calls Tryz.prog 25 #[.slice (some ⟨A, 0, none⟩) N (N + 12), .slice bo N bc] W fun e w' => e = .returned (.bool true) ∧ Below W.heap.size W w' := fun W bo bc h1 h2 => by
        have := keptR_any X bo bc A W h1 FX h2 (by omega)
        rw [hX] at this
        exact this
      obtain ⟨x1, z1, hx1, c1, c2⟩ := kx_ex X N A m hX FX hl0
      obtain ⟨x2, z2, hx2, c3, c4⟩ := kx_dx X N A m hX FX hl0
      obtain ⟨x3, y3, z3, c5, c6⟩ := kx_nr X N A hX FX hl0
      obtain ⟨o4, z4, c7, c8⟩ := kx_dt X N A hX FX hl0
      obtain ⟨o5, d1, d2⟩ := kx_nv X N A hX FX hl0
      obtain ⟨o6, d3, d4⟩ := kx_pw X N A hX FX hl0
      obtain ⟨o7, d5, d6⟩ := kx_kp X N A hX FX hl0
      have q1 : (z1 != z1) = false := by simp
      have q2 : (z2 != z2) = false := by simp
      have q3 : (z3 != z3) = false := by simp
      have hTr := tabW_below hT bX
      clear hX
      go_upto_region 7 with (go_at_call 14; refine (cC _ LX).mono ?_; rintro e w0 ⟨co, cc, rfl, g0, n0, n1, b0⟩)
      have K0 : KW w A X co w0 := ⟨LX.below b0, g0, tabW_below hTr b0, bX.trans (b0.mono bX.size)⟩
      clear cC g0 b0 LX hTr bX
      go_upto_region 15 with (first
        | (go_at_call 15; refine (c1 _ K0.t K0.l.row).mono ?_; rintro e w1 ⟨rfl, b1⟩; have K1 := K0.later b1)
        | (go_at_call 16; refine (c2 _ _ _ K1.g).mono ?_; rintro e w2 ⟨rfl, b2⟩; have K2 := K1.later b2)
        | (go_at_call 9; refine (c3 _ K2.t K2.l.row).mono ?_; rintro e w3 ⟨rfl, b3⟩; have K3 := K2.later b3)
        | (go_at_call 10; refine (c4 _ _ _ K3.g).mono ?_; rintro e w4 ⟨rfl, b4⟩; have K4 := K3.later b4)
        | (go_at_call 17; refine (c5 _ K4.t K4.l.row).mono ?_; rintro e w5 ⟨rfl, hx3, hy3, b5⟩; have K5 := K4.later b5)
        | (go_at_call 18; refine (c6 _ _ _ K5.g).mono ?_; rintro e w6 ⟨rfl, b6⟩; have K6 := K5.later b6)
        | (go_at_call 7; refine (c7 _ K6.l.row).mono ?_; rintro e w7 ⟨r7, rfl, n7, b7⟩; have K7 := K6.later b7)
        | (go_at_call 8; refine (c8 _ _ _ K7.g).mono ?_; rintro e w8 ⟨r8, rfl, n8, b8⟩; have K8 := K7.later b8))
      clear c1 c2 c3 c4 c5 c6 c7 c8 b1 b2 b3 b4 b5 b6 b7 b8 K0 K1 K2 K3 K4 K5 K6 K7
      have s1 := fun W => samef_one x1 hx1 W
      have s2 := fun W => samef_one x2 hx2 W
      have s3 := fun W => samef_one x3 hx3 W
      have s4 := fun W => samef_one y3 hy3 W
      have s5 := fun W => sameNR n7 n8 W
      clear hx1 hx2 hx3 hy3 n7 n8
      go_upto_region 17 with (first
        | (go_at_call_of 11 (Value.float FloatKind.f64 x1); refine (s1 _).mono ?_; rintro e w' ⟨rfl, h'⟩; subst w')
        | (go_at_call_of 11 (Value.float FloatKind.f64 x2); refine (s2 _).mono ?_; rintro e w' ⟨rfl, h'⟩; subst w')
        | (go_at_call_of 11 (Value.float FloatKind.f64 x3); refine (s3 _).mono ?_; rintro e w' ⟨rfl, h'⟩; subst w')
        | (go_at_call_of 11 (Value.float FloatKind.f64 y3); refine (s4 _).mono ?_; rintro e w' ⟨rfl, h'⟩; subst w')
        | (go_at_call_of 11 (Value.float FloatKind.f64 r7); refine (s5 _).mono ?_; rintro e w' ⟨rfl, h'⟩; subst w'))
      clear s1 s2 s3 s4 s5 q1 q2 q3
      go_upto_region 19 with (first
        | (go_at_call 19; refine (d1 _ K8.l.row).mono ?_; rintro e w1 ⟨t1, rfl, n1', b1⟩; have K1 := K8.later b1)
        | (go_at_call 20; refine (d2 _ _ _ K1.g).mono ?_; rintro e w2 ⟨t2, rfl, n2, b2⟩; have K2 := K1.later b2)
        | (go_at_call 21; refine (d3 _ K2.l.row).mono ?_; rintro e w3 ⟨t3, rfl, n3, b3⟩; have K3 := K2.later b3)
        | (go_at_call 22; refine (d4 _ _ _ K3.g n0 n1).mono ?_; rintro e w4 ⟨t4, rfl, n4, b4⟩; have K4 := K3.later b4)
        | (go_at_call 23; refine (d5 _ K4.l.row).mono ?_; rintro e w5 ⟨t5, rfl, n5, b5⟩; have K5 := K4.later b5)
        | (go_at_call 24; refine (d6 _ _ _ K5.g).mono ?_; rintro e w6 ⟨t6, rfl, n6, b6⟩; have K6 := K5.later b6)
        | (go_at_call 25; refine (cK _ _ _ K6.g K6.l).mono ?_; rintro e w7 ⟨rfl, b7⟩; have K7 := K6.later b7)
        | (go_at_call 11; refine (sameNR n5 n6 _).mono ?_; rintro e w' ⟨rfl, h'⟩; subst w')
        | (go_at_call 11; refine (sameNR n3 n4 _).mono ?_; rintro e w' ⟨rfl, h'⟩; subst w')
        | (go_at_call 11; refine (sameNR n1' n2 _).mono ?_; rintro e w' ⟨rfl, h'⟩; subst w'))
      obtain ⟨w9, Z, hcp, eZ, FZ, LZ, bZ⟩ := lay_over (cap := N + 12) (cap2 := cap2) K7.b (by rw [HA.out]; exact Nat.le_refl _) K7.l FX (RY.below K7.b) FY
      rw [HX.out] at hcp eZ
      clear d1 d2 d3 d4 d5 d6 cK K1 K2 K3 K4 K5 K6 K8 b1 b2 b3 b4 b5 b6 b7 n0 n1 n1' n2 n3 n4 n5 n6 RY FY FX
      go_wp2_with (go_at_call 6; refine (cg _).mono ?_; rintro e w' ⟨rfl, h'⟩; subst w')
      go_roundg (2 - (j + 1))
      case measure => rw [HG.out]; omega
      case rel => exact ⟨j + 1, Z, by omega, rfl, by go_num, (show KI _ _ _ _ _ from ⟨eZ, FZ, LZ, bZ⟩)⟩
    · have ej : j = 2 := by omega
      subst ej
      have hTr := tabW_below hT bX
      go_wp2_with (go_at_call 12; refine (uawake _ hTr).mono ?_; rintro e w7 ⟨rfl, b7⟩)
      go_ret
      exact ⟨rfl, by rw [← HA.out]; exact bX.trans (b7.mono bX.size)⟩
end Go.Proofs.YtflbglbhmdpmoaaGreatDoor
