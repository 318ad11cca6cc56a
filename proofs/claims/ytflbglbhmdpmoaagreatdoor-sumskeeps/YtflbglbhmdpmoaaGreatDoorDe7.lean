/- SumsDots' walk. -/
import Derived.Test.YtflbglbhmdpmoaaGreatDoorDe6
import Derived.Test.YtflbglbhmdpmoaaGreatDoorZ14
import Derived.Test.YtflbglbhmdpmoaaGreatDoorIb
import Derived.Deep.QuietTactic
import Derived.BigQuiet
namespace Go.Proofs.YtflbglbhmdpmoaaGreatDoor
open Go.RowKit

/-- What Dot answers. -/
def dqO (xs ys : List Nat) : Option Nat := if ys.length = xs.length then dotO xs ys xs.length else some 0
def dqE (xs ys : List Nat) : Int := if ys.length = xs.length then 0 else 4
theorem pdot_all (xs ys : List Nat) (ao bo : Option Addr) (cap cap2 : Nat) (w : World) (hr : GRow w ao xs) (hs : GRow w bo ys) (hF : FW xs) (hG : FW ys) (hn : xs.length ≤ 1125899906842624) :
    Calls Tryz.prog 7 #[.slice ao xs.length cap, .slice bo ys.length cap2] w fun e w' => ∃ r, e = .returned (.tuple #[.float .f64 r, .int .i64 (dqE xs ys)]) ∧ NR (dqO xs ys) r ∧ Below w.heap.size w w' := by
  unfold dqO dqE
  by_cases h : ys.length = xs.length
  · rw [if_pos h, if_pos h]
    have := dot_any xs ys ao bo cap cap2 w hr hs hF hG h hn
    rw [h]; exact this
  · rw [if_neg h, if_neg h]
    refine (dot_shape xs.length ys.length ao bo cap cap2 w h).mono ?_
    rintro e w' ⟨rfl, b⟩
    exact ⟨0, rfl, ⟨by decide, rfl⟩, b⟩
theorem rdot_all (xs ys : List Nat) (ao bo : Option Addr) (cap cap2 : Nat) (w : World) (hr : GRow w ao xs) (hs : GRow w bo ys) (hF : FW xs) (hG : FW ys) (hn : xs.length ≤ 1125899906842624) :
    Calls Tryz.prog 8 #[.slice ao xs.length cap, .slice bo ys.length cap2] w fun e w' => ∃ r, e = .returned (.tuple #[.float .f64 r, .int .i64 (dqE xs ys)]) ∧ NR (dqO xs ys) r ∧ Below w.heap.size w w' := by
  unfold dqO dqE
  by_cases h : ys.length = xs.length
  · rw [if_pos h, if_pos h]
    have := rdot_any xs ys ao bo cap cap2 w hr hs hF hG h hn
    rw [h]; exact this
  · rw [if_neg h, if_neg h]
    refine (rdot_shape xs.length ys.length ao bo cap cap2 w h).mono ?_
    rintro e w' ⟨rfl, b⟩
    exact ⟨0, rfl, ⟨by decide, rfl⟩, b⟩
theorem dz_rightW (X : Int) : rightB (dz X) = true := by
  by_cases h : (nrm X (-2148)).2 = 0
  · exact (nrm_ok h).1
  · have e : dz X = dy0 := by
      unfold dz
      revert h
      unfold nrm
      split
      · intro h; exact absurd rfl h
      · split
        · intro _; rfl
        · intro h; exact absurd rfl h
    rw [e]; rfl
theorem dxA_lt (xs ys : List Nat) (m : Int) : (dxA xs ys m).1 < 18446744073709551616 := by
  unfold dxA
  split
  · split
    · show dxW xs ys m < _
      have h := dz_rightW (dI xs ys xs.length)
      unfold dxW
      generalize dz (dI xs ys xs.length) = d at *
      unfold rndW
      split
      · omega
      · rename_i h0
        have := rSz_lt (vl d.mag) d.exp (szm d.neg m) (right_ne h h0).1
        split <;> omega
    · show 0 < _; omega
  · show 0 < _; omega
/-- Two lists of the loop. -/
structure TwL (wr : World) (X Y : List Nat) (ao bo : Option Addr) (cap cap2 : Nat) : Prop where
  rX : GRow wr ao X
  rY : GRow wr bo Y
  fX : FW X
  fY : FW Y
  nX : X.length ≤ 4096
  nY : Y.length ≤ 4096
  cX : X.length ≤ cap
  cY : Y.length ≤ cap2
theorem TwL.later {wr w1 : World} {X Y : List Nat} {ao bo : Option Addr} {cap cap2 : Nat} (h : TwL wr X Y ao bo cap cap2) (hb : Below wr.heap.size wr w1) : TwL w1 X Y ao bo cap cap2 := ⟨h.rX.below hb, h.rY.below hb, h.fX, h.fY, h.nX, h.nY, h.cX, h.cY⟩
theorem TwL.cut {wr : World} {X Y : List Nat} {ao bo : Option Addr} {cap cap2 : Nat} (h : TwL wr X Y ao bo cap cap2) (n : Nat) : TwL wr (X.take n) (Y.take n) ao bo cap cap2 := by
  have l1 := List.length_take_le n X
  have l2 := List.length_take_le n Y
  have l3 := List.length_take_le' n X
  have l4 := List.length_take_le' n Y
  have := h.nX; have := h.nY; have := h.cX; have := h.cY
  exact ⟨h.rX.take n, h.rY.take n, h.fX.take n, h.fY.take n, by omega, by omega, by omega, by omega⟩
set_option maxRecDepth 100000 in
set_option maxHeartbeats 4000000 in
theorem dots_law (l k : List Nat) (m : Int) (ao bo : Option Addr) (cap cap2 : Nat) (w : World) (hT : TabW w) (hr : GRow w ao l) (hs : GRow w bo k) (hF : FW l) (hG : FW k) (hc : l.length ≤ cap) (hd : k.length ≤ cap2) (hn : cap ≤ 1125899906842624) (hm : cap2 ≤ 1125899906842624) :
    Calls Tryz.prog 3 #[.slice ao l.length cap, .slice bo k.length cap2, .int .i8 m] w fun e w' => e = .returned (.bool true) ∧ Below w.heap.size w w' := by
  have U0 : TwL w (l.take 4096) (k.take 4096) ao bo cap cap2 := by
    have l1 := List.length_take_le 4096 l
    have l2 := List.length_take_le 4096 k
    have l3 := List.length_take_le' 4096 l
    have l4 := List.length_take_le' 4096 k
    exact ⟨hr.take _, hs.take _, hF.take _, hG.take _, l1, l2, by omega, by omega⟩
  have cf := few_any l.length cap ao w hc hn
  have cg := few_any k.length cap2 bo w hd hm
  rw [← few_len] at cf cg
  generalize l.take 4096 = X0 at *
  generalize k.take 4096 = Y0 at *
  clear hr hs hF hG
  go_enter Tryz.func3, Tryz.ntmps3
  go_upto_region 3 with (first
    | (go_at_call_of 6 (Value.slice ao l.length cap); refine cf.mono ?_; rintro e w0 ⟨rfl, h0⟩; subst w0)
    | (go_at_call 6; refine cg.mono ?_; rintro e w0 ⟨rfl, h0⟩; subst w0))
  clear cf cg hc hd
  go_loopg [0, 1, 7] 2 (fun g s0 s1 s7 wr => ∃ (j : Nat) (X Y : List Nat), j ≤ 2 ∧ g = 2 - j ∧ s0 = .slice ao X.length cap ∧ s1 = .slice bo Y.length cap2 ∧ s7 = .int .i64 j ∧ TwL wr X Y ao bo cap cap2 ∧ Hid (Below w.heap.size w wr))
  case atStart => exact ⟨0, X0, Y0, by omega, rfl, rfl, rfl, rfl, U0, Below.refl _ _⟩
  case round =>
    clear U0
    obtain ⟨j, X, Y, hj, hg, rfl, rfl, rfl, U, hB⟩ := hrel
    have HG : Hid (gk = 2 - j) := hg
    clear hg
    have nX := U.nX
    have nY := U.nY
    by_cases hlt : j < 2
    · have i1 : (j : Int) < 2 := by omega
      have hTr := tabW_below hT hB.out
      have c1 := fun W h1 h2 => pdot_all X Y ao bo cap cap2 W h1 h2 U.fX U.fY (by omega)
      have c2 := fun W h1 h2 => rdot_all X Y ao bo cap cap2 W h1 h2 U.fX U.fY (by omega)
      have c3 := fun W h0 h1 h2 => dotx_any X Y ao bo cap cap2 m W h0 h1 h2 U.fX U.fY (by omega) (by omega)
      have c4 := fun W h1 h2 => rdotx_any X Y ao bo cap cap2 m W h1 h2 U.fX U.fY (by omega) (by omega)
      have sx := fun W => samef_one (dxA X Y m).1 (dxA_lt X Y m) W
      generalize dxA X Y m = D at *
      obtain ⟨D1, D2⟩ := D
      simp only at c3 c4 sx
      generalize dqO X Y = O at *
      generalize dqE X Y = E at *
      have q1 : (E != E) = false := by simp
      have q2 : (D2 != D2) = false := by simp
      have HU : Hid (∀ W n, Below wr.heap.size wr W → n ≤ X.length → n ≤ Y.length → ∃ X' Y' : List Nat, X'.length = n ∧ Y'.length = n ∧ TwL W X' Y' ao bo cap cap2) := fun W n hb h1 h2 => ⟨X.take n, Y.take n, by rw [List.length_take]; omega, by rw [List.length_take]; omega, (U.later hb).cut n⟩
      have uc1 := U.cX
      have uc2 := U.cY
      have i2 : (X.length : Int) ≤ (cap : Int) := by omega
      have i3 : (Y.length : Int) ≤ (cap2 : Int) := by omega
      obtain ⟨xn, hxn⟩ : ∃ n, X.length = n := ⟨_, rfl⟩
      obtain ⟨yn, hyn⟩ : ∃ n, Y.length = n := ⟨_, rfl⟩
      rw [hxn] at c1 c2 c3 c4 HU i2 nX ⊢
      rw [hyn] at c1 c2 c3 c4 HU i3 nY ⊢
      clear hxn hyn uc1 uc2
      go_upto_region 11 with (first
        | (go_at_call 7; refine (c1 _ U.rX U.rY).mono ?_; rintro e w1 ⟨r1, rfl, n1, b1⟩; have U1 := U.later b1)
        | (go_at_call 8; refine (c2 _ U1.rX U1.rY).mono ?_; rintro e w2 ⟨r2, rfl, n2, b2⟩; have U2 := U1.later b2; have B2 := b1.trans (b2.mono b1.size))
        | (go_at_call 9; refine (c3 _ (tabW_below hTr B2) U2.rX U2.rY).mono ?_; rintro e w3 ⟨rfl, b3⟩; have U3 := U2.later b3; have B3 := B2.trans (b3.mono B2.size))
        | (go_at_call 10; refine (c4 _ U3.rX U3.rY).mono ?_; rintro e w4 ⟨rfl, b4⟩; have B4 := B3.trans (b4.mono B3.size))
        | (go_at_call_of 11 (Value.float FloatKind.f64 D1); refine (sx _).mono ?_; rintro e w' ⟨rfl, h'⟩; subst w')
        | (go_at_call 11; have ss := samef_any r1 r2 n1.1 n2.1 w4; rw [NR_same n1 n2] at ss; refine ss.mono ?_; rintro e w' ⟨rfl, h'⟩; subst w'))
      have HB4 := hB.out.trans (B4.mono hB.out.size)
      have HU4 := fun n => HU.out w4 n B4
      clear c1 c2 c3 c4 sx U U1 U2 U3 n1 n2 b1 b2 b3 b4 B2 B3 hTr HU
      by_cases hle : xn ≤ yn
      · have k1 : ¬ (yn : Int) < (xn : Int) := by omega
        have k2 : (xn : Int) ≤ (cap2 : Int) := by omega
        obtain ⟨X', Y', e1, e2, U5⟩ := HU4 xn (Nat.le_refl _) hle
        clear HU4 hle
        go_wp2
        go_quiet (fail)
        go_wp2
        go_roundg (2 - (j + 1))
        case measure => rw [HG.out]; omega
        case rel => exact ⟨j + 1, X', Y', by omega, rfl, by rw [e1], by rw [e2], by go_num, U5.later (below_drewN (Below.refl _ _) _), (show Below _ _ _ from below_drewN HB4 _)⟩
      · have k1 : (yn : Int) < (xn : Int) := by omega
        have k2 : (yn : Int) ≤ (cap : Int) := by omega
        obtain ⟨X', Y', e1, e2, U5⟩ := HU4 yn (by omega) (Nat.le_refl _)
        clear HU4 hle
        go_wp2
        go_quiet (fail)
        go_wp2
        go_roundg (2 - (j + 1))
        case measure => rw [HG.out]; omega
        case rel => exact ⟨j + 1, X', Y', by omega, rfl, by rw [e1], by rw [e2], by go_num, U5.later (below_drewN (Below.refl _ _) _), (show Below _ _ _ from below_drewN HB4 _)⟩
    · have ej : j = 2 := by omega
      subst ej
      have hTr := tabW_below hT hB.out
      have HB := hB.out
      go_wp2_with (go_at_call 12; refine (uawake _ hTr).mono ?_; rintro e w7 ⟨rfl, b7⟩)
      go_ret
      exact ⟨rfl, HB.trans (b7.mono HB.size)⟩
end Go.Proofs.YtflbglbhmdpmoaaGreatDoor
