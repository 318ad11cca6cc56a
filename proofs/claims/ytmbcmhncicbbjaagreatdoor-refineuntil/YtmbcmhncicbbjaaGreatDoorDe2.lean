/- What inNone of products answers; DotExact. -/
import Derived.Test.YtmbcmhncicbbjaaGreatDoorDe1
namespace Go.Proofs.YtmbcmhncicbbjaaGreatDoor
open Go.RowKit

set_option maxRecDepth 100000 in
set_option maxHeartbeats 4000000 in
theorem dnone_any (xs ys : List Nat) (ao bo : Option Addr) (cap cap2 A B : Nat) (m : Int) (P T : Nat → Dy) (w : World) (hT : TabW w) (hr : GRow w ao xs) (hs : GRow w bo ys) (hF : FW xs) (hG : FW ys) (hln : ys.length = xs.length) (hn : xs.length ≤ 1125899906842624) (hA : w.cell? ⟨A, 0, none⟩ = some (.slice ao xs.length cap)) (hB : w.cell? ⟨B, 0, none⟩ = some (.slice bo ys.length cap2))
    (hO : ∀ k, k < xs.length → ∃ X Y, ofD (xs.getD k 0) = (X, 0) ∧ ofD (ys.getD k 0) = (Y, 0) ∧ mulD X Y = (P k, 0) ∧ Lm X.mag ∧ Lm Y.mag ∧ Lm (P k).mag) (hT0 : T 0 = dy0) (hAd : ∀ k, k < xs.length → addD (T k) (P k) = (T (k + 1), 0)) (hL : ∀ k, k ≤ xs.length → Lm (T k).mag) (hR : rightB (T xs.length) = true) :
    Calls Tryz.prog 79 #[.int .i64 xs.length, .int .i8 m, .func (.func 80) #[] #[.pointer (some ⟨A, 0, none⟩), .pointer (some ⟨B, 0, none⟩)]] w fun e w' => e = .returned (.float .f64 (rndW (T xs.length) m)) ∧ Below w.heap.size w w' := by
  have e0 : (T 0).neg = false ∧ (T 0).mag = [] ∧ (T 0).exp = 0 := by rw [hT0]; exact ⟨rfl, rfl, rfl⟩
  go_enter Tryz.func79, Tryz.ntmps79
  go_wp2
  go_loopg [8, 13] xs.length (fun g _ i wr => ∃ k : Nat, ∃ a c, k ≤ xs.length ∧ g = xs.length - k ∧ i = .int .i64 k ∧ Hid (Hd wr w.heap.size (T k) a c) ∧ Hid (Fz wr w.heap.size) ∧ Hid (Frs (w.heap.size + 1) a) ∧ Hid (Below w.heap.size w wr))
  case atStart =>
    refine ⟨0, none, 0, Nat.zero_le _, rfl, rfl, (show Hd _ _ _ _ _ from ⟨?_, ?_, ?_, Or.inl (by rw [e0.2.1]; rfl)⟩), (show Fz _ _ from ⟨?_, ?_, ?_⟩), Frs.none _, (show Below _ _ _ from (Below.refl _ _).alloc (Nat.le_refl _) _)⟩
    · rw [e0.1]; go_simp
    · rw [e0.2.1]; go_simp
    · rw [e0.2.2]; go_simp
    all_goals go_simp
  case round =>
    obtain ⟨k, a, c, hk, hg, rfl, hH, hZ, hfr, hBl⟩ := hrel
    have HG : Hid (gk = xs.length - k) := hg
    clear hg
    have hP : w.heap.size < wr.heap.size := World.block_lt_of_cell? wr _ hH.out.c0
    by_cases hlt : k < xs.length
    · have hAw : wr.cell? ⟨A, 0, none⟩ = some (.slice ao xs.length cap) := by
        rw [hBl.out.cell (World.block_lt_of_cell? w _ hA)]; exact hA
      have hBw : wr.cell? ⟨B, 0, none⟩ = some (.slice bo ys.length cap2) := by
        rw [hBl.out.cell (World.block_lt_of_cell? w _ hB)]; exact hB
      rcases hr.below hBl.out with h | ⟨b, off, rfl, hc⟩
      · omega
      rcases hs.below hBl.out with h | ⟨b2, off2, rfl, hd⟩
      · omega
      · have hTr := tabW_below hT hBl.out
        obtain ⟨X, Y, eX, eY, eP, lX, lY, lP⟩ := hO k hlt
        have ce := dx1_any xs.length ys.length b off cap b2 off2 cap2 A B k _ _ X Y (P k) wr.drew hTr (hF.at hlt) (hG.at (by omega)) eX eY eP lX lY (hc k hlt) (hd k (by omega)) hlt (by omega) hAw hBw
        have oa := fun ao bo cap bcap w h1 h2 h3 => Add_any (T k) (P k) ao bo cap bcap w h1 h2 (hL k hk) lP h3
        rw [hAd k hlt] at oa
        have HH := hH.out
        have HZ := hZ.out
        have HF := hfr.out
        have HB := hBl.out
        have k0 := HH.c0
        have k1 := HH.c1
        have k2 := HH.c2
        obtain ⟨f0, f1, f2⟩ := hZ.out
        have i1 : (k : Int) < (xs.length : Int) := by omega
        clear hc hO hAd hL hR hF hBw hAw hd hG eX eY eP lX lY lP hln
        generalize P k = D at *
        go_wp2
        go_region_with
          (first
            | (go_at_call 80; refine ce.mono ?_; rintro e x1 ⟨ax, cx, rfl, r1, _, y1⟩; have z1 := ldrew y1; have H1 := HH.below z1; have k0 := H1.c0; have k1 := H1.c1; have k2 := H1.c2; have T1 := tabW_below hTr z1)
            | (go_at_call 114; refine (oa _ _ _ _ _ H1.row r1 T1).mono ?_; rintro e x2 ⟨ae, cae, rfl, r2, fr2, y2⟩; have z2 := z1.trans (y2.mono z1.size); have H2 := HH.below z2; have k0 := H2.c0; have k1 := H2.c1; have k2 := H2.c2; have Z2 := HZ.below hP z2; obtain ⟨f0, f1, f2⟩ := Z2; have Z2 := HZ.below hP z2))
        all_goals
          have hfe : Frs (w.heap.size + 1) ae := fr2.mono (by have := z1.size; omega)
          have hBz := HB.trans (z2.mono HB.size)
          have P3 := put3 (c := cae) H2 Z2 r2 hfe (by omega)
          go_wp2
          go_roundg (xs.length - (k + 1))
          case measure => rw [HG.out]; omega
          case rel => exact ⟨k + 1, ae, cae, by omega, rfl, by go_num, P3.1, P3.2, hfe, ((hBz.setCell (Nat.le_refl _) _).setCell (Nat.le_refl _) _).setCell (Nat.le_refl _) _⟩
    · have ek : k = xs.length := by omega
      subst ek
      have hRo := fun w h => Round_ok (T xs.length).neg (T xs.length).mag (T xs.length).exp a c m w h (hL _ (Nat.le_refl _)) hR
      have HH := hH.out
      have k0 := HH.c0
      have k1 := HH.c1
      have k2 := HH.c2
      have hrow := HH.row
      have HB := hBl.out
      have i1 : ¬ (xs.length : Int) < (xs.length : Int) := by omega
      clear hO hAd hL hR hF
      go_wp2_with (go_at_call 115; refine (hRo _ hrow).mono ?_; rintro e w2 ⟨rfl, b2⟩)
      go_ret
      exact ⟨rfl, HB.trans (b2.mono HB.size)⟩
theorem dxlen_ne {n k : Nat} (h : n ≠ k) : ((n : Int) != (k : Int)) = true := by
  simp; omega
/-- What DotExact answers. -/
def dxA (xs ys : List Nat) (m : Int) : Nat × Int := if ys.length = xs.length then (if xs.all finB && ys.all finB then (dxW xs ys m, 0) else (0, 5)) else (0, 4)
theorem dx_yes {xs ys : List Nat} {m : Int} (h1 : ys.length = xs.length) (h2 : xs.all finB = true) (h3 : ys.all finB = true) : dxA xs ys m = (dxW xs ys m, 0) := by
  unfold dxA; rw [if_pos h1, h2, h3]; rfl
set_option maxRecDepth 100000 in
set_option maxHeartbeats 2000000 in
theorem dotx_any (xs ys : List Nat) (ao bo : Option Addr) (cap cap2 : Nat) (m : Int) (w : World) (hT : TabW w) (hr : GRow w ao xs) (hs : GRow w bo ys) (hF : FW xs) (hG : FW ys) (hn : xs.length ≤ 1125899906842624) (hm : ys.length ≤ 1125899906842624) :
    Calls Tryz.prog 48 #[.slice ao xs.length cap, .slice bo ys.length cap2, .int .i8 m] w fun e w' => e = .returned (.tuple #[.float .f64 (dxA xs ys m).1, .int .i64 (dxA xs ys m).2]) ∧ Below w.heap.size w w' := by
  have ca := fun w h => allfin_any xs ao cap w h hF hn
  have cb := fun w h => allfin_any ys bo cap2 w h hG hm
  have B2 : Below w.heap.size w ((w.alloc (.cells #[.slice ao xs.length cap] 22)).alloc (.cells #[.slice bo ys.length cap2] 22)) := ((Below.refl _ _).alloc (Nat.le_refl _) _).alloc (by simp) _
  have gA : ((w.alloc (.cells #[.slice ao xs.length cap] 22)).alloc (.cells #[.slice bo ys.length cap2] 22)).cell? ⟨w.heap.size, 0, none⟩ = some (.slice ao xs.length cap) := by go_simp
  have gB : ((w.alloc (.cells #[.slice ao xs.length cap] 22)).alloc (.cells #[.slice bo ys.length cap2] 22)).cell? ⟨w.heap.size + 1, 0, none⟩ = some (.slice bo ys.length cap2) := by go_simp
  have g1 := hr.below B2
  have g2 := hs.below B2
  have gT := tabW_below hT B2
  by_cases hl : ys.length = xs.length
  case neg =>
    have e1 : dxA xs ys m = (0, 4) := by unfold dxA; rw [if_neg hl]
    have i1 : ((xs.length : Int) != (ys.length : Int)) = true := dxlen_ne (fun h => hl h.symm)
    rw [e1]
    clear hl e1
    go_enter Tryz.func48, Tryz.ntmps48
    go_wp2
    exact bodyPost_ret (v := .tuple #[.float .f64 0, .int .i64 4]) (by simp [results, Tryz.results48, go_sem]) rfl ⟨rfl, B2⟩
  have i1 : ((xs.length : Int) != (ys.length : Int)) = false := by simp; omega
  cases hf : xs.all finB
  · have e1 : dxA xs ys m = (0, 5) := by unfold dxA; rw [if_pos hl, hf]; rfl
    rw [hf] at ca
    rw [e1]
    clear hl e1 hf
    go_enter Tryz.func48, Tryz.ntmps48
    go_wp2_with (go_at_call 78; refine (ca _ g1).mono ?_; rintro e w' ⟨rfl, h'⟩; subst w')
    exact bodyPost_ret (v := .tuple #[.float .f64 0, .int .i64 5]) (by simp [results, Tryz.results48, go_sem]) rfl ⟨rfl, B2⟩
  rw [hf] at ca
  cases hg : ys.all finB
  · have e1 : dxA xs ys m = (0, 5) := by unfold dxA; rw [if_pos hl, hf, hg]; rfl
    rw [hg] at cb
    rw [e1]
    clear hl e1 hf hg
    go_enter Tryz.func48, Tryz.ntmps48
    go_wp2_with (first
      | (go_at_call_of 78 (Value.slice ao xs.length cap); refine (ca _ g1).mono ?_; rintro e w' ⟨rfl, h'⟩; subst w')
      | (go_at_call 78; refine (cb _ g2).mono ?_; rintro e w' ⟨rfl, h'⟩; subst w'))
    exact bodyPost_ret (v := .tuple #[.float .f64 0, .int .i64 5]) (by simp [results, Tryz.results48, go_sem]) rfl ⟨rfl, B2⟩
  rw [hg] at cb
  rw [dx_yes hl hf hg]
  have ci := dnone_any xs ys ao bo cap cap2 w.heap.size (w.heap.size + 1) m (fun k => dz (vI (xs.getD k 0) * vI (ys.getD k 0))) (fun k => dz (dI xs ys k)) _ gT g1 g2 hF hG hl hn gA gB
    (fun k hk => by
      have fx := fin_at hf hk
      have fy := fin_at hg (k := k) (by omega)
      obtain ⟨a1, _, a3, _⟩ := fq_qd fx (K := 64462) rfl
      obtain ⟨b1, _, b3, _⟩ := fq_qd fy (K := 64462) rfl
      exact ⟨_, _, by rw [← a1], by rw [← b1], mul_fq fx fy, a3, b3, nrm_lm _ _⟩) rfl (fun k hk => dt_add hf hg hl hn hk) (fun k _ => nrm_lm _ _) (dt_qd hf hg hl hn (Nat.le_refl _) (K := 63388) rfl).1
  rw [show rndW (dz (dI xs ys xs.length)) m = dxW xs ys m from rfl] at ci
  generalize dxW xs ys m = R at *
  have HB := B2.size
  clear hl hf hg
  go_enter Tryz.func48, Tryz.ntmps48
  go_wp2_with (first
    | (go_at_call_of 78 (Value.slice ao xs.length cap); refine (ca _ g1).mono ?_; rintro e w' ⟨rfl, h'⟩; subst w')
    | (go_at_call 78; refine (cb _ g2).mono ?_; rintro e w' ⟨rfl, h'⟩; subst w')
    | (go_at_call 79; refine ci.mono ?_; rintro e w2 ⟨rfl, b2⟩))
  exact bodyPost_ret (v := .tuple #[.float .f64 R, .int .i64 0]) (by simp [results, Tryz.results48, go_sem]) rfl ⟨rfl, B2.trans (b2.mono HB)⟩
end Go.Proofs.YtmbcmhncicbbjaaGreatDoor
