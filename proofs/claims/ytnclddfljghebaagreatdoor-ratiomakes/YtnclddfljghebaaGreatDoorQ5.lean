/- Ratios: Div, Sign, Cmp of right ones. (Written by mkrtj.py.) -/
import Derived.Test.YtnclddfljghebaaGreatDoorQ4
namespace Go.Proofs.YtnclddfljghebaaGreatDoor
open Go.RowKit

set_option maxHeartbeats 1000000 in
theorem lmul_any (xs ys : List Nat) (ao bo : Option Addr) (cap bcap : Nat) (w : World) (hr : LRow w ao xs) (hs : LRow w bo ys) (hL : Lm xs) (hM : Lm ys) (n1 : xs.length ≤ 40000) (n2 : ys.length ≤ 40000) :
    Calls Tryz.prog 69 #[.slice ao xs.length cap, .slice bo ys.length bcap] w (GaveLW w (vl xs * vl ys)) := by
  have hmk := run_make_row' (P := Tryz.prog) 22 46 (.int .u64 0) 8 Tryz.underlying22 Tryz.infoU rfl .i64 .i64 (xs.length + ys.length) (by omega) (by omega)
  rw [Int.natCast_add] at hmk
  have hmade := FRow.made w (xs.length + ys.length)
  have hbm : Below w.heap.size w (w.alloc (.cells (madeCells #[.int .u64 0] (xs.length + ys.length)) 46)) := (Below.refl _ _).alloc (Nat.le_refl _) _
  go_enter Tryz.func69, Tryz.ntmps69
  go_wp2
  clear hmk
  go_loopg [15] xs.length (fun g i wr => ∃ (k : Nat) (f : Nat → Nat), k ≤ xs.length ∧ g = xs.length - k ∧ i = .int .i64 k ∧ Hid (Prod' xs ys (xs.length + ys.length) k f) ∧ FRow wr w.heap.size (xs.length + ys.length) f ∧ Below w.heap.size w wr)
  case atStart => exact ⟨0, _, Nat.zero_le _, rfl, rfl, prod_nil _ _ _, hmade, hbm⟩
  case round =>
    obtain ⟨k, f, hk, hg, rfl, hP, hrw, hbw⟩ := hrel
    clear hmade hbm
    by_cases hlt : k < xs.length
    · rcases hr with h | ⟨bx, ox, rfl, hc⟩
      · omega
      · have g0 := hc k hlt
        have hblk := World.block_lt_of_cell? w _ g0
        have g1 : wr.cell? ⟨bx, ox + k, none⟩ = some (.int .u64 (xs.getD k 0 : Nat)) := by rw [hbw.cell hblk]; exact g0
        obtain ⟨x, hx⟩ : ∃ x, xs.getD k 0 = x := ⟨_, rfl⟩
        have kx := hL.getD k
        rw [hx] at g0 g1 kx
        have HX : Hid (xs.getD k 0 = x) := hx
        have htl : (toL ys.length fun j => f (k + j)).length = ys.length := toL_length _ _
        have htm : Lm (toL ys.length fun j => f (k + j)) := toL_lm fun j hj => hP.out.1 _ (by omega)
        have hct := fun w' (hb' : Below w.heap.size w w') (hf' : FRow w' w.heap.size (xs.length + ys.length) f) => addTimes_any w w' ys (toL ys.length fun j => f (k + j)) bo bcap (xs.length + ys.length - k) (xs.length + ys.length) k x f hs hb' hf' hM htm htl (fun j hj => (toL_getD (f := fun j => f (k + j)) hj).symm) (by omega) (by omega) kx (by omega) (by omega)
        have i1 : (k : Int) < (xs.length : Int) := by omega
        have i2 : (k : Int) + (ys.length : Int) < (xs.length : Int) + (ys.length : Int) := by omega
        have i0 : (0 : Int) ≤ (k : Int) := by omega
        have hwr : IntKind.i64.wrap ((k : Int) + (ys.length : Int)) = (k : Int) + (ys.length : Int) := by rw [IntKind.wrap_i64]; omega
        have i3 : (k : Int) ≤ (k : Int) + (ys.length : Int) := by omega
        have i4 : (k : Int) + (ys.length : Int) ≤ (xs.length : Int) + (ys.length : Int) := by omega
        have i5 : ¬ xs.length + ys.length = k := by omega
        have i6 : ((k : Int) + (ys.length : Int) - (k : Int)).toNat = ys.length := by omega
        have i7 : (0 : Int) ≤ (k : Int) + (ys.length : Int) := by omega
        have i8 : ((k : Int) + (ys.length : Int)).toNat = k + ys.length := by omega
        clear hc hx
        go_wp2
        go_region_held3 (fun w' => w'.cell? ⟨bx, ox + k, none⟩ = some (.int .u64 x)) (go_keep)
          (first | (go_at_call 97; refine (hct wr.drew hbw.drew hrw).mono ?_; rintro e w1 ⟨out, c, rfl, hR, hrow1, hb1⟩; have g3 := World.rowIs.cell hrow1 (i := k + ys.length) (by omega); have g4 := World.rowIs.frozen hrow1 (k + ys.length); have g2 : w1.cell? ⟨bx, ox + k, none⟩ = some (.int .u64 x) := (by rw [hb1.cell hblk]; exact g0); have g5 : ∀ v, (w1.setCell ⟨w.heap.size, k + ys.length, none⟩ v).cell? ⟨bx, ox + k, none⟩ = some (.int .u64 x) := (fun v => (by rw [World.cell?_of_block (w := w1) (Below.heap_setCell w1 _ v bx (by have := hblk; simp only at this ⊢; omega))]; exact g2))))
        have HR : Hid _ := hR
        have hset := hrow1.set (k + ys.length) c
        have hbs := hb1.setCell (p := ⟨w.heap.size, k + ys.length, none⟩) (Nat.le_refl _) (.int .u64 (c : Int))
        clear hR hct hrow1 hb1 g3 g4 g2 g5 hwr
        go_wp2
        go_roundg (xs.length - (k + 1))
        case measure => omega
        case rel =>
          refine ⟨k + 1, _, by omega, rfl, by go_num, prod_step hP.out rfl hlt ?_, hset, hbs⟩
          have := HR.out
          rw [HX.out]
          exact this
    · have hkk : k = xs.length := by omega
      subst hkk
      have htr := trim_any (xs.length + ys.length) (xs.length + ys.length) f w.heap.size wr hrw.lrowL hP.out.1 (Nat.le_refl _) (by omega)
      obtain ⟨ht1, ht2⟩ := trim_vF hP.out.1
      obtain ⟨m, hm⟩ : ∃ m, (bl (vF (xs.length + ys.length) f) + 63) / 64 = m := ⟨_, rfl⟩
      rw [hm] at htr ht1 ht2
      have HV : Hid (vF m f = vl xs * vl ys) := (show vF m f = vl xs * vl ys by rw [ht2, hP.out.2.1, List.take_length])
      have HN : Hid (nl (vl xs * vl ys) = m) := (show _ = _ by rw [← hm, hP.out.2.1, List.take_length]; rfl)
      clear hm ht2
      go_wp2_with (go_at_call 35; refine htr.mono ?_; rintro e w1 ⟨rfl, h1⟩; subst w1)
      go_ret
      have hLm : Lm (toL m f) := toL_lm fun j hj => hP.out.1 j (by omega)
      have hlo : lo (vl xs * vl ys) = toL m f := by
        have e := tl_vl hLm
        rw [toL_length, toL_vl, HV.out] at e
        unfold lo
        rw [HN.out]
        exact e
      exact ⟨some ⟨w.heap.size, 0, none⟩, xs.length + ys.length, congrArg (fun z => Ending.returned (Value.slice (some ⟨w.heap.size, 0, none⟩) z (xs.length + ys.length))) HN.out.symm, ⟨by rw [hlo]; exact hrw.lrowL.cutL ht1, by rw [hlo, toL_length]; exact ht1, fun e => by cases e⟩, hbw⟩
/-- A right ratio. -/
structure RqB (neg : Bool) (N D : Nat) : Prop where
  d0 : D ≠ 0
  g : Nat.gcd N D = 1
  n : nl N ≤ 256
  d : nl D ≤ 256
  z : N = 0 → neg = false
theorem fit_lo {z : Nat} (h0 : z ≠ 0) (h : nl z ≤ 256) : fitL (lo z) = true := by
  have hl := lo_last h0
  unfold fitL
  rw [decide_eq_true hl.1, lo_length] at *
  rw [decide_eq_true (show 0 < nl z by have := nlR_pos h0; omega), decide_eq_true h]
  rfl
theorem RqB.right {neg : Bool} {N D : Nat} (h : RqB neg N D) : rtB neg (lo N) (lo D) = true := by
  unfold rtB
  by_cases hN : N = 0
  · have hz := h.z hN
    subst hN hz
    have hg := h.g
    rw [Nat.gcd_zero_left] at hg
    subst hg
    rw [if_pos (show (lo 0).length = 0 from rfl)]
    rfl
  · have := nlR_pos hN
    rw [lo_length, if_neg (by omega), fit_lo hN h.n, fit_lo h.d0 h.d, vl_lo, vl_lo, h.g]
    rfl
/-- What nmA tells is right. -/
theorem nmA_right {neg neg' : Bool} {N D N' D' : Nat} {er : Int} (h : nmA neg N D = (some (neg', N', D'), er)) : RqB neg' N' D' := by
  unfold nmA at h
  split at h
  · cases h
  · rename_i hD
    split at h
    · cases h
      exact ⟨by omega, rfl, by decide, by decide, fun _ => rfl⟩
    · rename_i hN
      split at h
      · rename_i hc
        cases h
        have hg : 0 < Nat.gcd N D := Nat.gcd_pos_of_pos_right _ (by omega)
        refine ⟨?_, by rw [Nat.gcd_div (Nat.gcd_dvd_left N D) (Nat.gcd_dvd_right N D), Nat.div_self hg], hc.1, hc.2, fun hz => ?_⟩
        · exact Nat.ne_of_gt (Nat.div_pos (Nat.le_of_dvd (by omega) (Nat.gcd_dvd_right N D)) hg)
        · have := Nat.div_pos (Nat.le_of_dvd (by omega) (Nat.gcd_dvd_left N D)) hg
          omega
      · cases h
end Go.Proofs.YtnclddfljghebaaGreatDoor

namespace Go.Proofs.YtnclddfljghebaaGreatDoor
open Go.RowKit

theorem nl_mul {a b : Nat} (ha : nl a ≤ 300) (hb : nl b ≤ 300) : nl (a * b) ≤ 600 := by
  have h1 : a < 2 ^ bl a := bl_le_iff.1 (Nat.le_refl _)
  have h2 : b < 2 ^ bl b := bl_le_iff.1 (Nat.le_refl _)
  have h3 : a * b < 2 ^ (bl a + bl b) := by rw [Nat.pow_add]; exact Nat.mul_lt_mul'' h1 h2
  have := bl_le_iff.2 h3
  unfold nl at *
  omega
set_option maxRecDepth 100000 in
set_option maxHeartbeats 1000000 in
theorem rmulq_any (n1 n2 : Bool) (N1 D1 N2 D2 : Nat) (ao1 bo1 ao2 bo2 : Option Addr) (ac1 bc1 ac2 bc2 : Nat) (w : World) (a1 : LS w ao1 ac1 (lo N1)) (b1 : LS w bo1 bc1 (lo D1)) (a2 : LS w ao2 ac2 (lo N2)) (b2 : LS w bo2 bc2 (lo D2)) (hT : TabW w) (k1 : nl N1 ≤ 256) (k2 : nl D1 ≤ 256) (k3 : nl N2 ≤ 256) (k4 : nl D2 ≤ 256) :
    Calls Tryz.prog 63 #[.agg #[.bool n1, .slice ao1 (nl N1) ac1, .slice bo1 (nl D1) bc1], .agg #[.bool n2, .slice ao2 (nl N2) ac2, .slice bo2 (nl D2) bc2]] w (GaveR w (nmA (n1 != n2) (N1 * N2) (D1 * D2)).1 (nmA (n1 != n2) (N1 * N2) (D1 * D2)).2) := by
  have AB := ((B3q.new w (.bool n1) (.slice ao1 (nl N1) ac1) (.slice bo1 (nl D1) bc1) 24).alloc (.cells #[.bool n2, .slice ao2 (nl N2) ac2, .slice bo2 (nl D2) bc2] 24)).alloc (.cells #[.bool false, .slice none 0 0, .slice none 0 0] 24)
  have BB := (B3q.new (w.alloc (.cells #[.bool n1, .slice ao1 (nl N1) ac1, .slice bo1 (nl D1) bc1] 24)) (.bool n2) (.slice ao2 (nl N2) ac2) (.slice bo2 (nl D2) bc2) 24).alloc (.cells #[.bool false, .slice none 0 0, .slice none 0 0] 24)
  have OB := B3q.new ((w.alloc (.cells #[.bool n1, .slice ao1 (nl N1) ac1, .slice bo1 (nl D1) bc1] 24)).alloc (.cells #[.bool n2, .slice ao2 (nl N2) ac2, .slice bo2 (nl D2) bc2] 24)) (.bool false) (.slice none 0 0) (.slice none 0 0) 24
  have hs1 : (w.alloc (.cells #[.bool n1, .slice ao1 (nl N1) ac1, .slice bo1 (nl D1) bc1] 24)).heap.size = w.heap.size + 1 := by simp
  have hs2 : ((w.alloc (.cells #[.bool n1, .slice ao1 (nl N1) ac1, .slice bo1 (nl D1) bc1] 24)).alloc (.cells #[.bool n2, .slice ao2 (nl N2) ac2, .slice bo2 (nl D2) bc2] 24)).heap.size = w.heap.size + 1 + 1 := by simp
  rw [hs1] at BB
  rw [hs2] at OB
  have hb0 : Below w.heap.size w (((w.alloc (.cells #[.bool n1, .slice ao1 (nl N1) ac1, .slice bo1 (nl D1) bc1] 24)).alloc (.cells #[.bool n2, .slice ao2 (nl N2) ac2, .slice bo2 (nl D2) bc2] 24)).alloc (.cells #[.bool false, .slice none 0 0, .slice none 0 0] 24)) := (((Below.refl _ _).alloc (Nat.le_refl _) _).alloc (by rw [hs1]; omega) _).alloc (by rw [hs2]; omega) _
  have A1 := a1.below hb0
  have B1 := b1.below hb0
  have A2 := a2.below hb0
  have B2 := b2.below hb0
  have T1 := tabW_below hT hb0
  obtain ⟨o, er, hnm⟩ : ∃ o er, nmA (n1 != n2) (N1 * N2) (D1 * D2) = (o, er) := ⟨_, _, rfl⟩
  rw [hnm]
  have e1 := lo_length N1
  have e2 := lo_length D1
  have e3 := lo_length N2
  have e4 := lo_length D2
  go_enter Tryz.func63, Tryz.ntmps63
  go_upto_region 1 with fail
  generalize ((w.alloc (.cells #[.bool n1, .slice ao1 (nl N1) ac1, .slice bo1 (nl D1) bc1] 24)).alloc (.cells #[.bool n2, .slice ao2 (nl N2) ac2, .slice bo2 (nl D2) bc2] 24)).alloc (.cells #[.bool false, .slice none 0 0, .slice none 0 0] 24) = W0 at *
  clear hs1 hs2 hT a1 b1 a2 b2
  have u1 : ¬ w.heap.size = w.heap.size + 1 + 1 := by omega
  have u2 : ¬ w.heap.size + 1 + 1 = w.heap.size := by omega
  have u3 : ¬ w.heap.size + 1 = w.heap.size + 1 + 1 := by omega
  have u4 : ¬ w.heap.size + 1 + 1 = w.heap.size + 1 := by omega
  obtain ⟨x0, x1, x2, _, _, _, _, xlt⟩ := id AB
  obtain ⟨y0, y1, y2, _, _, _, _, ylt⟩ := id BB
  obtain ⟨o0, o1, o2, q0, q1, q2, _, olt⟩ := id OB
  have HC : ∀ w', Below W0.heap.size W0 w' → w'.cell? ⟨w.heap.size, 0, none⟩ = some (.bool n1) ∧ w'.cell? ⟨w.heap.size, 1, none⟩ = some (.slice ao1 (nl N1) ac1) ∧ w'.cell? ⟨w.heap.size, 2, none⟩ = some (.slice bo1 (nl D1) bc1) ∧ w'.cell? ⟨w.heap.size + 1, 0, none⟩ = some (.bool n2) ∧ w'.cell? ⟨w.heap.size + 1, 1, none⟩ = some (.slice ao2 (nl N2) ac2) ∧ w'.cell? ⟨w.heap.size + 1, 2, none⟩ = some (.slice bo2 (nl D2) bc2) := fun w' h =>
    ⟨(AB.below h).c0, (AB.below h).c1, (AB.below h).c2, (BB.below h).c0, (BB.below h).c1, (BB.below h).c2⟩
  have b1d := (Below.refl W0.heap.size W0).drew
  have m1 := lmul_any (lo N1) (lo N2) ao1 ao2 ac1 ac2 W0.drew (A1.1.below b1d) (A2.1.below b1d) (lo_lm _) (lo_lm _) (by omega) (by omega)
  have m2 := fun w' (h : Below W0.heap.size W0 w') => lmul_any (lo D1) (lo D2) bo1 bo2 bc1 bc2 w' (B1.1.below h) (B2.1.below h) (lo_lm _) (lo_lm _) (by omega) (by omega)
  simp only [lo_length, vl_lo] at m1 m2
  have l1 : nl (N1 * N2) ≤ 600 := nl_mul (by omega) (by omega)
  have l2 : nl (D1 * D2) ≤ 600 := nl_mul (by omega) (by omega)
  obtain ⟨P, eP⟩ : ∃ P, N1 * N2 = P := ⟨_, rfl⟩
  obtain ⟨Q, eQ⟩ : ∃ Q, D1 * D2 = Q := ⟨_, rfl⟩
  rw [eP] at m1 hnm l1
  simp only [eQ] at m2
  rw [eQ] at hnm l2
  have cn := fun w' po pc qo qc (h : Below W0.heap.size W0 w') (hp : LS w' po pc (lo P)) (hq : LS w' qo qc (lo Q)) => rnorm_any (n1 != n2) (lo P) (lo Q) po qo pc qc w' hp hq (lo_lm _) (lo_lm _) (by rw [lo_length]; omega) (by rw [lo_length]; omega) (tabW_below T1 h)
  simp only [lo_length, vl_lo, hnm] at cn
  clear hnm eP eQ
  have m0 := HC _ b1d
  cases o with
  | none =>
    unfold GaveR at cn
    go_region_held3 (fun w' => w'.cell? ⟨w.heap.size, 0, none⟩ = some (.bool n1) ∧ w'.cell? ⟨w.heap.size, 1, none⟩ = some (.slice ao1 (nl N1) ac1) ∧ w'.cell? ⟨w.heap.size, 2, none⟩ = some (.slice bo1 (nl D1) bc1) ∧ w'.cell? ⟨w.heap.size + 1, 0, none⟩ = some (.bool n2) ∧ w'.cell? ⟨w.heap.size + 1, 1, none⟩ = some (.slice ao2 (nl N2) ac2) ∧ w'.cell? ⟨w.heap.size + 1, 2, none⟩ = some (.slice bo2 (nl D2) bc2)) (go_keep)
      (first
        | (go_at_call 8; refine (cn _ _ _ _ _ b4 hP4 hQ4).mono ?_; rintro e w5 ⟨rfl, hb5⟩; have b5 := b4.trans (hb5.mono b4.size); have k5 := HC _ b5; have OB5 := OB.below b5; obtain ⟨o0', o1', o2', q0', q1', q2', _, _⟩ := id OB5)
        | (go_at_call 69; refine (m2 _ b3).mono ?_; rintro e w4 ⟨qo, qc, rfl, hQ4, hb4⟩; have b4 := b3.trans (hb4.mono b3.size); have k4 := HC _ b4; have hP4 := hP3.below hb4)
        | (go_at_call 69; refine m1.mono ?_; rintro e w3 ⟨po, pc, rfl, hP3, hb3⟩; have b3 : Below W0.heap.size W0 w3 := b1d.trans hb3; have k3 := HC _ b3))
    have b6 := hb0.trans (b5.mono hb0.size)
    go_wp2
    exact bodyPost_ret (v := .tuple #[.agg #[.bool false, .slice none 0 0, .slice none 0 0], .int .i64 er]) (by simp [results, Tryz.results63, go_sem, o0', o1', o2']) rfl ⟨rfl, below_three b6 (by omega) _ _ _⟩
  | some r =>
    obtain ⟨ng, N3, D3⟩ := r
    unfold GaveR at cn
    go_region_held3 (fun w' => w'.cell? ⟨w.heap.size, 0, none⟩ = some (.bool n1) ∧ w'.cell? ⟨w.heap.size, 1, none⟩ = some (.slice ao1 (nl N1) ac1) ∧ w'.cell? ⟨w.heap.size, 2, none⟩ = some (.slice bo1 (nl D1) bc1) ∧ w'.cell? ⟨w.heap.size + 1, 0, none⟩ = some (.bool n2) ∧ w'.cell? ⟨w.heap.size + 1, 1, none⟩ = some (.slice ao2 (nl N2) ac2) ∧ w'.cell? ⟨w.heap.size + 1, 2, none⟩ = some (.slice bo2 (nl D2) bc2)) (go_keep)
      (first
        | (go_at_call 8; refine (cn _ _ _ _ _ b4 hP4 hQ4).mono ?_; rintro e w5 ⟨ro, rc, so, sc, rfl, hA3, hB3, hb5⟩; have b5 := b4.trans (hb5.mono b4.size); have k5 := HC _ b5; have OB5 := OB.below b5; obtain ⟨o0', o1', o2', q0', q1', q2', _, _⟩ := id OB5)
        | (go_at_call 69; refine (m2 _ b3).mono ?_; rintro e w4 ⟨qo, qc, rfl, hQ4, hb4⟩; have b4 := b3.trans (hb4.mono b3.size); have k4 := HC _ b4; have hP4 := hP3.below hb4)
        | (go_at_call 69; refine m1.mono ?_; rintro e w3 ⟨po, pc, rfl, hP3, hb3⟩; have b3 : Below W0.heap.size W0 w3 := b1d.trans hb3; have k3 := HC _ b3))
    have b6 := hb0.trans (b5.mono hb0.size)
    go_wp2
    exact bodyPost_ret (v := .tuple #[.agg #[.bool ng, .slice ro (nl N3) rc, .slice so (nl D3) sc], .int .i64 0]) (by simp [results, Tryz.results63, go_sem, o0', o1', o2']) rfl ⟨ro, rc, so, sc, rfl, hA3.threeB OB5 _ _ _, hB3.threeB OB5 _ _ _, below_three b6 (by omega) _ _ _⟩
end Go.Proofs.YtnclddfljghebaaGreatDoor

namespace Go.Proofs.YtnclddfljghebaaGreatDoor
open Go.RowKit

theorem B3q.fill {w : World} {g : Nat} {x y z : Value} (h : B3q w g x y z) (a b c : Value) : B3q (((w.setCell ⟨g, 0, none⟩ a).setCell ⟨g, 1, none⟩ b).setCell ⟨g, 2, none⟩ c) g a b c := by
  obtain ⟨c0, c1, c2, f0, f1, f2, no, lt⟩ := h
  refine ⟨by go_simp, by go_simp, by go_simp, by go_simp, by go_simp, by go_simp, fun k hk => ?_, by simpa [World.setCell] using lt⟩
  have := no k hk
  simp [go_sem, this]
theorem B3q.set0 {w : World} {g : Nat} {x y z : Value} (h : B3q w g x y z) (a : Value) : B3q (w.setCell ⟨g, 0, none⟩ a) g a y z := by
  obtain ⟨c0, c1, c2, f0, f1, f2, no, lt⟩ := h
  refine ⟨by go_simp, by go_simp, by go_simp, by go_simp, by go_simp, by go_simp, fun k hk => ?_, by simpa [World.setCell] using lt⟩
  have := no k hk
  simp [go_sem, this]
theorem B3q.set1 {w : World} {g : Nat} {x y z : Value} (h : B3q w g x y z) (a : Value) : B3q (w.setCell ⟨g, 1, none⟩ a) g x a z := by
  obtain ⟨c0, c1, c2, f0, f1, f2, no, lt⟩ := h
  refine ⟨by go_simp, by go_simp, by go_simp, by go_simp, by go_simp, by go_simp, fun k hk => ?_, by simpa [World.setCell] using lt⟩
  have := no k hk
  simp [go_sem, this]
theorem LS.boxed {w : World} {ao : Option Addr} {cap : Nat} {xs : List Nat} (h : LS w ao cap xs) {g : Nat} {x : Bool} {y0 z0 : Option Addr} {y1 y2 z1 z2 : Nat} (hB : B3q w g (.bool x) (.slice y0 y1 y2) (.slice z0 z1 z2)) (i : Nat) (a : Value) :
    LS (w.setCell ⟨g, i, none⟩ a) ao cap xs := by
  refine ⟨?_, h.2⟩
  rcases h.1 with e | ⟨q, off, rfl, hc⟩
  · exact Or.inl e
  · by_cases l0 : xs.length = 0
    · exact Or.inl l0
    · have hq : q ≠ g := fun k => by
        subst k
        have cc := hc 0 (by omega)
        rw [Nat.add_zero] at cc
        rcases (show off = 0 ∨ off = 1 ∨ off = 2 ∨ 3 ≤ off by omega) with rfl | rfl | rfl | h2
        · rw [hB.c0] at cc; cases cc
        · rw [hB.c1] at cc; cases cc
        · rw [hB.c2] at cc; cases cc
        · rw [hB.no off h2] at cc; cases cc
      refine Or.inr ⟨q, off, rfl, fun j hj => ?_⟩
      rw [World.cell?_setCell_other _ _ _ _ (fun e => by have := congrArg Addr.block e; simp at this; omega)]
      exact hc j hj
theorem nl_add {a b : Nat} (ha : nl a ≤ 600) (hb : nl b ≤ 600) : nl (a + b) ≤ 700 := by
  obtain ⟨K, hK⟩ : ∃ K, max (bl a) (bl b) = K := ⟨_, rfl⟩
  have h1 : a < 2 ^ K := bl_le_iff.1 (by omega)
  have h2 : b < 2 ^ K := bl_le_iff.1 (by omega)
  have h3 : a + b < 2 ^ (K + 1) := by rw [Nat.pow_succ]; omega
  have := bl_le_iff.2 h3
  unfold nl at *
  omega
/-- The sum of two sizes with signs. -/
def smQ (n1 n2 : Bool) (x y : Nat) : Bool × Nat := if n1 = n2 then (n1, x + y) else if x < y then (n2, y - x) else (n1, x - y)
set_option maxRecDepth 100000 in
set_option maxHeartbeats 1000000 in
theorem raddq_any (n1 n2 : Bool) (N1 D1 N2 D2 : Nat) (ao1 bo1 ao2 bo2 : Option Addr) (ac1 bc1 ac2 bc2 : Nat) (w : World) (a1 : LS w ao1 ac1 (lo N1)) (b1 : LS w bo1 bc1 (lo D1)) (a2 : LS w ao2 ac2 (lo N2)) (b2 : LS w bo2 bc2 (lo D2)) (hT : TabW w) (k1 : nl N1 ≤ 256) (k2 : nl D1 ≤ 256) (k3 : nl N2 ≤ 256) (k4 : nl D2 ≤ 256) :
    Calls Tryz.prog 60 #[.agg #[.bool n1, .slice ao1 (nl N1) ac1, .slice bo1 (nl D1) bc1], .agg #[.bool n2, .slice ao2 (nl N2) ac2, .slice bo2 (nl D2) bc2]] w (GaveR w (nmA (smQ n1 n2 (N1 * D2) (N2 * D1)).1 (smQ n1 n2 (N1 * D2) (N2 * D1)).2 (D1 * D2)).1 (nmA (smQ n1 n2 (N1 * D2) (N2 * D1)).1 (smQ n1 n2 (N1 * D2) (N2 * D1)).2 (D1 * D2)).2) := by
  have AB := ((B3q.new w (.bool n1) (.slice ao1 (nl N1) ac1) (.slice bo1 (nl D1) bc1) 24).alloc (.cells #[.bool n2, .slice ao2 (nl N2) ac2, .slice bo2 (nl D2) bc2] 24)).alloc (.cells #[.bool false, .slice none 0 0, .slice none 0 0] 24)
  have BB := (B3q.new (w.alloc (.cells #[.bool n1, .slice ao1 (nl N1) ac1, .slice bo1 (nl D1) bc1] 24)) (.bool n2) (.slice ao2 (nl N2) ac2) (.slice bo2 (nl D2) bc2) 24).alloc (.cells #[.bool false, .slice none 0 0, .slice none 0 0] 24)
  have OB := B3q.new ((w.alloc (.cells #[.bool n1, .slice ao1 (nl N1) ac1, .slice bo1 (nl D1) bc1] 24)).alloc (.cells #[.bool n2, .slice ao2 (nl N2) ac2, .slice bo2 (nl D2) bc2] 24)) (.bool false) (.slice none 0 0) (.slice none 0 0) 24
  have hs1 : (w.alloc (.cells #[.bool n1, .slice ao1 (nl N1) ac1, .slice bo1 (nl D1) bc1] 24)).heap.size = w.heap.size + 1 := by simp
  have hs2 : ((w.alloc (.cells #[.bool n1, .slice ao1 (nl N1) ac1, .slice bo1 (nl D1) bc1] 24)).alloc (.cells #[.bool n2, .slice ao2 (nl N2) ac2, .slice bo2 (nl D2) bc2] 24)).heap.size = w.heap.size + 1 + 1 := by simp
  rw [hs1] at BB
  rw [hs2] at OB
  have hb0 : Below w.heap.size w (((w.alloc (.cells #[.bool n1, .slice ao1 (nl N1) ac1, .slice bo1 (nl D1) bc1] 24)).alloc (.cells #[.bool n2, .slice ao2 (nl N2) ac2, .slice bo2 (nl D2) bc2] 24)).alloc (.cells #[.bool false, .slice none 0 0, .slice none 0 0] 24)) := (((Below.refl _ _).alloc (Nat.le_refl _) _).alloc (by rw [hs1]; omega) _).alloc (by rw [hs2]; omega) _
  have A1 := a1.below hb0
  have B1 := b1.below hb0
  have A2 := a2.below hb0
  have B2 := b2.below hb0
  have T1 := tabW_below hT hb0
  have l1 : nl (N1 * D2) ≤ 600 := nl_mul (by omega) (by omega)
  have l2 : nl (N2 * D1) ≤ 600 := nl_mul (by omega) (by omega)
  have l3 : nl (D1 * D2) ≤ 600 := nl_mul (by omega) (by omega)
  obtain ⟨X, eX⟩ : ∃ X, N1 * D2 = X := ⟨_, rfl⟩
  obtain ⟨Y, eY⟩ : ∃ Y, N2 * D1 = Y := ⟨_, rfl⟩
  obtain ⟨Q, eQ⟩ : ∃ Q, D1 * D2 = Q := ⟨_, rfl⟩
  rw [eX] at l1 ⊢
  rw [eY] at l2 ⊢
  rw [eQ] at l3 ⊢
  obtain ⟨s, Z, hsm⟩ : ∃ s Z, smQ n1 n2 X Y = (s, Z) := ⟨_, _, rfl⟩
  rw [hsm]
  dsimp only
  obtain ⟨o, er, hnm⟩ : ∃ o er, nmA s Z Q = (o, er) := ⟨_, _, rfl⟩
  rw [hnm]
  have HSM : Hid _ := hsm
  have HNM : Hid _ := hnm
  clear hsm hnm
  have e1 := lo_length N1
  have e2 := lo_length D1
  have e3 := lo_length N2
  have e4 := lo_length D2
  go_enter Tryz.func60, Tryz.ntmps60
  go_upto_region 1 with fail
  generalize ((w.alloc (.cells #[.bool n1, .slice ao1 (nl N1) ac1, .slice bo1 (nl D1) bc1] 24)).alloc (.cells #[.bool n2, .slice ao2 (nl N2) ac2, .slice bo2 (nl D2) bc2] 24)).alloc (.cells #[.bool false, .slice none 0 0, .slice none 0 0] 24) = W0 at *
  clear hs1 hs2 hT a1 b1 a2 b2
  have u1 : ¬ w.heap.size = w.heap.size + 1 + 1 := by omega
  have u2 : ¬ w.heap.size + 1 + 1 = w.heap.size := by omega
  have u3 : ¬ w.heap.size + 1 = w.heap.size + 1 + 1 := by omega
  have u4 : ¬ w.heap.size + 1 + 1 = w.heap.size + 1 := by omega
  obtain ⟨x0, x1, x2, _, _, _, _, xlt⟩ := id AB
  obtain ⟨y0, y1, y2, _, _, _, _, ylt⟩ := id BB
  obtain ⟨o0, o1, o2, q0, q1, q2, _, olt⟩ := id OB
  have HC : ∀ w', Below W0.heap.size W0 w' → w'.cell? ⟨w.heap.size, 0, none⟩ = some (.bool n1) ∧ w'.cell? ⟨w.heap.size, 1, none⟩ = some (.slice ao1 (nl N1) ac1) ∧ w'.cell? ⟨w.heap.size, 2, none⟩ = some (.slice bo1 (nl D1) bc1) ∧ w'.cell? ⟨w.heap.size + 1, 0, none⟩ = some (.bool n2) ∧ w'.cell? ⟨w.heap.size + 1, 1, none⟩ = some (.slice ao2 (nl N2) ac2) ∧ w'.cell? ⟨w.heap.size + 1, 2, none⟩ = some (.slice bo2 (nl D2) bc2) := fun w' h =>
    ⟨(AB.below h).c0, (AB.below h).c1, (AB.below h).c2, (BB.below h).c0, (BB.below h).c1, (BB.below h).c2⟩
  have b1d := (Below.refl W0.heap.size W0).drew
  have m1 := lmul_any (lo N1) (lo D2) ao1 bo2 ac1 bc2 W0.drew (A1.1.below b1d) (B2.1.below b1d) (lo_lm _) (lo_lm _) (by omega) (by omega)
  have m2 := fun w' (h : Below W0.heap.size W0 w') => lmul_any (lo N2) (lo D1) ao2 bo1 ac2 bc1 w' (A2.1.below h) (B1.1.below h) (lo_lm _) (lo_lm _) (by omega) (by omega)
  have m3 := fun w' (h : Below W0.heap.size W0 w') => lmul_any (lo D1) (lo D2) bo1 bo2 bc1 bc2 w' (B1.1.below h) (B2.1.below h) (lo_lm _) (lo_lm _) (by omega) (by omega)
  simp only [lo_length, vl_lo, eX, eY, eQ] at m1 m2 m3
  clear eX eY eQ
  have m0 := HC _ b1d
  go_region_held3 (fun w' => w'.cell? ⟨w.heap.size, 0, none⟩ = some (.bool n1) ∧ w'.cell? ⟨w.heap.size, 1, none⟩ = some (.slice ao1 (nl N1) ac1) ∧ w'.cell? ⟨w.heap.size, 2, none⟩ = some (.slice bo1 (nl D1) bc1) ∧ w'.cell? ⟨w.heap.size + 1, 0, none⟩ = some (.bool n2) ∧ w'.cell? ⟨w.heap.size + 1, 1, none⟩ = some (.slice ao2 (nl N2) ac2) ∧ w'.cell? ⟨w.heap.size + 1, 2, none⟩ = some (.slice bo2 (nl D2) bc2)) (go_keep)
    (first
      | (go_at_call 69; refine (m2 _ b3).mono ?_; rintro e w4 ⟨yo, yc, rfl, hY4, hb4⟩; have b4 := b3.trans (hb4.mono b3.size); have k4 := HC _ b4; have hX4 := hX3.below hb4)
      | (go_at_call 69; refine m1.mono ?_; rintro e w3 ⟨xo, xc, rfl, hX3, hb3⟩; have b3 : Below W0.heap.size W0 w3 := b1d.trans hb3; have k3 := HC _ b3))
  clear m1 m2 hb3 hb4 k3 m0 hX3
  go_upto_region 2 with fail
  go_cut [8] from 9 (fun s8 wx => ∃ (g : Nat) (qo : Option Addr) (qc : Nat), s8 = .pointer (some ⟨g, 0, none⟩) ∧ B3q wx g (.bool n1) (.slice none 0 0) (.slice qo (nl Q) qc) ∧ LS wx qo qc (lo Q) ∧ Below w4.heap.size w4 wx ∧ w4.heap.size ≤ g)
  case first =>
    have b4d := (Below.refl w4.heap.size w4).drew
    have m5 := m3 w4.drew b4.drew
    have m6 := m3 (w4.drew.alloc (.cells #[.bool false, .slice none 0 0, .slice none 0 0] 24)) (b4.drew.alloc b4.size _)
    have b6d := b4.drew.alloc b4.size (.cells #[.bool false, .slice none 0 0, .slice none 0 0] 24)
    have hs6 : W0.heap.size ≤ (w4.drew.alloc (.cells #[.bool false, .slice none 0 0, .slice none 0 0] 24)).heap.size := b6d.size
    have NB0 : B3q (w4.drew.alloc (.cells #[.bool false, .slice none 0 0, .slice none 0 0] 24)) w4.heap.size (.bool false) (.slice none 0 0) (.slice none 0 0) := B3q.new w4.drew (.bool false) (.slice none 0 0) (.slice none 0 0) 24
    obtain ⟨c1, c2, c3, c4, c5, c6⟩ := k4
    obtain ⟨f1, f2, f3, f4, f5, f6⟩ := HC _ b6d
    have g1 : w.heap.size < w4.heap.size := Nat.lt_of_lt_of_le xlt b4.size
    have g2 : w.heap.size + 1 < w4.heap.size := Nat.lt_of_lt_of_le ylt b4.size
    have g3 : ¬ w.heap.size = w4.heap.size := by omega
    have g4 : ¬ w.heap.size + 1 = w4.heap.size := by omega
    have g5 : ¬ w4.heap.size = w.heap.size := by omega
    have g6 : ¬ w4.heap.size = w.heap.size + 1 := by omega
    go_region_held3 (fun w' => w'.cell? ⟨w.heap.size, 0, none⟩ = some (.bool n1) ∧ w'.cell? ⟨w.heap.size, 1, none⟩ = some (.slice ao1 (nl N1) ac1) ∧ w'.cell? ⟨w.heap.size, 2, none⟩ = some (.slice bo1 (nl D1) bc1) ∧ w'.cell? ⟨w.heap.size + 1, 0, none⟩ = some (.bool n2) ∧ w'.cell? ⟨w.heap.size + 1, 1, none⟩ = some (.slice ao2 (nl N2) ac2) ∧ w'.cell? ⟨w.heap.size + 1, 2, none⟩ = some (.slice bo2 (nl D2) bc2)) (go_keep)
      (first
        | (go_at_call 69; refine m5.mono ?_; rintro e w5 ⟨qo, qc, rfl, hQ5, hb5⟩; have b5 := b4.drew.trans (hb5.mono b4.size); obtain ⟨d1, d2, d3, d4, d5, d6⟩ := HC _ b5; have h1 : ¬ w.heap.size = w5.heap.size := (by have := hb5.size; simp at this; omega); have h2 : ¬ w.heap.size + 1 = w5.heap.size := (by have := hb5.size; simp at this; omega); have h3 : ¬ w5.heap.size = w.heap.size := (by omega); have h4 : ¬ w5.heap.size = w.heap.size + 1 := (by omega))
        | (go_at_call 69; refine m6.mono ?_; rintro e w5 ⟨qo, qc, rfl, hQ5, hb5⟩; obtain ⟨d1, d2, d3, d4, d5, d6⟩ := HC _ (b6d.trans (hb5.mono hs6)); have NB := NB0.below hb5; obtain ⟨z0, z1, z2, v0, v1, v2, _, _⟩ := id NB))
    · go_wp2
      go_meet
      exact ⟨w5.heap.size, qo, qc, rfl, B3q.new w5 _ _ _ _, hQ5.made _, (b4d.trans hb5).alloc hb5.size _, hb5.size⟩
    · go_wp2
      go_meet
      exact ⟨w4.heap.size, qo, qc, rfl, NB.fill _ _ _, hQ5.threeB NB _ _ _, below_three ((b4d.alloc (Nat.le_refl _) _).trans (hb5.mono (by simp))) (Nat.le_refl _) _ _ _, Nat.le_refl _⟩
  clear m3 k4
  obtain ⟨g, qo, qc, rfl, NB, hQ, hbc, hg⟩ := hcut
  have bc := b4.trans (hbc.mono b4.size)
  have hX := hX4.below hbc
  have hY := hY4.below hbc
  have hgW : W0.heap.size ≤ g := Nat.le_trans b4.size hg
  clear hX4 hY4 hbc hg b4 b1d A1 B1 A2 B2
  obtain ⟨z0, z1, z2, v0, v1, v2, _, glt⟩ := id NB
  obtain ⟨x0, x1, x2, y0, y1, y2⟩ := HC _ bc
  have cC := lcmp_any (lo X) (lo Y) xo yo xc yc wc hX.1 hY.1 (lo_lm _) (lo_lm _) (by rw [lo_length]; omega) (by rw [lo_length]; omega)
  rw [vl_lo, vl_lo, lo_length, lo_length] at cC
  have u5 : ¬ w.heap.size = g := by omega
  have u6 : ¬ g = w.heap.size := by omega
  have u7 : ¬ w.heap.size + 1 = g := by omega
  have u8 : ¬ g = w.heap.size + 1 := by omega
  have u9 : ¬ w.heap.size + 1 + 1 = g := by omega
  have u10 : ¬ g = w.heap.size + 1 + 1 := by omega
  have cn := fun w' zo zc (hz : LS w' zo zc (lo Z)) (hq : LS w' qo qc (lo Q)) (hT : TabW w') (hlz : nl Z ≤ 700) => rnorm_any s (lo Z) (lo Q) zo qo zc qc w' hz hq (lo_lm _) (lo_lm _) (by rw [lo_length]; omega) (by rw [lo_length]; omega) hT
  have hnm := HNM.out
  simp only [lo_length, vl_lo, hnm] at cn
  clear hnm HNM
  by_cases hn : n1 = n2
  · subst hn
    have hE := HSM.out
    unfold smQ at hE
    rw [if_pos rfl] at hE
    obtain ⟨rfl, rfl⟩ : n1 = s ∧ X + Y = Z := Prod.mk.inj hE
    have ca := ladd_any (lo X) (lo Y) xo yo xc yc wc hX.1 hY.1 (lo_lm _) (lo_lm _) (by rw [lo_length]; omega) (by rw [lo_length]; omega)
    rw [vl_lo, vl_lo, lo_length, lo_length] at ca
    have lz : nl (X + Y) ≤ 700 := nl_add l1 l2
    clear hE cC HSM
    generalize X + Y = Z at *
    have tq : (n1 == n1) = true := by simp
    go_upto_region 9 with (go_at_call 89; refine ca.mono ?_; rintro e w6 ⟨zo, zc, rfl, hZ, hb6⟩; have NB6 := NB.below hb6; obtain ⟨z0', z1', z2', v0', v1', v2', _, _⟩ := id NB6)
    have b6 := (bc.trans (hb6.mono bc.size)).setCell (p := ⟨g, 1, none⟩) hgW (.slice zo (nl Z) zc)
    have cN := cn _ zo zc (hZ.boxed NB6 1 (.slice zo (nl Z) zc)) ((hQ.below hb6).boxed NB6 1 (.slice zo (nl Z) zc)) (tabW_below T1 b6) lz
    have NB7 := NB6.set1 (.slice zo (nl Z) zc)
    generalize w6.setCell ⟨g, 1, none⟩ (.slice zo (nl Z) zc) = W6 at *
    clear z0 z1 z2 v0 v1 v2 z0' z1' z2' v0' v1' v2' x0 x1 x2 y0 y1 y2 o0 o1 o2 q0 q1 q2
    obtain ⟨z0, z1, z2, v0, v1, v2, _, _⟩ := id NB7
    cases o with
    | none =>
      unfold GaveR at cN
      go_wp2_with (go_at_call 8; refine cN.mono ?_; rintro e w7 ⟨rfl, hb7⟩; have b7 := b6.trans (hb7.mono b6.size); have OB7 := OB.below b7; obtain ⟨o0', o1', o2', q0', q1', q2', _, _⟩ := id OB7)
      have b8 := hb0.trans (b7.mono hb0.size)
      exact bodyPost_ret (v := .tuple #[.agg #[.bool false, .slice none 0 0, .slice none 0 0], .int .i64 er]) (by simp [results, Tryz.results60, go_sem, o0', o1', o2']) rfl ⟨rfl, below_three b8 (by omega) _ _ _⟩
    | some r =>
      obtain ⟨ng, N3, D3⟩ := r
      unfold GaveR at cN
      go_wp2_with (go_at_call 8; refine cN.mono ?_; rintro e w7 ⟨ro, rc, so, sc, rfl, hA3, hB3, hb7⟩; have b7 := b6.trans (hb7.mono b6.size); have OB7 := OB.below b7; obtain ⟨o0', o1', o2', q0', q1', q2', _, _⟩ := id OB7)
      have b8 := hb0.trans (b7.mono hb0.size)
      exact bodyPost_ret (v := .tuple #[.agg #[.bool ng, .slice ro (nl N3) rc, .slice so (nl D3) sc], .int .i64 0]) (by simp [results, Tryz.results60, go_sem, o0', o1', o2']) rfl ⟨ro, rc, so, sc, rfl, hA3.threeB OB7 _ _ _, hB3.threeB OB7 _ _ _, below_three b8 (by omega) _ _ _⟩
  · have tq : (n1 == n2) = false := by simpa using hn
    have hE := HSM.out
    unfold smQ at hE
    rw [if_neg hn] at hE
    by_cases hxy : X < Y
    · rw [if_pos hxy] at hE
      obtain ⟨rfl, rfl⟩ : n2 = s ∧ Y - X = Z := Prod.mk.inj hE
      have eC : cmpI (X : Int) (Y : Int) = -1 := cmpI_nat_lt hxy
      rw [eC] at cC
      have NB0 := NB.set0 (.bool n2)
      have bs0 := (Below.refl wc.heap.size wc)
      have ca := lsub_any (lo Y) (lo X) yo xo yc xc (wc.setCell ⟨g, 0, none⟩ (.bool n2)) (hY.boxed NB 0 _).1 (hX.boxed NB 0 _).1 (lo_lm _) (lo_lm _) (by rw [lo_length]; omega) (by rw [lo_length]; omega) (by rw [vl_lo, vl_lo]; omega)
      rw [vl_lo, vl_lo, lo_length, lo_length] at ca
      have lz : nl (Y - X) ≤ 700 := Nat.le_trans (nlR_mono (Nat.sub_le Y X)) (by omega)
      have hQ0 := hQ.boxed NB 0 (.bool n2)
      have bc0 := bc.setCell (p := ⟨g, 0, none⟩) hgW (.bool n2)
      clear hE HSM eC
      generalize Y - X = Z at *
      obtain ⟨s0, s1, s2, _, _, _, _, _⟩ := id NB0
      go_upto_region 9 with (first | (go_at_call 68; refine cC.mono ?_; rintro e w' ⟨rfl, hww⟩; subst w') | (go_at_call 90; refine ca.mono ?_; rintro e w6 ⟨zo, zc, rfl, hZ, hb6⟩; have NB6 := NB0.below hb6; obtain ⟨z0', z1', z2', v0', v1', v2', _, _⟩ := id NB6))
      have b6 := (bc0.trans (hb6.mono bc0.size)).setCell (p := ⟨g, 1, none⟩) hgW (.slice zo (nl Z) zc)
      have cN := cn _ zo zc (hZ.boxed NB6 1 (.slice zo (nl Z) zc)) ((hQ0.below hb6).boxed NB6 1 (.slice zo (nl Z) zc)) (tabW_below T1 b6) lz
      have NB7 := NB6.set1 (.slice zo (nl Z) zc)
      generalize w6.setCell ⟨g, 1, none⟩ (.slice zo (nl Z) zc) = W6 at *
      clear z0 z1 z2 v0 v1 v2 z0' z1' z2' v0' v1' v2' x0 x1 x2 y0 y1 y2 o0 o1 o2 q0 q1 q2
      obtain ⟨z0, z1, z2, v0, v1, v2, _, _⟩ := id NB7
      cases o with
      | none =>
        unfold GaveR at cN
        go_wp2_with (go_at_call 8; refine cN.mono ?_; rintro e w7 ⟨rfl, hb7⟩; have b7 := b6.trans (hb7.mono b6.size); have OB7 := OB.below b7; obtain ⟨o0', o1', o2', q0', q1', q2', _, _⟩ := id OB7)
        have b8 := hb0.trans (b7.mono hb0.size)
        exact bodyPost_ret (v := .tuple #[.agg #[.bool false, .slice none 0 0, .slice none 0 0], .int .i64 er]) (by simp [results, Tryz.results60, go_sem, o0', o1', o2']) rfl ⟨rfl, below_three b8 (by omega) _ _ _⟩
      | some r =>
        obtain ⟨ng, N3, D3⟩ := r
        unfold GaveR at cN
        go_wp2_with (go_at_call 8; refine cN.mono ?_; rintro e w7 ⟨ro, rc, so, sc, rfl, hA3, hB3, hb7⟩; have b7 := b6.trans (hb7.mono b6.size); have OB7 := OB.below b7; obtain ⟨o0', o1', o2', q0', q1', q2', _, _⟩ := id OB7)
        have b8 := hb0.trans (b7.mono hb0.size)
        exact bodyPost_ret (v := .tuple #[.agg #[.bool ng, .slice ro (nl N3) rc, .slice so (nl D3) sc], .int .i64 0]) (by simp [results, Tryz.results60, go_sem, o0', o1', o2']) rfl ⟨ro, rc, so, sc, rfl, hA3.threeB OB7 _ _ _, hB3.threeB OB7 _ _ _, below_three b8 (by omega) _ _ _⟩
    · rw [if_neg hxy] at hE
      obtain ⟨rfl, rfl⟩ : n1 = s ∧ X - Y = Z := Prod.mk.inj hE
      obtain ⟨c, ec⟩ : ∃ c, cmpI (X : Int) (Y : Int) = c := ⟨_, rfl⟩
      have c0 : ¬ c < 0 := by
        rw [← ec]
        rcases Nat.lt_or_eq_of_le (show Y ≤ X by omega) with h | h
        · rw [cmpI_nat_gt h]; decide
        · rw [cmpI_eq (by rw [h])]; decide
      rw [ec] at cC
      have ca := lsub_any (lo X) (lo Y) xo yo xc yc wc hX.1 hY.1 (lo_lm _) (lo_lm _) (by rw [lo_length]; omega) (by rw [lo_length]; omega) (by rw [vl_lo, vl_lo]; omega)
      rw [vl_lo, vl_lo, lo_length, lo_length] at ca
      have lz : nl (X - Y) ≤ 700 := Nat.le_trans (nlR_mono (Nat.sub_le X Y)) (by omega)
      clear hE HSM ec
      generalize X - Y = Z at *
      go_upto_region 9 with (first | (go_at_call 68; refine cC.mono ?_; rintro e w' ⟨rfl, hww⟩; subst w') | (go_at_call 90; refine ca.mono ?_; rintro e w6 ⟨zo, zc, rfl, hZ, hb6⟩; have NB6 := NB.below hb6; obtain ⟨z0', z1', z2', v0', v1', v2', _, _⟩ := id NB6))
      have b6 := (bc.trans (hb6.mono bc.size)).setCell (p := ⟨g, 1, none⟩) hgW (.slice zo (nl Z) zc)
      have cN := cn _ zo zc (hZ.boxed NB6 1 (.slice zo (nl Z) zc)) ((hQ.below hb6).boxed NB6 1 (.slice zo (nl Z) zc)) (tabW_below T1 b6) lz
      have NB7 := NB6.set1 (.slice zo (nl Z) zc)
      generalize w6.setCell ⟨g, 1, none⟩ (.slice zo (nl Z) zc) = W6 at *
      clear z0 z1 z2 v0 v1 v2 z0' z1' z2' v0' v1' v2' x0 x1 x2 y0 y1 y2 o0 o1 o2 q0 q1 q2
      obtain ⟨z0, z1, z2, v0, v1, v2, _, _⟩ := id NB7
      cases o with
      | none =>
        unfold GaveR at cN
        go_wp2_with (go_at_call 8; refine cN.mono ?_; rintro e w7 ⟨rfl, hb7⟩; have b7 := b6.trans (hb7.mono b6.size); have OB7 := OB.below b7; obtain ⟨o0', o1', o2', q0', q1', q2', _, _⟩ := id OB7)
        have b8 := hb0.trans (b7.mono hb0.size)
        exact bodyPost_ret (v := .tuple #[.agg #[.bool false, .slice none 0 0, .slice none 0 0], .int .i64 er]) (by simp [results, Tryz.results60, go_sem, o0', o1', o2']) rfl ⟨rfl, below_three b8 (by omega) _ _ _⟩
      | some r =>
        obtain ⟨ng, N3, D3⟩ := r
        unfold GaveR at cN
        go_wp2_with (go_at_call 8; refine cN.mono ?_; rintro e w7 ⟨ro, rc, so, sc, rfl, hA3, hB3, hb7⟩; have b7 := b6.trans (hb7.mono b6.size); have OB7 := OB.below b7; obtain ⟨o0', o1', o2', q0', q1', q2', _, _⟩ := id OB7)
        have b8 := hb0.trans (b7.mono hb0.size)
        exact bodyPost_ret (v := .tuple #[.agg #[.bool ng, .slice ro (nl N3) rc, .slice so (nl D3) sc], .int .i64 0]) (by simp [results, Tryz.results60, go_sem, o0', o1', o2']) rfl ⟨ro, rc, so, sc, rfl, hA3.threeB OB7 _ _ _, hB3.threeB OB7 _ _ _, below_three b8 (by omega) _ _ _⟩
end Go.Proofs.YtnclddfljghebaaGreatDoor

namespace Go.Proofs.YtnclddfljghebaaGreatDoor
open Go.RowKit

theorem B3q.far {w : World} {b g : Nat} {x y z : Value} (h : B3q w b x y z) (hn : b ≠ g) {i : Nat} (a : Value) : B3q (w.setCell ⟨g, i, none⟩ a) b x y z := by
  obtain ⟨c0, c1, c2, f0, f1, f2, no, lt⟩ := h
  refine ⟨by simp [go_sem, c0], by simp [go_sem, c1], by simp [go_sem, c2], by simp [go_sem, f0], by simp [go_sem, f1], by simp [go_sem, f2], fun k hk => ?_, by simpa [World.setCell] using lt⟩
  have := no k hk
  simp [go_sem, this]
theorem rrightq_any (n : Bool) (N D : Nat) (ao bo : Option Addr) (ac bc : Nat) (w : World) (h1 : LRow w ao (lo N)) (h2 : LRow w bo (lo D)) (hT : TabW w) (R : RqB n N D) :
    Calls Tryz.prog 11 #[.agg #[.bool n, .slice ao (nl N) ac, .slice bo (nl D) bc]] w fun e w' => e = .returned (.bool true) ∧ Below w.heap.size w w' := by
  have := rright_any n (lo N) (lo D) ao bo ac bc w h1 h2 (lo_lm _) (lo_lm _) hT
  rw [R.right, lo_length, lo_length] at this
  exact this
set_option maxRecDepth 100000 in
set_option maxHeartbeats 1000000 in
theorem raddr_any (n1 n2 : Bool) (N1 D1 N2 D2 : Nat) (ao1 bo1 ao2 bo2 : Option Addr) (ac1 bc1 ac2 bc2 : Nat) (w : World) (a1 : LS w ao1 ac1 (lo N1)) (b1 : LS w bo1 bc1 (lo D1)) (a2 : LS w ao2 ac2 (lo N2)) (b2 : LS w bo2 bc2 (lo D2)) (hT : TabW w) (R1 : RqB n1 N1 D1) (R2 : RqB n2 N2 D2) :
    Calls Tryz.prog 20 #[.agg #[.bool n1, .slice ao1 (nl N1) ac1, .slice bo1 (nl D1) bc1], .agg #[.bool n2, .slice ao2 (nl N2) ac2, .slice bo2 (nl D2) bc2]] w (GaveR w (nmA (smQ n1 n2 (N1 * D2) (N2 * D1)).1 (smQ n1 n2 (N1 * D2) (N2 * D1)).2 (D1 * D2)).1 (nmA (smQ n1 n2 (N1 * D2) (N2 * D1)).1 (smQ n1 n2 (N1 * D2) (N2 * D1)).2 (D1 * D2)).2) := by
  have AB := ((B3q.new w (.bool n1) (.slice ao1 (nl N1) ac1) (.slice bo1 (nl D1) bc1) 24).alloc (.cells #[.bool n2, .slice ao2 (nl N2) ac2, .slice bo2 (nl D2) bc2] 24)).alloc (.cells #[.bool false, .slice none 0 0, .slice none 0 0] 24)
  have BB := (B3q.new (w.alloc (.cells #[.bool n1, .slice ao1 (nl N1) ac1, .slice bo1 (nl D1) bc1] 24)) (.bool n2) (.slice ao2 (nl N2) ac2) (.slice bo2 (nl D2) bc2) 24).alloc (.cells #[.bool false, .slice none 0 0, .slice none 0 0] 24)
  have OB := B3q.new ((w.alloc (.cells #[.bool n1, .slice ao1 (nl N1) ac1, .slice bo1 (nl D1) bc1] 24)).alloc (.cells #[.bool n2, .slice ao2 (nl N2) ac2, .slice bo2 (nl D2) bc2] 24)) (.bool false) (.slice none 0 0) (.slice none 0 0) 24
  have hs1 : (w.alloc (.cells #[.bool n1, .slice ao1 (nl N1) ac1, .slice bo1 (nl D1) bc1] 24)).heap.size = w.heap.size + 1 := by simp
  have hs2 : ((w.alloc (.cells #[.bool n1, .slice ao1 (nl N1) ac1, .slice bo1 (nl D1) bc1] 24)).alloc (.cells #[.bool n2, .slice ao2 (nl N2) ac2, .slice bo2 (nl D2) bc2] 24)).heap.size = w.heap.size + 1 + 1 := by simp
  rw [hs1] at BB
  rw [hs2] at OB
  have hb0 : Below w.heap.size w (((w.alloc (.cells #[.bool n1, .slice ao1 (nl N1) ac1, .slice bo1 (nl D1) bc1] 24)).alloc (.cells #[.bool n2, .slice ao2 (nl N2) ac2, .slice bo2 (nl D2) bc2] 24)).alloc (.cells #[.bool false, .slice none 0 0, .slice none 0 0] 24)) := (((Below.refl _ _).alloc (Nat.le_refl _) _).alloc (by rw [hs1]; omega) _).alloc (by rw [hs2]; omega) _
  have A1 := a1.below hb0
  have B1 := b1.below hb0
  have A2 := a2.below hb0
  have B2 := b2.below hb0
  have T1 := tabW_below hT hb0
  have HT : Hid (TabW w) := hT
  obtain ⟨o, er, hnm⟩ : ∃ o er, nmA (smQ n1 n2 (N1 * D2) (N2 * D1)).1 (smQ n1 n2 (N1 * D2) (N2 * D1)).2 (D1 * D2) = (o, er) := ⟨_, _, rfl⟩
  rw [hnm]
  have k1 := R1.n
  have k2 := R1.d
  have k3 := R2.n
  have k4 := R2.d
  go_enter Tryz.func20, Tryz.ntmps20
  go_upto_region 1 with fail
  generalize ((w.alloc (.cells #[.bool n1, .slice ao1 (nl N1) ac1, .slice bo1 (nl D1) bc1] 24)).alloc (.cells #[.bool n2, .slice ao2 (nl N2) ac2, .slice bo2 (nl D2) bc2] 24)).alloc (.cells #[.bool false, .slice none 0 0, .slice none 0 0] 24) = W0 at *
  clear hs1 hs2 hT a1 b1 a2 b2
  have u1 : ¬ w.heap.size = w.heap.size + 1 + 1 := by omega
  have u2 : ¬ w.heap.size + 1 + 1 = w.heap.size := by omega
  have u3 : ¬ w.heap.size + 1 = w.heap.size + 1 + 1 := by omega
  have u4 : ¬ w.heap.size + 1 + 1 = w.heap.size + 1 := by omega
  obtain ⟨x0, x1, x2, _, _, _, _, xlt⟩ := id AB
  obtain ⟨y0, y1, y2, _, _, _, _, ylt⟩ := id BB
  obtain ⟨o0, o1, o2, q0, q1, q2, _, olt⟩ := id OB
  have b1d := Below.refl W0.heap.size W0
  have r1 := fun w' (h : Below W0.heap.size W0 w') => rrightq_any n1 N1 D1 ao1 bo1 ac1 bc1 w' (A1.1.below h) (B1.1.below h) (tabW_below T1 h) R1
  have r2 := fun w' (h : Below W0.heap.size W0 w') => rrightq_any n2 N2 D2 ao2 bo2 ac2 bc2 w' (A2.1.below h) (B2.1.below h) (tabW_below T1 h) R2
  go_upto_region 3 with (first | (go_at_call 11; refine (r2 _ b3).mono ?_; rintro e w4 ⟨rfl, hb4⟩; have b4 := b3.trans (hb4.mono b3.size); have AB4 := AB.below b4; have BB4 := BB.below b4; have OB4 := OB.below b4; obtain ⟨x0', x1', x2', _, _, _, _, _⟩ := id AB4; obtain ⟨y0', y1', y2', yf0, yf1, yf2, _, _⟩ := id BB4; obtain ⟨oo0, oo1, oo2, oq0, oq1, oq2, _, _⟩ := id OB4) | (go_at_call 11; refine (r1 _ b1d).mono ?_; rintro e w3 ⟨rfl, b3⟩; have BB3 := BB.below b3; obtain ⟨y0', y1', y2', _, _, _, _, _⟩ := id BB3))
  have cN := raddq_any n1 n2 N1 D1 N2 D2 ao1 bo1 ao2 bo2 ac1 bc1 ac2 bc2 w4 (A1.below b4) (B1.below b4) (A2.below b4) (B2.below b4) (tabW_below T1 b4) k1 k2 k3 k4
  rw [hnm] at cN
  have b6 := b4
  clear hnm r1 r2 x0 x1 x2 y0 y1 y2
  cases o with
  | none =>
    unfold GaveR at cN
    go_wp2_with (go_at_call 60; refine cN.mono ?_; rintro e w7 ⟨rfl, hb7⟩; have b7 := b6.trans (hb7.mono b6.size); have OB7 := OB.below b7; obtain ⟨o0', o1', o2', q0', q1', q2', _, _⟩ := id OB7)
    have b8 := hb0.trans (b7.mono hb0.size)
    exact bodyPost_ret (v := .tuple #[.agg #[.bool false, .slice none 0 0, .slice none 0 0], .int .i64 er]) (by simp [results, Tryz.results20, go_sem, o0', o1', o2']) rfl ⟨rfl, below_three b8 (by omega) _ _ _⟩
  | some r =>
    obtain ⟨ng, N3, D3⟩ := r
    unfold GaveR at cN
    go_wp2_with (go_at_call 60; refine cN.mono ?_; rintro e w7 ⟨ro, rc, so, sc, rfl, hA3, hB3, hb7⟩; have b7 := b6.trans (hb7.mono b6.size); have OB7 := OB.below b7; obtain ⟨o0', o1', o2', q0', q1', q2', _, _⟩ := id OB7)
    have b8 := hb0.trans (b7.mono hb0.size)
    exact bodyPost_ret (v := .tuple #[.agg #[.bool ng, .slice ro (nl N3) rc, .slice so (nl D3) sc], .int .i64 0]) (by simp [results, Tryz.results20, go_sem, o0', o1', o2']) rfl ⟨ro, rc, so, sc, rfl, hA3.threeB OB7 _ _ _, hB3.threeB OB7 _ _ _, below_three b8 (by omega) _ _ _⟩
set_option maxRecDepth 100000 in
set_option maxHeartbeats 1000000 in
theorem rsubr_any (n1 n2 : Bool) (N1 D1 N2 D2 : Nat) (ao1 bo1 ao2 bo2 : Option Addr) (ac1 bc1 ac2 bc2 : Nat) (w : World) (a1 : LS w ao1 ac1 (lo N1)) (b1 : LS w bo1 bc1 (lo D1)) (a2 : LS w ao2 ac2 (lo N2)) (b2 : LS w bo2 bc2 (lo D2)) (hT : TabW w) (R1 : RqB n1 N1 D1) (R2 : RqB n2 N2 D2) :
    Calls Tryz.prog 22 #[.agg #[.bool n1, .slice ao1 (nl N1) ac1, .slice bo1 (nl D1) bc1], .agg #[.bool n2, .slice ao2 (nl N2) ac2, .slice bo2 (nl D2) bc2]] w (GaveR w (nmA (smQ n1 (!n2) (N1 * D2) (N2 * D1)).1 (smQ n1 (!n2) (N1 * D2) (N2 * D1)).2 (D1 * D2)).1 (nmA (smQ n1 (!n2) (N1 * D2) (N2 * D1)).1 (smQ n1 (!n2) (N1 * D2) (N2 * D1)).2 (D1 * D2)).2) := by
  have AB := ((B3q.new w (.bool n1) (.slice ao1 (nl N1) ac1) (.slice bo1 (nl D1) bc1) 24).alloc (.cells #[.bool n2, .slice ao2 (nl N2) ac2, .slice bo2 (nl D2) bc2] 24)).alloc (.cells #[.bool false, .slice none 0 0, .slice none 0 0] 24)
  have BB := (B3q.new (w.alloc (.cells #[.bool n1, .slice ao1 (nl N1) ac1, .slice bo1 (nl D1) bc1] 24)) (.bool n2) (.slice ao2 (nl N2) ac2) (.slice bo2 (nl D2) bc2) 24).alloc (.cells #[.bool false, .slice none 0 0, .slice none 0 0] 24)
  have OB := B3q.new ((w.alloc (.cells #[.bool n1, .slice ao1 (nl N1) ac1, .slice bo1 (nl D1) bc1] 24)).alloc (.cells #[.bool n2, .slice ao2 (nl N2) ac2, .slice bo2 (nl D2) bc2] 24)) (.bool false) (.slice none 0 0) (.slice none 0 0) 24
  have hs1 : (w.alloc (.cells #[.bool n1, .slice ao1 (nl N1) ac1, .slice bo1 (nl D1) bc1] 24)).heap.size = w.heap.size + 1 := by simp
  have hs2 : ((w.alloc (.cells #[.bool n1, .slice ao1 (nl N1) ac1, .slice bo1 (nl D1) bc1] 24)).alloc (.cells #[.bool n2, .slice ao2 (nl N2) ac2, .slice bo2 (nl D2) bc2] 24)).heap.size = w.heap.size + 1 + 1 := by simp
  rw [hs1] at BB
  rw [hs2] at OB
  have hb0 : Below w.heap.size w (((w.alloc (.cells #[.bool n1, .slice ao1 (nl N1) ac1, .slice bo1 (nl D1) bc1] 24)).alloc (.cells #[.bool n2, .slice ao2 (nl N2) ac2, .slice bo2 (nl D2) bc2] 24)).alloc (.cells #[.bool false, .slice none 0 0, .slice none 0 0] 24)) := (((Below.refl _ _).alloc (Nat.le_refl _) _).alloc (by rw [hs1]; omega) _).alloc (by rw [hs2]; omega) _
  have A1 := a1.below hb0
  have B1 := b1.below hb0
  have A2 := a2.below hb0
  have B2 := b2.below hb0
  have T1 := tabW_below hT hb0
  have HT : Hid (TabW w) := hT
  obtain ⟨o, er, hnm⟩ : ∃ o er, nmA (smQ n1 (!n2) (N1 * D2) (N2 * D1)).1 (smQ n1 (!n2) (N1 * D2) (N2 * D1)).2 (D1 * D2) = (o, er) := ⟨_, _, rfl⟩
  rw [hnm]
  have k1 := R1.n
  have k2 := R1.d
  have k3 := R2.n
  have k4 := R2.d
  go_enter Tryz.func22, Tryz.ntmps22
  go_upto_region 1 with fail
  generalize ((w.alloc (.cells #[.bool n1, .slice ao1 (nl N1) ac1, .slice bo1 (nl D1) bc1] 24)).alloc (.cells #[.bool n2, .slice ao2 (nl N2) ac2, .slice bo2 (nl D2) bc2] 24)).alloc (.cells #[.bool false, .slice none 0 0, .slice none 0 0] 24) = W0 at *
  clear hs1 hs2 hT a1 b1 a2 b2
  have u1 : ¬ w.heap.size = w.heap.size + 1 + 1 := by omega
  have u2 : ¬ w.heap.size + 1 + 1 = w.heap.size := by omega
  have u3 : ¬ w.heap.size + 1 = w.heap.size + 1 + 1 := by omega
  have u4 : ¬ w.heap.size + 1 + 1 = w.heap.size + 1 := by omega
  obtain ⟨x0, x1, x2, _, _, _, _, xlt⟩ := id AB
  obtain ⟨y0, y1, y2, _, _, _, _, ylt⟩ := id BB
  obtain ⟨o0, o1, o2, q0, q1, q2, _, olt⟩ := id OB
  have b1d := Below.refl W0.heap.size W0
  have r1 := fun w' (h : Below W0.heap.size W0 w') => rrightq_any n1 N1 D1 ao1 bo1 ac1 bc1 w' (A1.1.below h) (B1.1.below h) (tabW_below T1 h) R1
  have r2 := fun w' (h : Below W0.heap.size W0 w') => rrightq_any n2 N2 D2 ao2 bo2 ac2 bc2 w' (A2.1.below h) (B2.1.below h) (tabW_below T1 h) R2
  go_upto_region 4 with (first | (go_at_call 11; refine (r2 _ b3).mono ?_; rintro e w4 ⟨rfl, hb4⟩; have b4 := b3.trans (hb4.mono b3.size); have AB4 := AB.below b4; have BB4 := BB.below b4; have OB4 := OB.below b4; obtain ⟨x0', x1', x2', _, _, _, _, _⟩ := id AB4; obtain ⟨y0', y1', y2', yf0, yf1, yf2, _, _⟩ := id BB4; obtain ⟨oo0, oo1, oo2, oq0, oq1, oq2, _, _⟩ := id OB4) | (go_at_call 11; refine (r1 _ b1d).mono ?_; rintro e w3 ⟨rfl, b3⟩; have BB3 := BB.below b3; obtain ⟨y0', y1', y2', _, _, _, _, _⟩ := id BB3))
  have hL : ∀ {ao : Option Addr} {cap : Nat} {xs : List Nat}, LS w4 ao cap xs → LS (w4.setCell ⟨w.heap.size + 1, 0, none⟩ (.bool !n2)) ao cap xs := fun h => h.boxed BB4 0 _
  have BB5 := BB4.set0 (.bool !n2)
  have b6 : Below w.heap.size w (w4.setCell ⟨w.heap.size + 1, 0, none⟩ (.bool !n2)) := (hb0.trans (b4.mono hb0.size)).setCell (p := ⟨w.heap.size + 1, 0, none⟩) (by show w.heap.size ≤ w.heap.size + 1; omega) _
  have cN := raddq_any n1 (!n2) N1 D1 N2 D2 ao1 bo1 ao2 bo2 ac1 bc1 ac2 bc2 (w4.setCell ⟨w.heap.size + 1, 0, none⟩ (.bool !n2)) (hL (A1.below b4)) (hL (B1.below b4)) (hL (A2.below b4)) (hL (B2.below b4)) (tabW_below HT.out b6) k1 k2 k3 k4
  rw [hnm] at cN
  have AB5 : B3q (w4.setCell ⟨w.heap.size + 1, 0, none⟩ (.bool !n2)) w.heap.size (.bool n1) (.slice ao1 (nl N1) ac1) (.slice bo1 (nl D1) bc1) := AB4.far (by omega) _
  have OB5 : B3q (w4.setCell ⟨w.heap.size + 1, 0, none⟩ (.bool !n2)) (w.heap.size + 1 + 1) (.bool false) (.slice none 0 0) (.slice none 0 0) := OB4.far (by omega) _
  generalize w4.setCell ⟨w.heap.size + 1, 0, none⟩ (.bool !n2) = W5 at *
  clear hnm r1 r2 x0 x1 x2 y0 y1 y2 x0' x1' x2' y0' y1' y2' oo0 oo1 oo2
  obtain ⟨x0, x1, x2, _, _, _, _, _⟩ := id AB5
  obtain ⟨y0, y1, y2, _, _, _, _, _⟩ := id BB5
  cases o with
  | none =>
    unfold GaveR at cN
    go_wp2_with (go_at_call 60; refine cN.mono ?_; rintro e w7 ⟨rfl, hb7⟩; have b7 := b6.trans (hb7.mono b6.size); have OB7 := OB5.below hb7; obtain ⟨o0', o1', o2', q0', q1', q2', _, _⟩ := id OB7)
    have b8 := b7
    exact bodyPost_ret (v := .tuple #[.agg #[.bool false, .slice none 0 0, .slice none 0 0], .int .i64 er]) (by simp [results, Tryz.results22, go_sem, o0', o1', o2']) rfl ⟨rfl, below_three b8 (by omega) _ _ _⟩
  | some r =>
    obtain ⟨ng, N3, D3⟩ := r
    unfold GaveR at cN
    go_wp2_with (go_at_call 60; refine cN.mono ?_; rintro e w7 ⟨ro, rc, so, sc, rfl, hA3, hB3, hb7⟩; have b7 := b6.trans (hb7.mono b6.size); have OB7 := OB5.below hb7; obtain ⟨o0', o1', o2', q0', q1', q2', _, _⟩ := id OB7)
    have b8 := b7
    exact bodyPost_ret (v := .tuple #[.agg #[.bool ng, .slice ro (nl N3) rc, .slice so (nl D3) sc], .int .i64 0]) (by simp [results, Tryz.results22, go_sem, o0', o1', o2']) rfl ⟨ro, rc, so, sc, rfl, hA3.threeB OB7 _ _ _, hB3.threeB OB7 _ _ _, below_three b8 (by omega) _ _ _⟩
set_option maxRecDepth 100000 in
set_option maxHeartbeats 1000000 in
theorem rmulr_any (n1 n2 : Bool) (N1 D1 N2 D2 : Nat) (ao1 bo1 ao2 bo2 : Option Addr) (ac1 bc1 ac2 bc2 : Nat) (w : World) (a1 : LS w ao1 ac1 (lo N1)) (b1 : LS w bo1 bc1 (lo D1)) (a2 : LS w ao2 ac2 (lo N2)) (b2 : LS w bo2 bc2 (lo D2)) (hT : TabW w) (R1 : RqB n1 N1 D1) (R2 : RqB n2 N2 D2) :
    Calls Tryz.prog 24 #[.agg #[.bool n1, .slice ao1 (nl N1) ac1, .slice bo1 (nl D1) bc1], .agg #[.bool n2, .slice ao2 (nl N2) ac2, .slice bo2 (nl D2) bc2]] w (GaveR w (nmA (n1 != n2) (N1 * N2) (D1 * D2)).1 (nmA (n1 != n2) (N1 * N2) (D1 * D2)).2) := by
  have AB := ((B3q.new w (.bool n1) (.slice ao1 (nl N1) ac1) (.slice bo1 (nl D1) bc1) 24).alloc (.cells #[.bool n2, .slice ao2 (nl N2) ac2, .slice bo2 (nl D2) bc2] 24)).alloc (.cells #[.bool false, .slice none 0 0, .slice none 0 0] 24)
  have BB := (B3q.new (w.alloc (.cells #[.bool n1, .slice ao1 (nl N1) ac1, .slice bo1 (nl D1) bc1] 24)) (.bool n2) (.slice ao2 (nl N2) ac2) (.slice bo2 (nl D2) bc2) 24).alloc (.cells #[.bool false, .slice none 0 0, .slice none 0 0] 24)
  have OB := B3q.new ((w.alloc (.cells #[.bool n1, .slice ao1 (nl N1) ac1, .slice bo1 (nl D1) bc1] 24)).alloc (.cells #[.bool n2, .slice ao2 (nl N2) ac2, .slice bo2 (nl D2) bc2] 24)) (.bool false) (.slice none 0 0) (.slice none 0 0) 24
  have hs1 : (w.alloc (.cells #[.bool n1, .slice ao1 (nl N1) ac1, .slice bo1 (nl D1) bc1] 24)).heap.size = w.heap.size + 1 := by simp
  have hs2 : ((w.alloc (.cells #[.bool n1, .slice ao1 (nl N1) ac1, .slice bo1 (nl D1) bc1] 24)).alloc (.cells #[.bool n2, .slice ao2 (nl N2) ac2, .slice bo2 (nl D2) bc2] 24)).heap.size = w.heap.size + 1 + 1 := by simp
  rw [hs1] at BB
  rw [hs2] at OB
  have hb0 : Below w.heap.size w (((w.alloc (.cells #[.bool n1, .slice ao1 (nl N1) ac1, .slice bo1 (nl D1) bc1] 24)).alloc (.cells #[.bool n2, .slice ao2 (nl N2) ac2, .slice bo2 (nl D2) bc2] 24)).alloc (.cells #[.bool false, .slice none 0 0, .slice none 0 0] 24)) := (((Below.refl _ _).alloc (Nat.le_refl _) _).alloc (by rw [hs1]; omega) _).alloc (by rw [hs2]; omega) _
  have A1 := a1.below hb0
  have B1 := b1.below hb0
  have A2 := a2.below hb0
  have B2 := b2.below hb0
  have T1 := tabW_below hT hb0
  have HT : Hid (TabW w) := hT
  obtain ⟨o, er, hnm⟩ : ∃ o er, nmA (n1 != n2) (N1 * N2) (D1 * D2) = (o, er) := ⟨_, _, rfl⟩
  rw [hnm]
  have k1 := R1.n
  have k2 := R1.d
  have k3 := R2.n
  have k4 := R2.d
  go_enter Tryz.func24, Tryz.ntmps24
  go_upto_region 1 with fail
  generalize ((w.alloc (.cells #[.bool n1, .slice ao1 (nl N1) ac1, .slice bo1 (nl D1) bc1] 24)).alloc (.cells #[.bool n2, .slice ao2 (nl N2) ac2, .slice bo2 (nl D2) bc2] 24)).alloc (.cells #[.bool false, .slice none 0 0, .slice none 0 0] 24) = W0 at *
  clear hs1 hs2 hT a1 b1 a2 b2
  have u1 : ¬ w.heap.size = w.heap.size + 1 + 1 := by omega
  have u2 : ¬ w.heap.size + 1 + 1 = w.heap.size := by omega
  have u3 : ¬ w.heap.size + 1 = w.heap.size + 1 + 1 := by omega
  have u4 : ¬ w.heap.size + 1 + 1 = w.heap.size + 1 := by omega
  obtain ⟨x0, x1, x2, _, _, _, _, xlt⟩ := id AB
  obtain ⟨y0, y1, y2, _, _, _, _, ylt⟩ := id BB
  obtain ⟨o0, o1, o2, q0, q1, q2, _, olt⟩ := id OB
  have b1d := Below.refl W0.heap.size W0
  have r1 := fun w' (h : Below W0.heap.size W0 w') => rrightq_any n1 N1 D1 ao1 bo1 ac1 bc1 w' (A1.1.below h) (B1.1.below h) (tabW_below T1 h) R1
  have r2 := fun w' (h : Below W0.heap.size W0 w') => rrightq_any n2 N2 D2 ao2 bo2 ac2 bc2 w' (A2.1.below h) (B2.1.below h) (tabW_below T1 h) R2
  go_upto_region 3 with (first | (go_at_call 11; refine (r2 _ b3).mono ?_; rintro e w4 ⟨rfl, hb4⟩; have b4 := b3.trans (hb4.mono b3.size); have AB4 := AB.below b4; have BB4 := BB.below b4; have OB4 := OB.below b4; obtain ⟨x0', x1', x2', _, _, _, _, _⟩ := id AB4; obtain ⟨y0', y1', y2', yf0, yf1, yf2, _, _⟩ := id BB4; obtain ⟨oo0, oo1, oo2, oq0, oq1, oq2, _, _⟩ := id OB4) | (go_at_call 11; refine (r1 _ b1d).mono ?_; rintro e w3 ⟨rfl, b3⟩; have BB3 := BB.below b3; obtain ⟨y0', y1', y2', _, _, _, _, _⟩ := id BB3))
  have cN := rmulq_any n1 n2 N1 D1 N2 D2 ao1 bo1 ao2 bo2 ac1 bc1 ac2 bc2 w4 (A1.below b4) (B1.below b4) (A2.below b4) (B2.below b4) (tabW_below T1 b4) k1 k2 k3 k4
  rw [hnm] at cN
  have b6 := b4
  clear hnm r1 r2 x0 x1 x2 y0 y1 y2
  cases o with
  | none =>
    unfold GaveR at cN
    go_wp2_with (go_at_call 63; refine cN.mono ?_; rintro e w7 ⟨rfl, hb7⟩; have b7 := b6.trans (hb7.mono b6.size); have OB7 := OB.below b7; obtain ⟨o0', o1', o2', q0', q1', q2', _, _⟩ := id OB7)
    have b8 := hb0.trans (b7.mono hb0.size)
    exact bodyPost_ret (v := .tuple #[.agg #[.bool false, .slice none 0 0, .slice none 0 0], .int .i64 er]) (by simp [results, Tryz.results24, go_sem, o0', o1', o2']) rfl ⟨rfl, below_three b8 (by omega) _ _ _⟩
  | some r =>
    obtain ⟨ng, N3, D3⟩ := r
    unfold GaveR at cN
    go_wp2_with (go_at_call 63; refine cN.mono ?_; rintro e w7 ⟨ro, rc, so, sc, rfl, hA3, hB3, hb7⟩; have b7 := b6.trans (hb7.mono b6.size); have OB7 := OB.below b7; obtain ⟨o0', o1', o2', q0', q1', q2', _, _⟩ := id OB7)
    have b8 := hb0.trans (b7.mono hb0.size)
    exact bodyPost_ret (v := .tuple #[.agg #[.bool ng, .slice ro (nl N3) rc, .slice so (nl D3) sc], .int .i64 0]) (by simp [results, Tryz.results24, go_sem, o0', o1', o2']) rfl ⟨ro, rc, so, sc, rfl, hA3.threeB OB7 _ _ _, hB3.threeB OB7 _ _ _, below_three b8 (by omega) _ _ _⟩
end Go.Proofs.YtnclddfljghebaaGreatDoor

namespace Go.Proofs.YtnclddfljghebaaGreatDoor
open Go.RowKit

theorem B3q.set2 {w : World} {g : Nat} {x y z : Value} (h : B3q w g x y z) (a : Value) : B3q (w.setCell ⟨g, 2, none⟩ a) g x y a := by
  obtain ⟨c0, c1, c2, f0, f1, f2, no, lt⟩ := h
  refine ⟨by go_simp, by go_simp, by go_simp, by go_simp, by go_simp, by go_simp, fun k hk => ?_, by simpa [World.setCell] using lt⟩
  have := no k hk
  simp [go_sem, this]
set_option maxRecDepth 100000 in
set_option maxHeartbeats 1000000 in
theorem rdivr_any (n1 n2 : Bool) (N1 D1 N2 D2 : Nat) (ao1 bo1 ao2 bo2 : Option Addr) (ac1 bc1 ac2 bc2 : Nat) (w : World) (a1 : LS w ao1 ac1 (lo N1)) (b1 : LS w bo1 bc1 (lo D1)) (a2 : LS w ao2 ac2 (lo N2)) (b2 : LS w bo2 bc2 (lo D2)) (hT : TabW w) (R1 : RqB n1 N1 D1) (R2 : RqB n2 N2 D2) (hN2 : N2 ≠ 0) :
    Calls Tryz.prog 26 #[.agg #[.bool n1, .slice ao1 (nl N1) ac1, .slice bo1 (nl D1) bc1], .agg #[.bool n2, .slice ao2 (nl N2) ac2, .slice bo2 (nl D2) bc2]] w (GaveR w (nmA (n1 != n2) (N1 * D2) (D1 * N2)).1 (nmA (n1 != n2) (N1 * D2) (D1 * N2)).2) := by
  have AB := ((B3q.new w (.bool n1) (.slice ao1 (nl N1) ac1) (.slice bo1 (nl D1) bc1) 24).alloc (.cells #[.bool n2, .slice ao2 (nl N2) ac2, .slice bo2 (nl D2) bc2] 24)).alloc (.cells #[.bool false, .slice none 0 0, .slice none 0 0] 24)
  have BB := (B3q.new (w.alloc (.cells #[.bool n1, .slice ao1 (nl N1) ac1, .slice bo1 (nl D1) bc1] 24)) (.bool n2) (.slice ao2 (nl N2) ac2) (.slice bo2 (nl D2) bc2) 24).alloc (.cells #[.bool false, .slice none 0 0, .slice none 0 0] 24)
  have OB := B3q.new ((w.alloc (.cells #[.bool n1, .slice ao1 (nl N1) ac1, .slice bo1 (nl D1) bc1] 24)).alloc (.cells #[.bool n2, .slice ao2 (nl N2) ac2, .slice bo2 (nl D2) bc2] 24)) (.bool false) (.slice none 0 0) (.slice none 0 0) 24
  have hs1 : (w.alloc (.cells #[.bool n1, .slice ao1 (nl N1) ac1, .slice bo1 (nl D1) bc1] 24)).heap.size = w.heap.size + 1 := by simp
  have hs2 : ((w.alloc (.cells #[.bool n1, .slice ao1 (nl N1) ac1, .slice bo1 (nl D1) bc1] 24)).alloc (.cells #[.bool n2, .slice ao2 (nl N2) ac2, .slice bo2 (nl D2) bc2] 24)).heap.size = w.heap.size + 1 + 1 := by simp
  rw [hs1] at BB
  rw [hs2] at OB
  have hb0 : Below w.heap.size w (((w.alloc (.cells #[.bool n1, .slice ao1 (nl N1) ac1, .slice bo1 (nl D1) bc1] 24)).alloc (.cells #[.bool n2, .slice ao2 (nl N2) ac2, .slice bo2 (nl D2) bc2] 24)).alloc (.cells #[.bool false, .slice none 0 0, .slice none 0 0] 24)) := (((Below.refl _ _).alloc (Nat.le_refl _) _).alloc (by rw [hs1]; omega) _).alloc (by rw [hs2]; omega) _
  have A1 := a1.below hb0
  have B1 := b1.below hb0
  have A2 := a2.below hb0
  have B2 := b2.below hb0
  have T1 := tabW_below hT hb0
  have HT : Hid (TabW w) := hT
  obtain ⟨o, er, hnm⟩ : ∃ o er, nmA (n1 != n2) (N1 * D2) (D1 * N2) = (o, er) := ⟨_, _, rfl⟩
  rw [hnm]
  have k1 := R1.n
  have k2 := R1.d
  have k3 := R2.n
  have k4 := R2.d
  go_enter Tryz.func26, Tryz.ntmps26
  go_upto_region 1 with fail
  generalize ((w.alloc (.cells #[.bool n1, .slice ao1 (nl N1) ac1, .slice bo1 (nl D1) bc1] 24)).alloc (.cells #[.bool n2, .slice ao2 (nl N2) ac2, .slice bo2 (nl D2) bc2] 24)).alloc (.cells #[.bool false, .slice none 0 0, .slice none 0 0] 24) = W0 at *
  clear hs1 hs2 hT a1 b1 a2 b2
  have u1 : ¬ w.heap.size = w.heap.size + 1 + 1 := by omega
  have u2 : ¬ w.heap.size + 1 + 1 = w.heap.size := by omega
  have u3 : ¬ w.heap.size + 1 = w.heap.size + 1 + 1 := by omega
  have u4 : ¬ w.heap.size + 1 + 1 = w.heap.size + 1 := by omega
  obtain ⟨x0, x1, x2, _, _, _, _, xlt⟩ := id AB
  obtain ⟨y0, y1, y2, _, _, _, _, ylt⟩ := id BB
  obtain ⟨o0, o1, o2, q0, q1, q2, _, olt⟩ := id OB
  have b1d := Below.refl W0.heap.size W0
  have r1 := fun w' (h : Below W0.heap.size W0 w') => rrightq_any n1 N1 D1 ao1 bo1 ac1 bc1 w' (A1.1.below h) (B1.1.below h) (tabW_below T1 h) R1
  have r2 := fun w' (h : Below W0.heap.size W0 w') => rrightq_any n2 N2 D2 ao2 bo2 ac2 bc2 w' (A2.1.below h) (B2.1.below h) (tabW_below T1 h) R2
  have z2 : ((nl N2 : Int) == 0) = false := by have := nlR_pos hN2; rw [beq_eq_false_iff_ne]; omega
  go_upto_region 7 with (first | (go_at_call 11; refine (r2 _ b3).mono ?_; rintro e w4 ⟨rfl, hb4⟩; have b4 := b3.trans (hb4.mono b3.size); have AB4 := AB.below b4; have BB4 := BB.below b4; have OB4 := OB.below b4; obtain ⟨x0', x1', x2', _, _, _, _, _⟩ := id AB4; obtain ⟨y0', y1', y2', yf0, yf1, yf2, _, _⟩ := id BB4; obtain ⟨oo0, oo1, oo2, oq0, oq1, oq2, _, _⟩ := id OB4) | (go_at_call 11; refine (r1 _ b1d).mono ?_; rintro e w3 ⟨rfl, b3⟩; have BB3 := BB.below b3; obtain ⟨y0', y1', y2', _, _, _, _, _⟩ := id BB3))
  have BB5 := (BB4.set1 (.slice bo2 (nl D2) bc2)).set2 (.slice ao2 (nl N2) ac2)
  have hL : ∀ {ao : Option Addr} {cap : Nat} {xs : List Nat}, LS w4 ao cap xs → LS ((w4.setCell ⟨w.heap.size + 1, 1, none⟩ (.slice bo2 (nl D2) bc2)).setCell ⟨w.heap.size + 1, 2, none⟩ (.slice ao2 (nl N2) ac2)) ao cap xs := fun h => (h.boxed BB4 1 _).boxed (BB4.set1 (.slice bo2 (nl D2) bc2)) 2 _
  have b6 : Below w.heap.size w ((w4.setCell ⟨w.heap.size + 1, 1, none⟩ (.slice bo2 (nl D2) bc2)).setCell ⟨w.heap.size + 1, 2, none⟩ (.slice ao2 (nl N2) ac2)) := ((hb0.trans (b4.mono hb0.size)).setCell (p := ⟨w.heap.size + 1, 1, none⟩) (by show w.heap.size ≤ w.heap.size + 1; omega) _).setCell (p := ⟨w.heap.size + 1, 2, none⟩) (by show w.heap.size ≤ w.heap.size + 1; omega) _
  have cN := rmulq_any n1 n2 N1 D1 D2 N2 ao1 bo1 bo2 ao2 ac1 bc1 bc2 ac2 ((w4.setCell ⟨w.heap.size + 1, 1, none⟩ (.slice bo2 (nl D2) bc2)).setCell ⟨w.heap.size + 1, 2, none⟩ (.slice ao2 (nl N2) ac2)) (hL (A1.below b4)) (hL (B1.below b4)) (hL (B2.below b4)) (hL (A2.below b4)) (tabW_below HT.out b6) k1 k2 k4 k3
  rw [hnm] at cN
  have AB5 : B3q ((w4.setCell ⟨w.heap.size + 1, 1, none⟩ (.slice bo2 (nl D2) bc2)).setCell ⟨w.heap.size + 1, 2, none⟩ (.slice ao2 (nl N2) ac2)) w.heap.size (.bool n1) (.slice ao1 (nl N1) ac1) (.slice bo1 (nl D1) bc1) := (AB4.far (by omega) _).far (by omega) _
  have OB5 : B3q ((w4.setCell ⟨w.heap.size + 1, 1, none⟩ (.slice bo2 (nl D2) bc2)).setCell ⟨w.heap.size + 1, 2, none⟩ (.slice ao2 (nl N2) ac2)) (w.heap.size + 1 + 1) (.bool false) (.slice none 0 0) (.slice none 0 0) := (OB4.far (by omega) _).far (by omega) _
  generalize (w4.setCell ⟨w.heap.size + 1, 1, none⟩ (.slice bo2 (nl D2) bc2)).setCell ⟨w.heap.size + 1, 2, none⟩ (.slice ao2 (nl N2) ac2) = W5 at *
  clear hnm r1 r2 x0 x1 x2 y0 y1 y2 x0' x1' x2' y0' y1' y2' oo0 oo1 oo2
  obtain ⟨x0, x1, x2, _, _, _, _, _⟩ := id AB5
  obtain ⟨y0, y1, y2, _, _, _, _, _⟩ := id BB5
  cases o with
  | none =>
    unfold GaveR at cN
    go_wp2_with (go_at_call 63; refine cN.mono ?_; rintro e w7 ⟨rfl, hb7⟩; have b7 := b6.trans (hb7.mono b6.size); have OB7 := OB5.below hb7; obtain ⟨o0', o1', o2', q0', q1', q2', _, _⟩ := id OB7)
    have b8 := b7
    exact bodyPost_ret (v := .tuple #[.agg #[.bool false, .slice none 0 0, .slice none 0 0], .int .i64 er]) (by simp [results, Tryz.results26, go_sem, o0', o1', o2']) rfl ⟨rfl, below_three b8 (by omega) _ _ _⟩
  | some r =>
    obtain ⟨ng, N3, D3⟩ := r
    unfold GaveR at cN
    go_wp2_with (go_at_call 63; refine cN.mono ?_; rintro e w7 ⟨ro, rc, so, sc, rfl, hA3, hB3, hb7⟩; have b7 := b6.trans (hb7.mono b6.size); have OB7 := OB5.below hb7; obtain ⟨o0', o1', o2', q0', q1', q2', _, _⟩ := id OB7)
    have b8 := b7
    exact bodyPost_ret (v := .tuple #[.agg #[.bool ng, .slice ro (nl N3) rc, .slice so (nl D3) sc], .int .i64 0]) (by simp [results, Tryz.results26, go_sem, o0', o1', o2']) rfl ⟨ro, rc, so, sc, rfl, hA3.threeB OB7 _ _ _, hB3.threeB OB7 _ _ _, below_three b8 (by omega) _ _ _⟩
set_option maxRecDepth 100000 in
set_option maxHeartbeats 1000000 in
theorem rdivz_any (n1 n2 : Bool) (N1 D1 N2 D2 : Nat) (ao1 bo1 ao2 bo2 : Option Addr) (ac1 bc1 ac2 bc2 : Nat) (w : World) (a1 : LS w ao1 ac1 (lo N1)) (b1 : LS w bo1 bc1 (lo D1)) (a2 : LS w ao2 ac2 (lo N2)) (b2 : LS w bo2 bc2 (lo D2)) (hT : TabW w) (R1 : RqB n1 N1 D1) (R2 : RqB n2 N2 D2) (hN2 : N2 = 0) :
    Calls Tryz.prog 26 #[.agg #[.bool n1, .slice ao1 (nl N1) ac1, .slice bo1 (nl D1) bc1], .agg #[.bool n2, .slice ao2 (nl N2) ac2, .slice bo2 (nl D2) bc2]] w (GaveR w none 7) := by
  have AB := ((B3q.new w (.bool n1) (.slice ao1 (nl N1) ac1) (.slice bo1 (nl D1) bc1) 24).alloc (.cells #[.bool n2, .slice ao2 (nl N2) ac2, .slice bo2 (nl D2) bc2] 24)).alloc (.cells #[.bool false, .slice none 0 0, .slice none 0 0] 24)
  have BB := (B3q.new (w.alloc (.cells #[.bool n1, .slice ao1 (nl N1) ac1, .slice bo1 (nl D1) bc1] 24)) (.bool n2) (.slice ao2 (nl N2) ac2) (.slice bo2 (nl D2) bc2) 24).alloc (.cells #[.bool false, .slice none 0 0, .slice none 0 0] 24)
  have OB := B3q.new ((w.alloc (.cells #[.bool n1, .slice ao1 (nl N1) ac1, .slice bo1 (nl D1) bc1] 24)).alloc (.cells #[.bool n2, .slice ao2 (nl N2) ac2, .slice bo2 (nl D2) bc2] 24)) (.bool false) (.slice none 0 0) (.slice none 0 0) 24
  have hs1 : (w.alloc (.cells #[.bool n1, .slice ao1 (nl N1) ac1, .slice bo1 (nl D1) bc1] 24)).heap.size = w.heap.size + 1 := by simp
  have hs2 : ((w.alloc (.cells #[.bool n1, .slice ao1 (nl N1) ac1, .slice bo1 (nl D1) bc1] 24)).alloc (.cells #[.bool n2, .slice ao2 (nl N2) ac2, .slice bo2 (nl D2) bc2] 24)).heap.size = w.heap.size + 1 + 1 := by simp
  rw [hs1] at BB
  rw [hs2] at OB
  have hb0 : Below w.heap.size w (((w.alloc (.cells #[.bool n1, .slice ao1 (nl N1) ac1, .slice bo1 (nl D1) bc1] 24)).alloc (.cells #[.bool n2, .slice ao2 (nl N2) ac2, .slice bo2 (nl D2) bc2] 24)).alloc (.cells #[.bool false, .slice none 0 0, .slice none 0 0] 24)) := (((Below.refl _ _).alloc (Nat.le_refl _) _).alloc (by rw [hs1]; omega) _).alloc (by rw [hs2]; omega) _
  have A1 := a1.below hb0
  have B1 := b1.below hb0
  have A2 := a2.below hb0
  have B2 := b2.below hb0
  have T1 := tabW_below hT hb0
  have HT : Hid (TabW w) := hT
  have z2 : ((nl N2 : Int) == 0) = true := by rw [hN2]; rfl
  clear hN2
  unfold GaveR
  have k1 := R1.n
  have k2 := R1.d
  have k3 := R2.n
  have k4 := R2.d
  go_enter Tryz.func26, Tryz.ntmps26
  go_upto_region 1 with fail
  generalize ((w.alloc (.cells #[.bool n1, .slice ao1 (nl N1) ac1, .slice bo1 (nl D1) bc1] 24)).alloc (.cells #[.bool n2, .slice ao2 (nl N2) ac2, .slice bo2 (nl D2) bc2] 24)).alloc (.cells #[.bool false, .slice none 0 0, .slice none 0 0] 24) = W0 at *
  clear hs1 hs2 hT a1 b1 a2 b2
  have u1 : ¬ w.heap.size = w.heap.size + 1 + 1 := by omega
  have u2 : ¬ w.heap.size + 1 + 1 = w.heap.size := by omega
  have u3 : ¬ w.heap.size + 1 = w.heap.size + 1 + 1 := by omega
  have u4 : ¬ w.heap.size + 1 + 1 = w.heap.size + 1 := by omega
  obtain ⟨x0, x1, x2, _, _, _, _, xlt⟩ := id AB
  obtain ⟨y0, y1, y2, _, _, _, _, ylt⟩ := id BB
  obtain ⟨o0, o1, o2, q0, q1, q2, _, olt⟩ := id OB
  have b1d := Below.refl W0.heap.size W0
  have r1 := fun w' (h : Below W0.heap.size W0 w') => rrightq_any n1 N1 D1 ao1 bo1 ac1 bc1 w' (A1.1.below h) (B1.1.below h) (tabW_below T1 h) R1
  have r2 := fun w' (h : Below W0.heap.size W0 w') => rrightq_any n2 N2 D2 ao2 bo2 ac2 bc2 w' (A2.1.below h) (B2.1.below h) (tabW_below T1 h) R2
  go_wp2_with (first | (go_at_call 11; refine (r2 _ b3).mono ?_; rintro e w4 ⟨rfl, hb4⟩; have b4 := b3.trans (hb4.mono b3.size); have AB4 := AB.below b4; have BB4 := BB.below b4; have OB4 := OB.below b4; obtain ⟨x0', x1', x2', _, _, _, _, _⟩ := id AB4; obtain ⟨y0', y1', y2', yf0, yf1, yf2, _, _⟩ := id BB4; obtain ⟨oo0, oo1, oo2, oq0, oq1, oq2, _, _⟩ := id OB4) | (go_at_call 11; refine (r1 _ b1d).mono ?_; rintro e w3 ⟨rfl, b3⟩; have BB3 := BB.below b3; obtain ⟨y0', y1', y2', _, _, _, _, _⟩ := id BB3))
  exact bodyPost_ret (v := .tuple #[.agg #[.bool false, .slice none 0 0, .slice none 0 0], .int .i64 7]) (by simp [results, Tryz.results26, go_sem, oo0, oo1, oo2]) rfl ⟨rfl, below_three (hb0.trans (b4.mono hb0.size)) (by omega) _ _ _⟩
/-- The sign of a ratio. -/
def sgR (n : Bool) (N : Nat) : Int := if N = 0 then 0 else if n then -1 else 1
set_option maxHeartbeats 400000 in
theorem rsgn_any (n : Bool) (N D : Nat) (ao bo : Option Addr) (ac bc : Nat) (w : World) :
    Calls Tryz.prog 66 #[.agg #[.bool n, .slice ao (nl N) ac, .slice bo (nl D) bc]] w fun e w' => e = .returned (.int .i64 (sgR n N)) ∧ Below w.heap.size w w' := by
  have hb0 : Below w.heap.size w (w.alloc (.cells #[.bool n, .slice ao (nl N) ac, .slice bo (nl D) bc] 24)) := (Below.refl _ _).alloc (Nat.le_refl _) _
  by_cases h0 : N = 0
  · subst h0
    have n0 : nl 0 = 0 := rfl
    have hE : sgR n 0 = 0 := by unfold sgR; rw [if_pos rfl]
    rw [hE]
    go_enter Tryz.func66, Tryz.ntmps66
    go_wp2
    go_ret
    exact ⟨rfl, hb0⟩
  · have z2 : ((nl N : Int) == 0) = false := by have := nlR_pos h0; rw [beq_eq_false_iff_ne]; omega
    cases n
    · have hE : sgR false N = 1 := by unfold sgR; rw [if_neg h0]; rfl
      rw [hE]
      go_enter Tryz.func66, Tryz.ntmps66
      go_wp2
      go_ret
      exact ⟨rfl, hb0⟩
    · have hE : sgR true N = -1 := by unfold sgR; rw [if_neg h0]; rfl
      rw [hE]
      go_enter Tryz.func66, Tryz.ntmps66
      go_wp2
      go_ret
      exact ⟨rfl, hb0⟩
set_option maxHeartbeats 400000 in
theorem rsign_any (n : Bool) (N D : Nat) (ao bo : Option Addr) (ac bc : Nat) (w : World) (h1 : LRow w ao (lo N)) (h2 : LRow w bo (lo D)) (hT : TabW w) (R : RqB n N D) :
    Calls Tryz.prog 30 #[.agg #[.bool n, .slice ao (nl N) ac, .slice bo (nl D) bc]] w fun e w' => e = .returned (.tuple #[.int .i64 (sgR n N), .int .i64 0]) ∧ Below w.heap.size w w' := by
  have RB := B3q.new w (.bool n) (.slice ao (nl N) ac) (.slice bo (nl D) bc) 24
  have hb0 : Below w.heap.size w (w.alloc (.cells #[.bool n, .slice ao (nl N) ac, .slice bo (nl D) bc] 24)) := (Below.refl _ _).alloc (Nat.le_refl _) _
  have r1 := rrightq_any n N D ao bo ac bc _ (h1.below hb0) (h2.below hb0) (tabW_below hT hb0) R
  have s1 := fun w' => rsgn_any n N D ao bo ac bc w'
  generalize sgR n N = s at *
  go_enter Tryz.func30, Tryz.ntmps30
  go_upto_region 1 with fail
  generalize w.alloc (.cells #[.bool n, .slice ao (nl N) ac, .slice bo (nl D) bc] 24) = W0 at *
  obtain ⟨x0, x1, x2, _, _, _, _, _⟩ := id RB
  go_wp2_with (first | (go_at_call 11; refine r1.mono ?_; rintro e w3 ⟨rfl, b3⟩; have RB3 := RB.below b3; obtain ⟨y0, y1, y2, _, _, _, _, _⟩ := id RB3) | (go_at_call 66; refine (s1 _).mono ?_; rintro e w4 ⟨rfl, b4⟩))
  go_ret2
  exact ⟨rfl, hb0.trans ((b3.trans (b4.mono b3.size)).mono hb0.size)⟩
/-- What Cmp tells. -/
def cmR (n1 n2 : Bool) (N1 D1 N2 D2 : Nat) : Int := if sgR n1 N1 = sgR n2 N2 then sgR n1 N1 * cmpI ((N1 * D2 : Nat) : Int) ((N2 * D1 : Nat) : Int) else cmpI (sgR n1 N1) (sgR n2 N2)
set_option maxRecDepth 100000 in
set_option maxHeartbeats 1000000 in
theorem rcmp_any (n1 n2 : Bool) (N1 D1 N2 D2 : Nat) (ao1 bo1 ao2 bo2 : Option Addr) (ac1 bc1 ac2 bc2 : Nat) (w : World) (a1 : LS w ao1 ac1 (lo N1)) (b1 : LS w bo1 bc1 (lo D1)) (a2 : LS w ao2 ac2 (lo N2)) (b2 : LS w bo2 bc2 (lo D2)) (hT : TabW w) (R1 : RqB n1 N1 D1) (R2 : RqB n2 N2 D2) :
    Calls Tryz.prog 28 #[.agg #[.bool n1, .slice ao1 (nl N1) ac1, .slice bo1 (nl D1) bc1], .agg #[.bool n2, .slice ao2 (nl N2) ac2, .slice bo2 (nl D2) bc2]] w fun e w' => e = .returned (.tuple #[.int .i64 (cmR n1 n2 N1 D1 N2 D2), .int .i64 0]) ∧ Below w.heap.size w w' := by
  have AB := (B3q.new w (.bool n1) (.slice ao1 (nl N1) ac1) (.slice bo1 (nl D1) bc1) 24).alloc (.cells #[.bool n2, .slice ao2 (nl N2) ac2, .slice bo2 (nl D2) bc2] 24)
  have BB := B3q.new (w.alloc (.cells #[.bool n1, .slice ao1 (nl N1) ac1, .slice bo1 (nl D1) bc1] 24)) (.bool n2) (.slice ao2 (nl N2) ac2) (.slice bo2 (nl D2) bc2) 24
  have hs1 : (w.alloc (.cells #[.bool n1, .slice ao1 (nl N1) ac1, .slice bo1 (nl D1) bc1] 24)).heap.size = w.heap.size + 1 := by simp
  rw [hs1] at BB
  have hb0 : Below w.heap.size w ((w.alloc (.cells #[.bool n1, .slice ao1 (nl N1) ac1, .slice bo1 (nl D1) bc1] 24)).alloc (.cells #[.bool n2, .slice ao2 (nl N2) ac2, .slice bo2 (nl D2) bc2] 24)) := ((Below.refl _ _).alloc (Nat.le_refl _) _).alloc (by rw [hs1]; omega) _
  have A1 := a1.below hb0
  have B1 := b1.below hb0
  have A2 := a2.below hb0
  have B2 := b2.below hb0
  have T1 := tabW_below hT hb0
  have k1 := R1.n
  have k2 := R1.d
  have k3 := R2.n
  have k4 := R2.d
  obtain ⟨cr, ecr⟩ : ∃ cr, cmR n1 n2 N1 D1 N2 D2 = cr := ⟨_, rfl⟩
  rw [ecr]
  have HCR : Hid _ := ecr
  have e1 := lo_length N1
  have e2 := lo_length D1
  have e3 := lo_length N2
  have e4 := lo_length D2
  clear ecr
  go_enter Tryz.func28, Tryz.ntmps28
  go_upto_region 1 with fail
  generalize (w.alloc (.cells #[.bool n1, .slice ao1 (nl N1) ac1, .slice bo1 (nl D1) bc1] 24)).alloc (.cells #[.bool n2, .slice ao2 (nl N2) ac2, .slice bo2 (nl D2) bc2] 24) = W0 at *
  clear hs1 hT a1 b1 a2 b2
  obtain ⟨x0, x1, x2, _, _, _, _, xlt⟩ := id AB
  obtain ⟨y0, y1, y2, _, _, _, _, ylt⟩ := id BB
  have HC : ∀ w', Below W0.heap.size W0 w' → w'.cell? ⟨w.heap.size, 0, none⟩ = some (.bool n1) ∧ w'.cell? ⟨w.heap.size, 1, none⟩ = some (.slice ao1 (nl N1) ac1) ∧ w'.cell? ⟨w.heap.size, 2, none⟩ = some (.slice bo1 (nl D1) bc1) ∧ w'.cell? ⟨w.heap.size + 1, 0, none⟩ = some (.bool n2) ∧ w'.cell? ⟨w.heap.size + 1, 1, none⟩ = some (.slice ao2 (nl N2) ac2) ∧ w'.cell? ⟨w.heap.size + 1, 2, none⟩ = some (.slice bo2 (nl D2) bc2) := fun w' h =>
    ⟨(AB.below h).c0, (AB.below h).c1, (AB.below h).c2, (BB.below h).c0, (BB.below h).c1, (BB.below h).c2⟩
  have b1d := Below.refl W0.heap.size W0
  have r1 := fun w' (h : Below W0.heap.size W0 w') => rrightq_any n1 N1 D1 ao1 bo1 ac1 bc1 w' (A1.1.below h) (B1.1.below h) (tabW_below T1 h) R1
  have r2 := fun w' (h : Below W0.heap.size W0 w') => rrightq_any n2 N2 D2 ao2 bo2 ac2 bc2 w' (A2.1.below h) (B2.1.below h) (tabW_below T1 h) R2
  have s1 := fun w' => rsgn_any n1 N1 D1 ao1 bo1 ac1 bc1 w'
  have s2 := fun w' => rsgn_any n2 N2 D2 ao2 bo2 ac2 bc2 w'
  have hbd1 : sgR n1 N1 = 0 ∨ sgR n1 N1 = 1 ∨ sgR n1 N1 = -1 := by unfold sgR; split; exact Or.inl rfl; split; exact Or.inr (Or.inr rfl); exact Or.inr (Or.inl rfl)
  unfold cmR at HCR
  generalize sgR n1 N1 = g1 at *
  generalize sgR n2 N2 = g2 at *
  go_upto_region 4 with (first | (go_at_call 11; refine (r2 _ b3).mono ?_; rintro e w4 ⟨rfl, hb4⟩; have b4 := b3.trans (hb4.mono b3.size); obtain ⟨x0', x1', x2', y0', y1', y2'⟩ := HC _ b4) | (go_at_call 11; refine (r1 _ b1d).mono ?_; rintro e w3 ⟨rfl, b3⟩; obtain ⟨u0', u1', u2', v0', v1', v2'⟩ := HC _ b3) | (go_at_call 66; refine (s1 _).mono ?_; rintro e w5 ⟨rfl, hb5⟩; have b5 := b4.trans (hb5.mono b4.size); obtain ⟨p0', p1', p2', q0', q1', q2'⟩ := HC _ b5))
  clear x0 x1 x2 y0 y1 y2 x0' x1' x2' y0' y1' y2' u0' u1' u2' v0' v1' v2' r1 r2 s1
  by_cases hg : g1 = g2
  · have hE := HCR.out
    rw [if_pos hg] at hE
    subst hg
    have t1 : (g1 == g1) = true := by simp
    have t2 : (g1 != g1) = false := by simp
    go_upto_region 6 with (go_at_call 66; refine (s2 _).mono ?_; rintro e w6 ⟨rfl, hb6⟩; have b6 := b5.trans (hb6.mono b5.size); obtain ⟨x0, x1, x2, y0, y1, y2⟩ := HC _ b6)
    have b6d := b6.drew
    have m1 := lmul_any (lo N1) (lo D2) ao1 bo2 ac1 bc2 w6.drew (A1.1.below b6d) (B2.1.below b6d) (lo_lm _) (lo_lm _) (by omega) (by omega)
    have m2 := fun w' (h : Below W0.heap.size W0 w') => lmul_any (lo N2) (lo D1) ao2 bo1 ac2 bc1 w' (A2.1.below h) (B1.1.below h) (lo_lm _) (lo_lm _) (by omega) (by omega)
    simp only [lo_length, vl_lo] at m1 m2
    have l1 : nl (N1 * D2) ≤ 600 := nl_mul (by omega) (by omega)
    have l2 : nl (N2 * D1) ≤ 600 := nl_mul (by omega) (by omega)
    obtain ⟨X, eX⟩ : ∃ X, N1 * D2 = X := ⟨_, rfl⟩
    obtain ⟨Y, eY⟩ : ∃ Y, N2 * D1 = Y := ⟨_, rfl⟩
    rw [eX] at m1 l1 hE
    rw [eY] at l2 hE
    simp only [eY] at m2
    have cC := fun w' xo yo xc yc (hx : LS w' xo xc (lo X)) (hy : LS w' yo yc (lo Y)) => lcmp_any (lo X) (lo Y) xo yo xc yc w' hx.1 hy.1 (lo_lm _) (lo_lm _) (by rw [lo_length]; omega) (by rw [lo_length]; omega)
    simp only [vl_lo, lo_length] at cC
    have cbd := cmpI_bd (X : Int) (Y : Int)
    generalize cmpI (X : Int) (Y : Int) = c at *
    have w1 : IntKind.i64.wrap (g1 * c) = g1 * c := wrapI_id (by rcases hbd1 with h | h | h <;> rw [h] <;> omega) (by rcases hbd1 with h | h | h <;> rw [h] <;> omega)
    have HE : Hid _ := hE
    clear hE eX eY HCR
    go_region_held3 (fun w' => w'.cell? ⟨w.heap.size, 0, none⟩ = some (.bool n1) ∧ w'.cell? ⟨w.heap.size, 1, none⟩ = some (.slice ao1 (nl N1) ac1) ∧ w'.cell? ⟨w.heap.size, 2, none⟩ = some (.slice bo1 (nl D1) bc1) ∧ w'.cell? ⟨w.heap.size + 1, 0, none⟩ = some (.bool n2) ∧ w'.cell? ⟨w.heap.size + 1, 1, none⟩ = some (.slice ao2 (nl N2) ac2) ∧ w'.cell? ⟨w.heap.size + 1, 2, none⟩ = some (.slice bo2 (nl D2) bc2)) (go_keep)
      (first
        | (go_at_call 68; refine (cC _ _ _ _ _ hX8 hY8).mono ?_; rintro e w9 ⟨rfl, hww⟩; subst w9)
        | (go_at_call 69; refine (m2 _ b7).mono ?_; rintro e w8 ⟨yo, yc, rfl, hY8, hb8⟩; have b8 := b7.trans (hb8.mono b7.size); have k8 := HC _ b8; have hX8 := hX7.below hb8)
        | (go_at_call 69; refine m1.mono ?_; rintro e w7 ⟨xo, xc, rfl, hX7, hb7⟩; have b7 : Below W0.heap.size W0 w7 := b6d.trans (hb7.mono b6.size); have k7 := HC _ b7))
    go_wp2
    go_ret2
    exact ⟨congrArg (fun z => Ending.returned (.tuple #[.int .i64 z, .int .i64 0])) HE.out, hb0.trans (b8.mono hb0.size)⟩
  · have hE := HCR.out
    rw [if_neg hg] at hE
    have t1 : (g1 != g2) = true := by simpa using hg
    have cI := fun w' => cmpInt_any g1 g2 w'
    rw [hE] at cI
    clear hE HCR
    go_wp2_with (first | (go_at_call 67; refine (cI _).mono ?_; rintro e w9 ⟨rfl, hww⟩; subst w9) | (go_at_call 66; refine (s2 w6).mono ?_; rintro e w7 ⟨rfl, hb7⟩; have b7 := b6.trans (hb7.mono b6.size)) | (go_at_call 66; refine (s2 _).mono ?_; rintro e w6 ⟨rfl, hb6⟩; have b6 := b5.trans (hb6.mono b5.size); obtain ⟨x0, x1, x2, y0, y1, y2⟩ := HC _ b6))
    go_ret2
    exact ⟨rfl, hb0.trans (b7.mono hb0.size)⟩
end Go.Proofs.YtnclddfljghebaaGreatDoor
