/- Ratios: sums, differences, products, quotients, signs, order. (Written by mkrtf.py.) -/
import Derived.Test.YtmcnnnmlacpppaaDoorRte
namespace Go.Proofs.YtmcnnnmlacpppaaDoor
open Go.RowKit

set_option maxHeartbeats 1000000 in
theorem lmul_any (xs ys : List Nat) (ao bo : Option Addr) (cap bcap : Nat) (w : World) (hr : LRow w ao xs) (hs : LRow w bo ys) (hL : Lm xs) (hM : Lm ys) (n1 : xs.length ≤ 40000) (n2 : ys.length ≤ 40000) :
    Calls Tryd.prog 56 #[.slice ao xs.length cap, .slice bo ys.length bcap] w (GaveLW w (vl xs * vl ys)) := by
  have hmk := run_make_row' (P := Tryd.prog) 23 22 (.int .u64 0) 8 Tryd.underlying23 Tryd.infoU rfl .i64 .i64 (xs.length + ys.length) (by omega) (by omega)
  rw [Int.natCast_add] at hmk
  have hmade := FRow.made w (xs.length + ys.length)
  have hbm : Below w.heap.size w (w.alloc (.cells (madeCells #[.int .u64 0] (xs.length + ys.length)) 22)) := (Below.refl _ _).alloc (Nat.le_refl _) _
  go_enter Tryd.func56, Tryd.ntmps56
  go_wp2
  clear hmk
  go_loopg [15] xs.length (fun g i wr => ∃ (k : Nat) (f : Nat → Nat), k ≤ xs.length ∧ g = xs.length - k ∧ i = .int .i64 k ∧ Hid (Prod' xs ys (xs.length + ys.length) k f) ∧ FRow wr w.heap.size (xs.length + ys.length) f ∧ Below w.heap.size w wr)
  case atStart => exact ⟨0, _, Nat.zero_le _, rfl, rfl, prod_nil _ _ _, hmade, hbm⟩
  case round =>
    obtain ⟨k, f, hk, hg, rfl, hP, hrw, hbw⟩ := hrel
    clear hmade hbm
    by_cases hlt : k < xs.length
    · rcases hr with h | ⟨bx, ox, rfl, hc⟩
      · omega
      · have g0 := hc k hlt
        have hblk := World.block_lt_of_cell? w _ g0
        have g1 : wr.cell? ⟨bx, ox + k, none⟩ = some (.int .u64 (xs.getD k 0 : Nat)) := by rw [hbw.cell hblk]; exact g0
        obtain ⟨x, hx⟩ : ∃ x, xs.getD k 0 = x := ⟨_, rfl⟩
        have kx := hL.getD k
        rw [hx] at g0 g1 kx
        have HX : Hid (xs.getD k 0 = x) := hx
        have htl : (toL ys.length fun j => f (k + j)).length = ys.length := toL_length _ _
        have htm : Lm (toL ys.length fun j => f (k + j)) := toL_lm fun j hj => hP.out.1 _ (by omega)
        have hct := fun w' (hb' : Below w.heap.size w w') (hf' : FRow w' w.heap.size (xs.length + ys.length) f) => addTimes_any w w' ys (toL ys.length fun j => f (k + j)) bo bcap (xs.length + ys.length - k) (xs.length + ys.length) k x f hs hb' hf' hM htm htl (fun j hj => (toL_getD (f := fun j => f (k + j)) hj).symm) (by omega) (by omega) kx (by omega) (by omega)
        have i1 : (k : Int) < (xs.length : Int) := by omega
        have i2 : (k : Int) + (ys.length : Int) < (xs.length : Int) + (ys.length : Int) := by omega
        have i0 : (0 : Int) ≤ (k : Int) := by omega
        have hwr : IntKind.i64.wrap ((k : Int) + (ys.length : Int)) = (k : Int) + (ys.length : Int) := by rw [IntKind.wrap_i64]; omega
        have i3 : (k : Int) ≤ (k : Int) + (ys.length : Int) := by omega
        have i4 : (k : Int) + (ys.length : Int) ≤ (xs.length : Int) + (ys.length : Int) := by omega
        have i5 : ¬ xs.length + ys.length = k := by omega
        have i6 : ((k : Int) + (ys.length : Int) - (k : Int)).toNat = ys.length := by omega
        have i7 : (0 : Int) ≤ (k : Int) + (ys.length : Int) := by omega
        have i8 : ((k : Int) + (ys.length : Int)).toNat = k + ys.length := by omega
        clear hc hx
        go_wp2
        go_region_held3 (fun w' => w'.cell? ⟨bx, ox + k, none⟩ = some (.int .u64 x)) (go_keep)
          (first | (go_at_call 72; refine (hct wr.drew hbw.drew hrw).mono ?_; rintro e w1 ⟨out, c, rfl, hR, hrow1, hb1⟩; have g3 := World.rowIs.cell hrow1 (i := k + ys.length) (by omega); have g4 := World.rowIs.frozen hrow1 (k + ys.length); have g2 : w1.cell? ⟨bx, ox + k, none⟩ = some (.int .u64 x) := (by rw [hb1.cell hblk]; exact g0); have g5 : ∀ v, (w1.setCell ⟨w.heap.size, k + ys.length, none⟩ v).cell? ⟨bx, ox + k, none⟩ = some (.int .u64 x) := (fun v => (by rw [World.cell?_of_block (w := w1) (Below.heap_setCell w1 _ v bx (by have := hblk; simp only at this ⊢; omega))]; exact g2))))
        have HR : Hid _ := hR
        have hset := hrow1.set (k + ys.length) c
        have hbs := hb1.setCell (p := ⟨w.heap.size, k + ys.length, none⟩) (Nat.le_refl _) (.int .u64 (c : Int))
        clear hR hct hrow1 hb1 g3 g4 g2 g5 hwr
        go_wp2
        go_roundg (xs.length - (k + 1))
        case measure => omega
        case rel =>
          refine ⟨k + 1, _, by omega, rfl, by go_num, prod_step hP.out rfl hlt ?_, hset, hbs⟩
          have := HR.out
          rw [HX.out]
          exact this
    · have hkk : k = xs.length := by omega
      subst hkk
      have htr := trim_any (xs.length + ys.length) (xs.length + ys.length) f w.heap.size wr hrw.lrowL hP.out.1 (Nat.le_refl _) (by omega)
      obtain ⟨ht1, ht2⟩ := trim_vF hP.out.1
      obtain ⟨m, hm⟩ : ∃ m, (bl (vF (xs.length + ys.length) f) + 63) / 64 = m := ⟨_, rfl⟩
      rw [hm] at htr ht1 ht2
      have HV : Hid (vF m f = vl xs * vl ys) := (show vF m f = vl xs * vl ys by rw [ht2, hP.out.2.1, List.take_length])
      have HN : Hid (nl (vl xs * vl ys) = m) := (show _ = _ by rw [← hm, hP.out.2.1, List.take_length]; rfl)
      clear hm ht2
      go_wp2_with (go_at_call 43; refine htr.mono ?_; rintro e w1 ⟨rfl, h1⟩; subst w1)
      go_ret
      have hLm : Lm (toL m f) := toL_lm fun j hj => hP.out.1 j (by omega)
      have hlo : lo (vl xs * vl ys) = toL m f := by
        have e := tl_vl hLm
        rw [toL_length, toL_vl, HV.out] at e
        unfold lo
        rw [HN.out]
        exact e
      exact ⟨some ⟨w.heap.size, 0, none⟩, xs.length + ys.length, congrArg (fun z => Ending.returned (Value.slice (some ⟨w.heap.size, 0, none⟩) z (xs.length + ys.length))) HN.out.symm, ⟨by rw [hlo]; exact hrw.lrowL.cutL ht1, by rw [hlo, toL_length]; exact ht1, fun e => by cases e⟩, hbw⟩
/-- A right ratio. -/
structure RqB (neg : Bool) (N D : Nat) : Prop where
  d0 : D ≠ 0
  g : Nat.gcd N D = 1
  n : nl N ≤ 256
  d : nl D ≤ 256
  z : N = 0 → neg = false
theorem fit_lo {z : Nat} (h0 : z ≠ 0) (h : nl z ≤ 256) : fitB (lo z) = true := by
  have hl := lo_last h0
  unfold fitB
  rw [decide_eq_true hl.1, lo_length] at *
  rw [decide_eq_true (show 0 < nl z by have := nlR_pos h0; omega), decide_eq_true h]
  rfl
theorem RqB.right {neg : Bool} {N D : Nat} (h : RqB neg N D) : rtB neg (lo N) (lo D) = true := by
  unfold rtB
  by_cases hN : N = 0
  · have hz := h.z hN
    subst hN hz
    have hg := h.g
    rw [Nat.gcd_zero_left] at hg
    subst hg
    rw [if_pos (show (lo 0).length = 0 from rfl)]
    rfl
  · have := nlR_pos hN
    rw [lo_length, if_neg (by omega), fit_lo hN h.n, fit_lo h.d0 h.d, vl_lo, vl_lo, h.g]
    rfl
/-- What nmA tells is right. -/
theorem nmA_right {neg neg' : Bool} {N D N' D' : Nat} {er : Int} (h : nmA neg N D = (some (neg', N', D'), er)) : RqB neg' N' D' := by
  unfold nmA at h
  split at h
  · cases h
  · rename_i hD
    split at h
    · cases h
      exact ⟨by omega, rfl, by decide, by decide, fun _ => rfl⟩
    · rename_i hN
      split at h
      · rename_i hc
        cases h
        have hg : 0 < Nat.gcd N D := Nat.gcd_pos_of_pos_right _ (by omega)
        refine ⟨?_, by rw [Nat.gcd_div (Nat.gcd_dvd_left N D) (Nat.gcd_dvd_right N D), Nat.div_self hg], hc.1, hc.2, fun hz => ?_⟩
        · exact Nat.ne_of_gt (Nat.div_pos (Nat.le_of_dvd (by omega) (Nat.gcd_dvd_right N D)) hg)
        · have := Nat.div_pos (Nat.le_of_dvd (by omega) (Nat.gcd_dvd_left N D)) hg
          omega
      · cases h
end Go.Proofs.YtmcnnnmlacpppaaDoor
