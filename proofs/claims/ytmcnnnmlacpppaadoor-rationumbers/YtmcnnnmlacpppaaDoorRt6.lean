/- What limbs.Div answers. -/
import Derived.Test.YtmcnnnmlacpppaaDoorRt5
namespace Go.Proofs.YtmcnnnmlacpppaaDoor
open Go.RowKit

/-- A quotient and what is left, handed back as limbs. -/
def GaveDv (w : World) (q r : Nat) (e : Ending) (w' : World) : Prop :=
  ∃ qo qc ro rc, e = .returned (.tuple #[.slice qo (nl q) qc, .slice ro (nl r) rc]) ∧ LS w' qo qc (lo q) ∧ LS w' ro rc (lo r) ∧ Below w.heap.size w w'
/-- The highest limb of a number, how far it is from its highest bit. -/
theorem top_limb {V : Nat} (h : V ≠ 0) : (lo V).getD (nl V - 1) 0 ≠ 0 ∧ (lo V).getD (nl V - 1) 0 < 18446744073709551616 ∧ 1 ≤ nl V ∧ 64 - bl ((lo V).getD (nl V - 1) 0) = 64 * nl V - bl V ∧ bl V ≤ 64 * nl V ∧ 64 * nl V < bl V + 64 := by
  have hl := lo_last h
  rw [lo_length] at hl
  have hn : 1 ≤ nl V := by have := hl.2; omega
  have e := bl_top (lo_lm V) (m := nl V - 1) (by rw [lo_length]; omega) (fun j h1 h2 => by rw [lo_length] at h2; omega) hl.1
  rw [vl_lo] at e
  have hb : bl V ≤ 64 * nl V ∧ 64 * nl V < bl V + 64 := by unfold nl; omega
  refine ⟨hl.1, (lo_lm V).getD _, hn, by omega, hb.1, hb.2⟩
set_option maxRecDepth 100000 in
set_option maxHeartbeats 1000000 in
theorem ldiv_any (xs ys : List Nat) (ao bo : Option Addr) (cap bcap : Nat) (w : World) (hr : LRow w ao xs) (hs : LS w bo bcap ys) (hL : Lm xs) (hM : Lm ys) (n1 : xs.length ≤ 40000) (n2 : ys.length ≤ 40000) (h0 : vl ys ≠ 0) :
    Calls Tryd.prog 46 #[.slice ao xs.length cap, .slice bo ys.length bcap] w (GaveDv w (vl xs / vl ys) (vl xs % vl ys)) := by
  have ct := trimL_any ys bo bcap w hs hM (by omega)
  have hT := hs.trim hM
  have nle := nlW_le hM
  obtain ⟨V, eV⟩ : ∃ V, vl ys = V := ⟨_, rfl⟩
  rw [eV] at ct hT h0 nle ⊢
  obtain ⟨t1, t2, t3, t4, t5, t6⟩ := top_limb h0
  have htl := lo_length V
  have htm := lo_lm V
  have htv := vl_lo V
  obtain ⟨n, en⟩ : ∃ n, nl V = n := ⟨_, rfl⟩
  obtain ⟨ts, ets⟩ : ∃ ts, lo V = ts := ⟨_, rfl⟩
  rw [en] at ct t1 t2 t3 t4 t5 t6 htl nle
  rw [ets] at hT t1 t2 t4 htl htm htv
  obtain ⟨up, eup⟩ : ∃ up, 64 * n - bl V = up := ⟨_, rfl⟩
  rw [eup] at t4
  have up1 : up ≤ 63 := by omega
  have cs := lshift_any ts bo bcap (up : Int) w hT.1 htm (by omega) (by omega) (by omega)
  rw [Int.toNat_natCast, htv, htl] at cs
  have eb : nl (V * 2 ^ up) = n := by unfold nl; rw [bl_mul_pow h0]; omega
  obtain ⟨S, eS⟩ : ∃ S, V * 2 ^ up = S := ⟨_, rfl⟩
  have HS1 : Hid (S < 2 ^ (64 * n)) := (show _ < _ by rw [← eS]; refine bl_le_iff.1 ?_; rw [bl_mul_pow h0]; omega)
  have HS2 : Hid (2 ^ (64 * n) ≤ 2 * S) := (show _ ≤ _ by
    have := (bl_spec (v := S) (by rw [← eS]; exact Nat.mul_ne_zero h0 (Nat.ne_of_gt (Nat.two_pow_pos up)))).1
    rw [show bl S = 64 * n by rw [← eS, bl_mul_pow h0]; omega] at this
    have e : 2 ^ (64 * n) = 2 * 2 ^ (64 * n - 1) := by rw [← Nat.pow_succ', show (64 * n - 1).succ = 64 * n by omega]
    omega)
  rw [eS] at cs eb
  rcases hT.1 with hc | ⟨b, o, rfl, hc⟩
  · omega
  have g1 := hc (n - 1) (by omega)
  obtain ⟨tp, etp⟩ : ∃ tp, ts.getD (n - 1) 0 = tp := ⟨_, rfl⟩
  rw [etp] at g1 t1 t2 t4
  have cz := lz64_any tp t2 w
  rw [t4] at cz
  have i1 : (n : Int) - 1 = ((n - 1 : Nat) : Int) := by omega
  have i2 : ((n - 1 : Nat) : Int) < (n : Int) := by omega
  have i3 : n - 1 < n := by omega
  obtain ⟨Ln, eLn⟩ : ∃ Ln, max xs.length n + 1 = Ln := ⟨_, rfl⟩
  have hmx : (if xs.length < n then (n : Int) else (xs.length : Int)) + 1 = (Ln : Int) := by split <;> omega
  have hmk := run_make_row' (P := Tryd.prog) 23 22 (.int .u64 0) 8 Tryd.underlying23 Tryd.infoU rfl .i64 .i64 Ln (by omega) (by omega)
  have HA : Hid (vl xs * 2 ^ up < 2 ^ (64 * Ln) ∧ vl xs * 2 ^ up < S * 2 ^ (64 * (Ln - n))) := (show _ ∧ _ by
    have a : vl xs < 2 ^ (64 * (Ln - 1)) := Nat.lt_of_lt_of_le (vl_lt hL) (Nat.pow_le_pow_right (by omega) (by omega))
    have c : vl xs * 2 ^ up < 2 ^ (64 * (Ln - 1)) * 2 ^ up := Nat.mul_lt_mul_of_pos_right a (Nat.two_pow_pos up)
    have d : (2 : Nat) ^ up ≤ 2 ^ 63 := Nat.pow_le_pow_right (by omega) up1
    have f : 2 ^ (64 * (Ln - 1)) * 2 ^ up ≤ 2 ^ (64 * (Ln - 1)) * 2 ^ 63 := Nat.mul_le_mul_left _ d
    have g : 2 ^ (64 * (Ln - 1)) * 2 ^ 63 ≤ 2 ^ (64 * Ln) := by rw [← Nat.pow_add]; exact Nat.pow_le_pow_right (by omega) (by omega)
    refine ⟨by omega, ?_⟩
    have k : 2 ^ (64 * n) * 2 ^ (64 * (Ln - n)) ≤ 2 * S * 2 ^ (64 * (Ln - n)) := Nat.mul_le_mul_right _ HS2.out
    rw [← Nat.pow_add, show 64 * n + 64 * (Ln - n) = 64 * (Ln - 1) + 64 by omega, Nat.pow_add, Nat.mul_assoc] at k
    generalize S * 2 ^ (64 * (Ln - n)) = Z at *
    generalize 2 ^ (64 * (Ln - 1)) = P at *
    have : P * 2 ^ 64 = 2 * (P * 2 ^ 63) := by grind
    omega)
  have HD : Hid (vl xs / V = vl xs * 2 ^ up / S ∧ vl xs % V = vl xs * 2 ^ up % S / 2 ^ up) := (show _ ∧ _ by
    rw [← eS]
    exact ⟨(Nat.mul_div_mul_right _ _ (Nat.two_pow_pos up)).symm, by rw [Nat.mul_mod_mul_right, Nat.mul_div_cancel _ (Nat.two_pow_pos up)]⟩)
  have hS0 : 0 < S := by rw [← eS]; exact Nat.mul_pos (by omega) (Nat.two_pow_pos up)
  have HU : Hid _ := eup
  have HT4 : Hid _ := t4
  have HEn : Hid _ := en
  have l1 : n ≤ Ln := by omega
  have l2 : Ln ≤ 50000 := by omega
  clear hc eup t4 en eS HS2 etp eV hs hT htv nle
  go_enter Tryd.func46, Tryd.ntmps46
  go_upto_region 4 with (first | (go_at_call 43; refine ct.mono ?_; rintro e w' ⟨rfl, hww⟩; subst w') | (go_at_call 65; refine cz.mono ?_; rintro e w' ⟨rfl, hww⟩; subst w') | (go_at_call 39; refine cs.mono ?_; rintro e w1 ⟨so, sc, rfl, hS, hb1⟩))
  clear ct cz cs g1
  have hsl := lo_length S
  have hsm := lo_lm S
  have hsv := vl_lo S
  rw [eb] at hsl
  obtain ⟨bs, ebs⟩ : ∃ bs, lo S = bs := ⟨_, rfl⟩
  rw [ebs] at hsl hsm hsv hS
  clear ebs eb
  have hap : Apt w1.heap.size so := hS.1.apt (by omega) (Nat.le_refl _)
  have hrx := hr.below hb1
  have HB1 : Hid _ := hb1
  clear hb1 hr
  have hmade := FRow.made w1 Ln
  have hbm : Below w1.heap.size w1 (w1.alloc (.cells (madeCells #[.int .u64 0] Ln) 22)) := (Below.refl _ _).alloc (Nat.le_refl _) _
  go_upto_region 5 with fail
  generalize (if xs.length < n then (n : Int) else (xs.length : Int)) = mm at *
  clear hmx hmk
  go_wp2
  go_loopg [33] Ln (fun gg i wr => ∃ k : Nat, k ≤ Ln ∧ gg = Ln - k ∧ i = .int .i64 k ∧ FRow wr w1.heap.size Ln (fun j => if j < k then win (vl xs) ((j : Int) * 64 - up) else 0) ∧ Below w1.heap.size w1 wr)
  case atStart => exact ⟨0, Nat.zero_le _, rfl, rfl, hmade.congr (fun j _ => by simp), hbm⟩
  case round =>
    obtain ⟨k, hk, hg, rfl, hrow, hb⟩ := hrel
    clear hmade hbm
    by_cases hlt : k < Ln
    · have hrr := hrx.below hb
      have hcell : wr.cell? ⟨w1.heap.size, k, none⟩ = some (.int .u64 ((if k < k then win (vl xs) ((k : Int) * 64 - up) else 0 : Nat) : Int)) := World.rowIs.cell hrow hlt
      have hfro := World.rowIs.frozen hrow k
      rw [if_neg (by omega)] at hcell
      have hset := hrow.set k (win (vl xs) ((k : Int) * 64 - up))
      have hbs := hb.setCell (p := ⟨w1.heap.size, k, none⟩) (Nat.le_refl _) (.int .u64 ((win (vl xs) ((k : Int) * 64 - up) : Nat) : Int))
      have hwd := window_any xs ao cap ((k : Int) * 64 - up) wr hrr hL (by omega) (by omega)
      clear hrow hb
      go_wp2_with (go_at_call 59; refine hwd.mono ?_; rintro e w' ⟨rfl, hww⟩; subst w')
      go_roundg (Ln - (k + 1))
      case measure => omega
      case rel =>
        refine ⟨k + 1, by omega, rfl, by go_num, hset.congr (fun j hj => ?_), hbs⟩
        by_cases hjk : j = k
        · subst hjk; rw [if_pos rfl, if_pos (by omega)]
        · rw [if_neg hjk]
          by_cases h : j < k
          · rw [if_pos h, if_pos (by omega)]
          · rw [if_neg h, if_neg (by omega)]
    · have hkn : k = Ln := by omega
      subst hkn
      clear hlt hg hk
      obtain ⟨m, em⟩ : ∃ m, k - n = m := ⟨_, rfl⟩
      have hmk := run_make_row' (P := Tryd.prog) 23 22 (.int .u64 0) 8 Tryd.underlying23 Tryd.infoU rfl .i64 .i64 m (by omega) (by omega)
      have hLm : k = m + n := by omega
      have i5 : (k : Int) - (n : Int) = (m : Int) := by omega
      have hmade2 := FRow.made wr m
      have hrow2 : FRow (wr.alloc (.cells (madeCells #[.int .u64 0] m) 22)) w1.heap.size k (fun j => win (vl xs) (64 * (j : Int) - up)) := World.rowIs.alloc (hrow.congr (fun j hj => by rw [if_pos hj, Int.mul_comm])) _
      have hb2 : Below w1.heap.size w1 (wr.alloc (.cells (madeCells #[.int .u64 0] m) 22)) := hb.alloc hb.size _
      have hgt : w1.heap.size < wr.heap.size := hrow.lt
      have ha := HA.out
      rw [em] at ha
      have hS0' : Hid (DivI (vl xs * 2 ^ up) S n k m 0 (fun j => win (vl xs) (64 * (j : Int) - up)) (fun _ => 0)) := DivI.start hLm ha.1 ha.2
      have hm5 : m ≤ 50000 := by omega
      have HLm : Hid _ := hLm
      have HEm : Hid _ := em
      clear ha hLm em hrow hb
      go_upto_region 11 with fail
      generalize wr.alloc (.cells (madeCells #[.int .u64 0] m) 22) = w3 at *
      generalize wr.heap.size = g2 at *
      clear hmk i5
      go_wp2
      go_loopg [54] m (fun gg i wr => ∃ (k2 : Nat) (F Q : Nat → Nat), k2 ≤ m ∧ gg = m - k2 ∧ i = .int .i64 k2 ∧ Hid (DivI (vl xs * 2 ^ up) S n k m k2 F Q) ∧ FRow wr w1.heap.size k F ∧ FRow wr g2 m Q ∧ Below w1.heap.size w1 wr)
      case atStart => exact ⟨0, _, _, Nat.zero_le _, rfl, rfl, hS0', hrow2, hmade2, hb2⟩
      case round =>
        clear hS0' hrow2 hmade2 hb2
        obtain ⟨k2, F, Q, hk, hg, rfl, hI, hF, hQ, hb⟩ := hrel
        by_cases hlt : k2 < m
        · obtain ⟨t, et⟩ : ∃ t, m - 1 - k2 = t := ⟨_, rfl⟩
          have kl := HLm.out
          have hsl' := hsl
          have hrb := hS.1.below hb
          obtain ⟨r, hr1, hr2, hU⟩ := hI.out.part hlt kl HS1.out et.symm
          have co := takeOff_any w1.heap.size k t sc (k - t) F bs so wr hF (fun j hj => hI.out.fl _ (by omega)) hrb hap hsm (by omega) (by omega) (by omega) (by omega) (by omega) (by rw [hsl', hsv]; exact hU)
          have hst := fun {out : List Nat} => hI.out.step (out := out) hlt kl hS0 HS1.out et.symm
          rw [hsl, hsv] at co
          have hql : vF (n + 1) (fun j => F (t + j)) / S < 18446744073709551616 := Nat.div_lt_of_lt_mul hU
          have g1 := hQ.cell (i := t) (by omega)
          have j1 : (m : Int) - 1 - (k2 : Int) = (t : Int) := by omega
          have j2 : (t : Int) < (m : Int) := by omega
          have j3 : (t : Int) + (n : Int) + 1 ≤ (k : Int) := by omega
          have j4 : (t : Int) ≤ (t : Int) + (n : Int) + 1 := by omega
          have j5 : ((t : Int) + (n : Int) + 1 - (t : Int)).toNat = n + 1 := by omega
          have j6 : ¬ k = t := by omega
          have j7 : ((t : Int) + (n : Int) + 1).toNat = t + n + 1 := by omega
          have j8 : (0 : Int) ≤ (t : Int) + (n : Int) + 1 := by omega
          have j9 : t < m := by omega
          have j10 : t + n + 1 - t = n + 1 := by omega
          have HST : Hid _ := @hst
          have HET : Hid _ := et
          clear hst hr1 hr2 hU hI et kl hsl'
          obtain ⟨q, eq⟩ : ∃ q, vF (n + 1) (fun j => F (t + j)) / S = q := ⟨_, rfl⟩
          unfold GaveO at co
          rw [eq] at co hql
          have HEQ : Hid _ := eq
          clear eq
          go_wp2_with (go_at_call 66; refine co.mono ?_; rintro e w4 ⟨out, rfl, o1, o2, o3, hF2, hk4⟩; have hQ2 := hk4.frow hQ (by omega); have g2c := hQ2.cell (i := t) (by omega); have g2f := World.rowIs.frozen hQ2 t)
          have hset := hQ2.set t q
          have hF3 := World.rowIs.setOther hF2 (a := ⟨g2, t, none⟩) (by show w1.heap.size ≠ g2; omega) (.int .u64 ((q : Nat) : Int))
          have hb4 := (hb.trans (hk4.below (Nat.le_refl _))).setCell (p := ⟨g2, t, none⟩) (by show w1.heap.size ≤ g2; omega) (.int .u64 ((q : Nat) : Int))
          have hN := HST.out o1 o2 o3
          rw [HEQ.out] at hN
          have HN : Hid _ := hN
          clear hN o1 o2 o3 hF2 hQ2 hk4 hb g2c g2f co hF hQ g1
          go_wp2
          go_roundg (m - (k2 + 1))
          case measure => omega
          case rel => exact ⟨k2 + 1, _, _, by omega, rfl, by go_num, HN.out, hF3, hset, hb4⟩
        · have hkm : k2 = m := by omega
          subst hkm
          obtain ⟨d1, d2⟩ := hI.out.done hS0
          have hlq : LS wr (some ⟨g2, 0, none⟩) k2 (toL k2 Q) := ⟨hQ.lrowL, by rw [toL_length]; exact Nat.le_refl _, fun e => by cases e⟩
          have hlf : LRow wr (some ⟨w1.heap.size, 0, none⟩) (toL k F) := hF.lrowL
          have mq : Lm (toL k2 Q) := toL_lm hI.out.ql
          have mf : Lm (toL k F) := toL_lm hI.out.fl
          have c1 := trimL_any (toL k2 Q) (some ⟨g2, 0, none⟩) k2 wr hlq mq (by rw [toL_length]; omega)
          have c2 := lshr_any (toL k F) (some ⟨w1.heap.size, 0, none⟩) k up wr hlf mf (by rw [toL_length]; omega) (by omega)
          have c3 := hlq.trim mq
          rw [toL_vl, toL_length, d2] at c1
          rw [toL_vl, d2] at c3
          rw [toL_vl, toL_length, d1] at c2
          have hd := HD.out
          rw [← hd.1] at c1 c3
          rw [← hd.2] at c2
          have hb9 := HB1.out.trans (hb.mono HB1.out.size)
          generalize vl xs / V = q at *
          generalize vl xs % V = r at *
          clear hI hF hQ hd d1 d2 mq mf hlq hlf HD
          go_wp2_with (first | (go_at_call 43; refine c1.mono ?_; rintro e w' ⟨rfl, hww⟩; subst w') | (go_at_call 39; refine c2.mono ?_; rintro e w5 ⟨ro, rc, rfl, hR5, hb5⟩))
          go_ret2
          exact ⟨_, _, _, _, rfl, c3.below hb5, hR5, hb9.trans (hb5.mono hb9.size)⟩
end Go.Proofs.YtmcnnnmlacpppaaDoor
