/- What the reference's Rounded tells of a number with an odd size: what the program's Round does. -/
import Derived.Test.YtchegcocdgkneaaDoorYb
import Derived.Test.YtchegcocdgkneaaDoorHa
import Derived.Deep.DeepCutAuto
import Derived.Deep.QuietTactic
import Derived.BigQuiet
namespace Go.Proofs.YtchegcocdgkneaaDoor
open Go.RowKit

set_option maxHeartbeats 400000 in
theorem rfloat_none (neg : Bool) (e : Int) (w : World) :
    Calls Tryd.prog 89 #[.bool neg, .int .u64 0, .int .i64 e] w fun r w' => r = .returned (.float .f64 (sw neg 0)) ∧ Below w.heap.size w w' := by
  have hj := fun w => rjoin_any neg 0 0 w
  rw [join_none] at hj
  go_enter Tryd.func89, Tryd.ntmps89
  go_wp2
  go_loopg [1, 2] 0 (fun g s1 s2 wr => s1 = .int .u64 0 ∧ s2 = .int .i64 0 ∧ wr = w)
  case atStart => exact ⟨rfl, rfl, rfl⟩
  case round =>
    obtain ⟨rfl, rfl, rfl⟩ := hrel
    go_wp2_with (go_at_call 110; refine (hj _).mono ?_; rintro r w1 ⟨rfl, b1⟩)
    go_ret
    exact ⟨rfl, b1⟩
/-- The one limb of what is kept, or none. -/
theorem one_limb {w : World} {o : Option Addr} {c n : Nat} (h : NS w o c (lo n)) (hn : n < 18446744073709551616) : (n = 0 ∧ (lo n).length = 0) ∨ (n ≠ 0 ∧ (lo n).length = 1 ∧ ∃ b off, o = some ⟨b, off, none⟩ ∧ w.cell? ⟨b, off, none⟩ = some (.int .u64 (n : Nat))) := by
  by_cases h0 : n = 0
  · left; subst h0; exact ⟨rfl, by rw [lo_zero]; rfl⟩
  · right
    have e := lo_one h0 hn
    refine ⟨h0, by rw [e]; rfl, ?_⟩
    rcases h.1 with h1 | ⟨b, off, h1, h2⟩
    · rw [e] at h1; cases h1
    · have := h2 0 (by rw [e]; simp)
      rw [e] at this
      exact ⟨b, off, h1, by simpa using this⟩
set_option maxHeartbeats 4000000 in
set_option maxRecDepth 100000 in
theorem rounded_odd (neg : Bool) (xs : List Nat) (ex : Int) (ao : Option Addr) (cap : Nat) (m : Int) (w : World) (hr : NS w ao cap xs) (hL : Lm xs) (hn : xs.length ≤ 256) (e1 : -65536 ≤ ex) (e2 : ex ≤ 65536) (hodd : vl xs % 2 = 1) :
    Calls Tryd.prog 50 #[.agg #[.bool neg, .slice ao xs.length cap, .int .i64 ex], .int .i8 m] w fun e w' => e = .returned (.float .f64 (sw neg (rSz (vl xs) ex (szm neg m)))) ∧ Below w.heap.size w w' := by
  have hZ := fun W (h : NS W ao cap xs) => zero_any ⟨neg, xs, ex⟩ ao cap W h hL (by simp only; omega)
  have hTp := fun W (h : NS W ao cap xs) => ntop_any ⟨neg, xs, ex⟩ ao cap W h hL (by simp only; omega) (by simp only; omega)
  have hUp := fun (n : Nat) W (h : NS W ao cap xs) (hb : n ≤ 1099511627776) => natUp_any xs ao cap n W h hL (by omega) hb
  have hDn := fun (n : Nat) W (h : NS W ao cap xs) (hb : n ≤ 1152921504606846976) => natDown_any xs ao cap n W h hL (by omega) hb
  have hbl : bl (vl xs) ≤ 64 * 256 := bl_limbs hL hn
  obtain ⟨V, hV⟩ : ∃ V, vl xs = V := ⟨_, rfl⟩
  rw [hV] at hodd hbl ⊢
  simp only [hV] at hZ hTp hUp hDn
  have V0 : V ≠ 0 := by omega
  have hz : (V == 0) = false := by simpa using V0
  simp only [hz] at hZ
  obtain ⟨L, hLa⟩ : ∃ L, rLa V ex = L := ⟨_, rfl⟩
  have hLb : -1074 ≤ L ∧ L ≤ 90000 := by rw [← hLa]; unfold rLa; omega
  have HL : Hid (L = if ex + (bl V : Int) - 53 < -1074 then -1074 else ex + (bl V : Int) - 53) := (show _ = _ by rw [← hLa]; unfold rLa; split <;> omega)
  obtain ⟨KP, hKP⟩ : ∃ K, rKp V ex (szm neg m) = K := ⟨_, rfl⟩
  obtain ⟨R, hR⟩ : ∃ R, sw neg (rSz V ex (szm neg m)) = R := ⟨_, rfl⟩
  rw [hR]
  have hKle : KP ≤ 9007199254740992 := by rw [← hKP]; exact (kept_same V0 _).2
  have HG : Hid (1024 < (bl KP : Int) + L → hugeW m neg = R) := (show _ → _ by rw [← hKP, ← hLa, ← hR]; exact great_same V0 m neg)
  have HF : Hid ((bl KP : Int) + L ≤ 1024 → R = sw neg (rW KP L) ∧ L ≤ 971 ∧ (L = -1074 ∨ 4503599627370496 ≤ KP) ∧ rW KP L < 9218868437227405312) := (show _ → _ by
    intro h
    rw [← hKP, ← hLa] at h
    obtain ⟨f1, f2, f3, f4⟩ := fits_same V0 _ h
    rw [← hKP, ← hLa, ← hR, f1]
    exact ⟨rfl, f2, f3, f4⟩)
  have HA : Hid (L ≤ ex → KP = V * 2 ^ (ex - L).toNat) := (show _ → _ by
    intro h
    have hd : rDr V ex = L - ex := by unfold rDr; rw [hLa]
    rw [← hKP, (kept_same V0 _).1, if_neg (by omega)]
    unfold K0 shr
    rw [hd]
    by_cases h2 : L = ex
    · rw [if_pos (by omega), h2]; simp
    · rw [if_neg (by omega), show -(L - ex) = ex - L by omega])
  have HB : Hid (ex < L → KP = (if upB m neg (hlf (V / 2 ^ (L - ex - 1).toNat) (decide (0 < (L - ex - 1).toNat))) (V / 2 ^ (L - ex).toNat % 2 == 1) then V / 2 ^ (L - ex).toNat + 1 else V / 2 ^ (L - ex).toNat) ∧ V / 2 ^ (L - ex).toNat < 9007199254740992) := (show _ → _ by
    intro h
    have hd : rDr V ex = L - ex := by unfold rDr; rw [hLa]
    have hu := up_same (e := ex) V0 m neg (by omega)
    have hk : K0 V ex = V / 2 ^ (L - ex).toNat := by unfold K0 shr; rw [hd, if_pos (by omega)]
    have hb := (K0_bd (e := ex) V0).1
    rw [hk] at hb hu
    rw [hd] at hu
    refine ⟨?_, hb⟩
    rw [← hKP, (kept_same V0 _).1, hk, hd, ← hu]
    by_cases hc : upB m neg (hlf (V / 2 ^ (L - ex - 1).toNat) (decide (0 < (L - ex - 1).toNat))) (V / 2 ^ (L - ex).toNat % 2 == 1) = true
    · rw [if_pos ⟨by omega, hc⟩, if_pos hc]
    · rw [if_neg (fun h => hc h.2), if_neg hc])
  have HO : Hid (V % 2 = 1) := hodd
  clear hLa hKP hR hodd hz V0
  go_enter Tryd.func50, Tryd.ntmps50
  go_upto_region 3 with (go_at_call 81; refine (hZ _ (hr.below ((Below.refl _ _).alloc (Nat.le_refl _) _))).mono ?_; rintro e w1 ⟨rfl, b1⟩)
  obtain ⟨⟨c0, c1, c2⟩, ho1⟩ := one_box b1
  have Hx : Hd w1 w.heap.size ⟨neg, xs, ex⟩ ao cap := ⟨c0, c1, c2, hr.1.below ho1⟩
  clear b1 c0 c1 c2
  go_cut [16, 17, 18, 19, 5] (fun _ _ _ _ s5 wx => s5 = .int .i64 L ∧ Hd wx w.heap.size ⟨neg, xs, ex⟩ ao cap ∧ Below w.heap.size w wx)
  case first =>
    as_aux_lemma =>
      have hc := hTp _ ⟨Hx.row, hr.2⟩
      obtain ⟨a0, a1, a2, ar⟩ := id Hx
      go_wp2_with (go_at_call 82; refine hc.mono ?_; rintro e w2 ⟨rfl, b2⟩)
      all_goals go_meet
      all_goals exact ⟨by have := HL.out; first | (rw [this]; (repeat' split) <;> first | rfl | omega) | (congr 1; rw [this]; (repeat' split) <;> omega), Hx.below b2, ho1.trans (b2.mono ho1.size)⟩
  clear Hx ho1
  obtain ⟨rfl, Hx, hB⟩ := hcut
  obtain ⟨wq, hwq⟩ : ∃ wq, wq = wc := ⟨_, rfl⟩
  subst hwq
  obtain ⟨a0, a1, a2, ar⟩ := id Hx
  go_upto_if 23 with fail
  clear a0 a1 a2 ar
  go_cut [24, 25, 26, 27, 28, 29, 30, 31, 32, 33, 34, 35, 36, 37, 38, 39, 40, 41, 42, 43, 44, 45, 46, 47, 48, 49, 50, 51, 52, 53, 54, 55, 56, 57, 58, 59, 60, 61, 62, 63, 64, 65, 66, 67, 68, 69, 70, 71, 72, 73, 74, 75, 76, 77, 78, 79, 80, 7, 8, 9, 10, 11, 12, 6] (fun _ _ _ _ _ _ _ _ _ _ _ _ _ _ _ _ _ _ _ _ _ _ _ _ _ _ _ _ _ _ _ _ _ _ _ _ _ _ _ _ _ _ _ _ _ _ _ _ _ _ _ _ _ _ _ _ _ _ _ _ _ _ _ s6 wx => ∃ o c, s6 = .slice o (lo KP).length c ∧ NS wx o c (lo KP) ∧ Hd wx w.heap.size ⟨neg, xs, ex⟩ ao cap ∧ Below w.heap.size w wx)
  case first =>
    obtain ⟨a0, a1, a2, ar⟩ := id Hx
    by_cases hle : L ≤ ex
    · as_aux_lemma =>
        have hK := HA.out hle
        have hc := hUp (ex - L).toNat _ ⟨Hx.row, hr.2⟩ (by omega)
        rw [← hK, show (((ex - L).toNat : Nat) : Int) = ex - L by omega] at hc
        clear hK
        go_wp2_with (go_at_call 83; refine hc.mono ?_; rintro e w2 ⟨o, c, rfl, h1, f1, b1⟩)
        go_meet
        exact ⟨o, c, rfl, h1, Hx.below b1, hB.trans (b1.mono hB.size)⟩
    · obtain ⟨hKB, hkb⟩ := HB.out (by omega)
      obtain ⟨D, hD⟩ : ∃ D : Nat, (L - ex).toNat = D := ⟨_, rfl⟩
      have hD1 : 1 ≤ D := by omega
      have hD0 : (L - ex - 1).toNat = D - 1 := by omega
      rw [hD, hD0] at hKB
      rw [hD] at hkb
      have hDi : ((D : Nat) : Int) = L - ex := by omega
      have hDb : D ≤ 200000 := by omega
      have hlt : ex < L := by omega
      have r1 := odd_rest (k := D) HO.out
      have r2 := odd_rest (k := D - 1) HO.out
      rw [decide_eq_true (by omega)] at r1
      obtain ⟨k, hk⟩ : ∃ k, V / 2 ^ D = k := ⟨_, rfl⟩
      obtain ⟨t, ht⟩ : ∃ t, V / 2 ^ (D - 1) = t := ⟨_, rfl⟩
      obtain ⟨mo, hmo⟩ : ∃ mo, decide (0 < D - 1) = mo := ⟨_, rfl⟩
      have htb : t < 18446744073709551616 := by
        have h2 := Nat.div_div_eq_div_mul V (2 ^ (D - 1)) 2
        have h3 := pow_pred (show D ≠ 0 by omega)
        rw [show 2 ^ (D - 1) * 2 = 2 ^ D by omega, ht, hk] at h2
        omega
      have hd1 := hDn D wq ⟨Hx.row, hr.2⟩ (by omega)
      have hd2 := fun W h => hDn (D - 1) W h (by omega)
      rw [r1, hk] at hd1
      rw [hmo] at hKB r2
      rw [hk, ht] at hKB
      rw [hk] at hkb
      simp only [r2, ht] at hd2
      rw [hDi] at hd1
      rw [show ((D - 1 : Nat) : Int) = L - ex - 1 by omega] at hd2
      clear r1 r2 hk ht hmo hD hD0 hD1 hle
      have lb : L - ex ≤ 200000 := by omega
      clear hDi hDb
      go_upto_region 11 with (go_at_call 49; refine hd1.mono ?_; rintro e w2 ⟨o, c, rfl, h1, f1, b1⟩)
      have Hx2 := Hx.below b1
      have hB2 := hB.trans (b1.mono hB.size)
      clear b1 Hx hB a0 a1 a2 ar
      obtain ⟨wq, hwq⟩ : ∃ wq, wq = w2 := ⟨_, rfl⟩
      subst hwq
      go_cut [45, 46, 47, 48, 49, 44, 50, 51, 10, 11] (fun _ _ _ _ _ _ _ _ s10 s11 wx => ∃ o2 c2, s10 = .slice o2 (lo t).length c2 ∧ s11 = .bool mo ∧ NS wx o2 c2 (lo t) ∧ NS wx o c (lo k) ∧ Hd wx w.heap.size ⟨neg, xs, ex⟩ ao cap ∧ Below w.heap.size w wx)
      case first =>
        as_aux_lemma =>
          have hc := hd2 wq ⟨Hx2.row, hr.2⟩
          obtain ⟨a0, a1, a2, ar⟩ := id Hx2
          go_wp2_with (go_at_call 49; refine hc.mono ?_; rintro e w3 ⟨o2, c2, rfl, h2, f2, b2⟩)
          go_meet
          exact ⟨o2, c2, rfl, rfl, h2, h1.below b2, Hx2.below b2, hB2.trans (b2.mono hB2.size)⟩
      clear Hx2 hB2 h1
      obtain ⟨o2, c2, rfl, rfl, h2, h1, Hx, hB⟩ := hcut
      obtain ⟨wq, hwq⟩ : ∃ wq, wq = wc := ⟨_, rfl⟩
      subst hwq
      go_upto_region 13 with fail
      go_cut [52, 53, 54, 55, 56, 57, 58, 59, 60, 10, 61] (fun _ _ _ _ _ _ _ _ _ _ s wx => s = .bool (t % 2 == 1) ∧ wx = wq)
      case first =>
        as_aux_lemma =>
          rcases one_limb h2 htb with ⟨rfl, hl⟩ | ⟨t0, hl, b', off, rfl, hcl⟩
          · rw [hl]
            go_wp2
            go_meet
            exact ⟨rfl, rfl⟩
          · rw [hl]
            obtain ⟨T, hT⟩ : ∃ T : Int, ((t : Nat) : Int) = T := ⟨_, rfl⟩
            rw [hT] at hcl
            have hq : (T % 2 == 1) = (t % 2 == 1) := by rw [Bool.eq_iff_iff]; simp; omega
            have hT0 : 0 ≤ T ∧ T < 18446744073709551616 := by omega
            clear hT
            go_wp2
            go_meet
            exact ⟨rfl, rfl⟩
      obtain ⟨rfl, rfl⟩ := hcut
      obtain ⟨wq, hwq⟩ : ∃ wq, wq = wc := ⟨_, rfl⟩
      subst hwq
      go_upto_if 61 with fail
      go_cut [62, 12] (fun _ s wx => s = .int .i64 (hlf t mo) ∧ wx = wq)
      case first =>
        as_aux_lemma =>
          by_cases h0 : t % 2 = 1
          · have hq : (t % 2 == 1) = true := by simpa using h0
            cases mo
            · have HE : Hid (hlf t false = 0) := (show _ = _ by unfold hlf; rw [if_pos h0]; rfl)
              clear h0
              go_wp2
              go_meet
              exact ⟨by rw [HE.out], rfl⟩
            · have HE : Hid (hlf t true = 1) := (show _ = _ by unfold hlf; rw [if_pos h0]; rfl)
              clear h0
              go_wp2
              go_meet
              exact ⟨by rw [HE.out], rfl⟩
          · have hq : (t % 2 == 1) = false := by simpa using h0
            have HE : Hid (hlf t mo = -1) := (show _ = _ by unfold hlf; rw [if_neg h0])
            clear h0
            go_wp2
            go_meet
            exact ⟨by rw [HE.out], rfl⟩
      obtain ⟨rfl, rfl⟩ := hcut
      obtain ⟨wq, hwq⟩ : ∃ wq, wq = wc := ⟨_, rfl⟩
      subst hwq
      obtain ⟨HF2, hHF⟩ : ∃ H, hlf t mo = H := ⟨_, rfl⟩
      obtain ⟨u, hu⟩ : ∃ u, upB m neg HF2 (k % 2 == 1) = u := ⟨_, rfl⟩
      rw [hHF, hu] at hKB
      have hup := fun W => up_any m neg HF2 (k % 2 == 1) W
      rw [hu] at hup
      rw [hHF]
      clear hHF hu
      go_upto_region 17 with fail
      go_cut [8, 6, 63, 64, 65, 66, 67, 68, 69, 70, 71, 72, 73, 74, 75, 76, 77] (fun _ s6 _ _ _ _ _ _ _ _ _ _ _ _ _ _ s wx => s6 = .slice o (lo k).length c ∧ s = .bool u ∧ Below wq.heap.size wq wx)
      case first =>
        as_aux_lemma =>
          obtain ⟨a0, a1, a2, ar⟩ := id Hx
          rcases one_limb h1 (by omega) with ⟨k0, hl⟩ | ⟨k0, hl, b', off, ho, hcl⟩
          · have hq : (k % 2 == 1) = false := by rw [k0]; rfl
            have HE : Hid ((lo k).length = 0) := hl
            rw [hl]
            rw [hq] at hup
            clear hq hl k0
            have gd : decide ((0 : Int) < ((0 : Nat) : Int)) = false := by decide
            go_quiet ((go_at_call 84; exact Calls.quiet_of_same (hup _)))
            go_wp2
            go_meet
            exact ⟨by rw [HE.out], rfl, quietB _⟩
          · obtain ⟨T, hT⟩ : ∃ T : Int, ((k : Nat) : Int) = T := ⟨_, rfl⟩
            rw [hT] at hcl
            have hq : (T % 2 == 1) = (k % 2 == 1) := by rw [Bool.eq_iff_iff]; simp; omega
            have hT0 : 0 ≤ T ∧ T < 18446744073709551616 := by omega
            have HE : Hid ((lo k).length = 1) := hl
            subst ho
            rw [hl]
            rw [← hq] at hup
            clear hT hq hl
            have gd : (0 : Int) < ((1 : Nat) : Int) := by decide
            go_quiet ((go_at_call 84; exact Calls.quiet_of_same (hup _)))
            go_wp2
            go_meet
            exact ⟨by rw [HE.out], rfl, quietB _⟩
      obtain ⟨rfl, rfl, b3⟩ := hcut
      have Hx3 := Hx.below b3
      have h3 := h1.below b3
      have hB3 := hB.trans (b3.mono hB.size)
      obtain ⟨wq, hwq⟩ : ∃ wq, wq = wc := ⟨_, rfl⟩
      subst hwq
      as_aux_lemma =>
        cases u
        · have hK : KP = k := by rw [hKB]; rfl
          subst hK
          go_wp2
          go_meet
          exact ⟨o, c, rfl, h3, Hx3, hB3⟩
        · have hK : KP = k + 1 := by rw [hKB]; rfl
          subst hK
          have hof := fun W => natOf_any 1 (by omega) W
          have had := fun W p q (u1 : NS W o c (lo k)) (u2 : NS W p q (lo 1)) => natAdd_any (lo k) (lo 1) o p c q W u1 u2 (lo_lm _) (lo_lm _) (by rcases one_limb h1 (by omega) with ⟨_, hl⟩ | ⟨_, hl, _⟩ <;> rw [hl] <;> omega) (by rw [lo_one (by omega) (by omega)]; simp)
          simp only [vl_lo] at had
          go_wp2_with (first | (go_at_call 86; refine (hof _).mono ?_; rintro e w4 ⟨p, q, rfl, u1, v1, b4⟩) | (go_at_call 85; refine (had _ _ _ (h3.below b4) u1).mono ?_; rintro e w5 ⟨p2, q2, rfl, u2, v2, b5⟩))
          rename_i xw xe xx xv xq
          cases xq
          go_meet
          have B4 := b4.trans (b5.mono b4.size)
          exact ⟨p2, q2, rfl, u2, Hx3.below B4, hB3.trans (B4.mono hB3.size)⟩
  clear Hx hB HA HB hUp hDn
  obtain ⟨o, c, rfl, h1, Hx, hB⟩ := hcut
  obtain ⟨wq, hwq⟩ : ∃ wq, wq = wc := ⟨_, rfl⟩
  subst hwq
  have hKb : bl KP ≤ 54 := bl_le_iff.2 (by omega)
  have hKl : (lo KP).length ≤ 1 := by rcases one_limb h1 (by omega) with ⟨_, hl⟩ | ⟨_, hl, _⟩ <;> omega
  have hNB := natBits_any (lo KP) o c wq h1 (lo_lm _) (by omega)
  rw [vl_lo] at hNB
  go_upto_region 19 with fail
  go_cut [81, 82, 83, 84, 85] (fun _ _ _ _ s wx => s = .bool (decide (1024 < (bl KP : Int) + L)) ∧ Below wq.heap.size wq wx)
  case first =>
    as_aux_lemma =>
      obtain ⟨B, hBl⟩ : ∃ B : Int, ((bl KP : Nat) : Int) = B := ⟨_, rfl⟩
      rw [hBl] at hNB
      have hb0 : 0 ≤ B ∧ B ≤ 54 := by omega
      have HBl : Hid (((bl KP : Nat) : Int) = B) := hBl
      clear hBl
      go_wp2_with (go_at_call 87; refine hNB.mono ?_; rintro e w2 ⟨rfl, b2⟩)
      all_goals go_meet
      all_goals exact ⟨by rw [HBl.out], b2⟩
  obtain ⟨rfl, b2⟩ := hcut
  have Hx2 := Hx.below b2
  have h2 := h1.below b2
  have hB2 := hB.trans (b2.mono hB.size)
  clear Hx h1 hB b2 hNB
  obtain ⟨wq, hwq⟩ : ∃ wq, wq = wc := ⟨_, rfl⟩
  subst hwq
  obtain ⟨a0, a1, a2, ar⟩ := id Hx2
  by_cases hg : 1024 < (bl KP : Int) + L
  · as_aux_lemma =>
      have hR := HG.out hg
      have hh := fun W => huge_any m neg W
      rw [hR] at hh
      have hd : decide (1024 < (bl KP : Int) + L) = true := decide_eq_true hg
      rw [hd]
      clear hR hd hg
      go_wp2_with (go_at_call 88; refine (hh _).mono ?_; rintro e w3 ⟨rfl, b3⟩)
      go_ret
      exact ⟨rfl, hB2.trans (b3.mono hB2.size)⟩
  · obtain ⟨hR, f2, f3, f4⟩ := HF.out (by omega)
    have hd : decide (1024 < (bl KP : Int) + L) = false := decide_eq_false hg
    rw [hd]
    clear hd hg
    rcases one_limb h2 (by omega) with ⟨k0, hl⟩ | ⟨k0, hl, b', off, ho, hcl⟩
    · as_aux_lemma =>
        have hq := fun W => rfloat_none neg L W
        have hRR : R = sw neg 0 := by rw [hR, k0]; unfold rW; rw [show (L + 1074).toNat = 0 by omega]
        rw [← hRR] at hq
        rw [hl]
        clear hR hRR k0 hl f2 f3 f4
        go_wp2_with (go_at_call 89; refine (hq _).mono ?_; rintro e w3 ⟨rfl, b3⟩)
        go_ret
        exact ⟨rfl, hB2.trans (b3.mono hB2.size)⟩
    · as_aux_lemma =>
        have hq := fun W => rfloat_any neg KP L W (by omega) (by omega) (by omega) k0
        have hfin : ∀ c' k' : Nat, KP = c' * 2 ^ k' → c' % 2 = 1 → joinF neg c' (L + k') = R := fun c' k' q1 q2 => by
          rw [hR, q1]
          rw [q1] at hKle f3 f4
          exact join_kept neg q2 hKle hLb.1 f2 f3 f4
        obtain ⟨T, hT⟩ : ∃ T : Int, ((KP : Nat) : Int) = T := ⟨_, rfl⟩
        rw [hT] at hcl
        simp only [hT] at hq
        subst ho
        rw [hl]
        have hT0 : 0 ≤ T ∧ T < 18446744073709551616 := by omega
        have HH : Hid (∀ c' k' : Nat, KP = c' * 2 ^ k' → c' % 2 = 1 → joinF neg c' (L + k') = R) := hfin
        clear hT hR hfin k0 hl f2 f3 f4
        go_wp2_with (go_at_call 89; refine (hq _).mono ?_; rintro e w3 ⟨c', k', q1, q2, rfl, b3⟩)
        go_ret
        exact ⟨end_flt (HH.out c' k' q1 q2), hB2.trans (b3.mono hB2.size)⟩
end Go.Proofs.YtchegcocdgkneaaDoor
