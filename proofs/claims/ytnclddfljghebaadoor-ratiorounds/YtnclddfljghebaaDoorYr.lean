/- What the reference's Rounded tells of any number: what the program's Round does of the right dyad that it is. -/
import Derived.Test.YtnclddfljghebaaDoorZy
namespace Go.Proofs.YtnclddfljghebaaDoor
open Go.RowKit

theorem div_pw (U t q : Nat) : U * 2 ^ t / 2 ^ (t + q) = U / 2 ^ q := by
  rw [Nat.pow_add, Nat.mul_comm (2 ^ t), Nat.mul_div_mul_right _ _ (Nat.two_pow_pos t)]
theorem mod_pw (U t q : Nat) : U * 2 ^ t % 2 ^ (t + q) = U % 2 ^ q * 2 ^ t := by
  rw [Nat.pow_add, Nat.mul_comm (2 ^ t), Nat.mul_mod_mul_right]
theorem rp_la {U t : Nat} (hU : U % 2 = 1) (ex : Int) : rLa (U * 2 ^ t) ex = rLa U (ex + t) := by
  unfold rLa
  rw [bl_mul_pow (by omega)]
  congr 1
  omega
theorem rp_up {U t : Nat} {ex L : Int} (hU : U % 2 = 1) (s : Int) (hL : rLa U (ex + t) = L) (h : L ≤ ex) : rKp U (ex + t) s = U * 2 ^ t * 2 ^ (ex - L).toNat := by
  have U0 : U ≠ 0 := by omega
  have hd : rDr U (ex + t) = L - (ex + t) := by unfold rDr; rw [hL]
  rw [(kept_same U0 _).1, if_neg (by omega)]
  unfold K0 shr
  rw [hd, Nat.mul_assoc, ← Nat.pow_add]
  by_cases h2 : L = ex + t
  · rw [if_pos (by omega), h2]
    rw [show (ex + (t : Int) - (ex + t)).toNat = 0 by omega, show t + (ex - (ex + (t : Int))).toNat = 0 by omega, Nat.pow_zero, Nat.div_one, Nat.mul_one]
  · rw [if_neg (by omega), show (-(L - (ex + (t : Int)))).toNat = t + (ex - L).toNat by omega]
theorem rp_ex {U t : Nat} {ex L : Int} (hU : U % 2 = 1) (s : Int) (hL : rLa U (ex + t) = L) (h : ex < L) (h2 : L ≤ ex + t) : rKp U (ex + t) s = U * 2 ^ t / 2 ^ (L - ex).toNat ∧ U * 2 ^ t % 2 ^ (L - ex).toNat = 0 := by
  have U0 : U ≠ 0 := by omega
  have hd : rDr U (ex + t) = L - (ex + t) := by unfold rDr; rw [hL]
  obtain ⟨q, hq⟩ : ∃ q : Nat, t = (L - ex).toNat + q := ⟨t - (L - ex).toNat, by omega⟩
  have e1 : U * 2 ^ t = U * 2 ^ q * 2 ^ (L - ex).toNat := by rw [hq, Nat.pow_add, Nat.mul_assoc, Nat.mul_comm (2 ^ q)]
  rw [e1]
  refine ⟨?_, Nat.mul_mod_left _ _⟩
  rw [Nat.mul_div_cancel _ (Nat.two_pow_pos _), (kept_same U0 _).1, if_neg (by omega)]
  unfold K0 shr
  rw [hd]
  by_cases h3 : L = ex + t
  · rw [if_pos (by omega), h3, show (ex + (t : Int) - (ex + t)).toNat = 0 by omega, show q = 0 by omega]; simp
  · rw [if_neg (by omega), show (-(L - (ex + (t : Int)))).toNat = q by omega]
theorem rp_dn {U t : Nat} {ex L : Int} (hU : U % 2 = 1) (m : Int) (neg : Bool) (hL : rLa U (ex + t) = L) (h : ex + t < L) {D : Nat} (hD : (L - ex).toNat = D) : rKp U (ex + t) (szm neg m) = (if ruB m neg (hlf (U * 2 ^ t / 2 ^ (D - 1)) (decide (0 < D - 1 - t))) (U * 2 ^ t / 2 ^ D % 2 == 1) then U * 2 ^ t / 2 ^ D + 1 else U * 2 ^ t / 2 ^ D) ∧ U * 2 ^ t / 2 ^ D < 9007199254740992 ∧ (U * 2 ^ t % 2 ^ D != 0) = true ∧ (U * 2 ^ t % 2 ^ (D - 1) != 0) = decide (0 < D - 1 - t) := by
  have U0 : U ≠ 0 := by omega
  have hd : rDr U (ex + t) = L - (ex + t) := by unfold rDr; rw [hL]
  obtain ⟨q, hq⟩ : ∃ q : Nat, D = t + q := ⟨D - t, by omega⟩
  have q0 : 0 < q := by omega
  have hq2 : (L - (ex + (t : Int))).toNat = q := by omega
  have hq1 : D - 1 = t + (q - 1) := by omega
  have hu := up_same (e := ex + t) U0 m neg (by omega)
  have hk : K0 U (ex + t) = U / 2 ^ q := by unfold K0 shr; rw [hd, if_pos (by omega), hq2]
  have hb := (K0_bd (e := ex + t) U0).1
  rw [hk] at hb hu
  rw [hd, show (L - (ex + (t : Int)) - 1).toNat = q - 1 by omega] at hu
  rw [hq1, hq, div_pw, div_pw, mod_pw, mod_pw, show t + (q - 1) - t = q - 1 by omega]
  have p0 : 0 < 2 ^ t := Nat.two_pow_pos t
  have hz : ∀ n, (n * 2 ^ t != 0) = (n != 0) := fun n => by
    rw [Bool.eq_iff_iff]
    simp only [bne_iff_ne, ne_eq]
    constructor
    · intro h h'; exact h (by rw [h', Nat.zero_mul])
    · intro h h'
      rcases Nat.mul_eq_zero.1 h' with q' | q'
      · exact h q'
      · omega
  refine ⟨?_, hb, ?_, ?_⟩
  · rw [(kept_same U0 _).1, hk, hd, ← hu]
    by_cases hc : ruB m neg (hlf (U / 2 ^ (q - 1)) (decide (0 < q - 1))) (U / 2 ^ q % 2 == 1) = true
    · rw [if_pos ⟨by omega, hc⟩, if_pos hc]
    · rw [if_neg (fun h => hc h.2), if_neg hc]
  · rw [hz, odd_rest hU]; simpa using q0
  · rw [hz, odd_rest hU]
set_option maxHeartbeats 4000000 in
set_option maxRecDepth 100000 in
theorem rounded_pow (neg : Bool) (xs : List Nat) (ex : Int) (ao : Option Addr) (cap : Nat) (m : Int) (w : World) (hr : NS w ao cap xs) (hL : Lm xs) (hn : xs.length ≤ 256) (e1 : -65536 ≤ ex) (e2 : ex ≤ 65536) (U tp : Nat) (hodd : U % 2 = 1) (hVU : vl xs = U * 2 ^ tp) :
    Calls Tryd.prog 51 #[.agg #[.bool neg, .slice ao xs.length cap, .int .i64 ex], .int .i8 m] w fun e w' => e = .returned (.float .f64 (sw neg (rSz U (ex + tp) (szm neg m)))) ∧ Below w.heap.size w w' := by
  have hZ := fun W (h : NS W ao cap xs) => zero_any ⟨neg, xs, ex⟩ ao cap W h hL (by simp only; omega)
  have hTp := fun W (h : NS W ao cap xs) => ntop_any ⟨neg, xs, ex⟩ ao cap W h hL (by simp only; omega) (by simp only; omega)
  have hUp := fun (n : Nat) W (h : NS W ao cap xs) (hb : n ≤ 1099511627776) => natUp_any xs ao cap n W h hL (by omega) hb
  have hDn := fun (n : Nat) W (h : NS W ao cap xs) (hb : n ≤ 1152921504606846976) => natDown_any xs ao cap n W h hL (by omega) hb
  have hbl : bl (vl xs) ≤ 64 * 256 := bl_limbs hL hn
  obtain ⟨V, hV⟩ : ∃ V, vl xs = V := ⟨_, rfl⟩
  have U0 : U ≠ 0 := by omega
  have hVe : V = U * 2 ^ tp := by rw [← hV]; exact hVU
  rw [hV] at hbl
  simp only [hV] at hZ hTp hUp hDn
  have V0 : V ≠ 0 := by rw [hVe]; have := Nat.mul_pos (Nat.pos_of_ne_zero U0) (Nat.two_pow_pos tp); omega
  have hz : (V == 0) = false := by simpa using V0
  simp only [hz] at hZ
  obtain ⟨L, hLa⟩ : ∃ L, rLa V ex = L := ⟨_, rfl⟩
  have hLu : rLa U (ex + tp) = L := by rw [← hLa, hVe]; exact (rp_la hodd ex).symm
  have hLb : -1074 ≤ L ∧ L ≤ 90000 := by rw [← hLa]; unfold rLa; omega
  have HL : Hid (L = if ex + (bl V : Int) - 53 < -1074 then -1074 else ex + (bl V : Int) - 53) := (show _ = _ by rw [← hLa]; unfold rLa; split <;> omega)
  obtain ⟨KP, hKP⟩ : ∃ K, rKp U (ex + tp) (szm neg m) = K := ⟨_, rfl⟩
  obtain ⟨R, hR⟩ : ∃ R, sw neg (rSz U (ex + tp) (szm neg m)) = R := ⟨_, rfl⟩
  rw [hR]
  have hKle : KP ≤ 9007199254740992 := by rw [← hKP]; exact (kept_same U0 _).2
  have HG : Hid (1024 < (bl KP : Int) + L → hugeW m neg = R) := (show _ → _ by rw [← hKP, ← hLu, ← hR]; exact great_same U0 m neg)
  have HF : Hid ((bl KP : Int) + L ≤ 1024 → R = sw neg (rW KP L) ∧ L ≤ 971 ∧ (L = -1074 ∨ 4503599627370496 ≤ KP) ∧ rW KP L < 9218868437227405312) := (show _ → _ by
    intro h
    rw [← hKP, ← hLu] at h
    obtain ⟨f1, f2, f3, f4⟩ := fits_same U0 _ h
    rw [← hKP, ← hLu, ← hR, f1]
    exact ⟨rfl, f2, f3, f4⟩)
  have HA : Hid (L ≤ ex → KP = V * 2 ^ (ex - L).toNat) := (show _ → _ by
    intro h
    rw [← hKP, hVe]
    exact rp_up hodd _ hLu h)
  have HX : Hid (ex < L → L ≤ ex + tp → KP = V / 2 ^ (L - ex).toNat ∧ (V % 2 ^ (L - ex).toNat != 0) = false) := (show _ → _ → _ by
    intro h h2
    obtain ⟨q1, q2⟩ := rp_ex hodd (szm neg m) hLu h h2
    rw [← hKP, hVe]
    exact ⟨q1, by rw [q2]; rfl⟩)
  have HB : Hid (ex + tp < L → ∀ D, (L - ex).toNat = D → KP = (if ruB m neg (hlf (V / 2 ^ (D - 1)) (decide (0 < D - 1 - tp))) (V / 2 ^ D % 2 == 1) then V / 2 ^ D + 1 else V / 2 ^ D) ∧ V / 2 ^ D < 9007199254740992 ∧ (V % 2 ^ D != 0) = true ∧ (V % 2 ^ (D - 1) != 0) = decide (0 < D - 1 - tp)) := (show _ → _ by
    intro h D hD
    rw [← hKP, hVe]
    exact rp_dn hodd m neg hLu h hD)
  clear hLa hKP hR hodd hz V0 hLu hVe hVU U0
  go_enter Tryd.func51, Tryd.ntmps51
  go_upto_region 3 with (go_at_call 75; refine (hZ _ (hr.below ((Below.refl _ _).alloc (Nat.le_refl _) _))).mono ?_; rintro e w1 ⟨rfl, b1⟩)
  obtain ⟨⟨c0, c1, c2⟩, ho1⟩ := one_box b1
  have Hx : Hd w1 w.heap.size ⟨neg, xs, ex⟩ ao cap := ⟨c0, c1, c2, hr.1.below ho1⟩
  clear b1 c0 c1 c2
  go_cut [16, 17, 18, 19, 5] (fun _ _ _ _ s5 wx => s5 = .int .i64 L ∧ Hd wx w.heap.size ⟨neg, xs, ex⟩ ao cap ∧ Below w.heap.size w wx)
  case first =>
    as_aux_lemma =>
      have hc := hTp _ ⟨Hx.row, hr.2⟩
      obtain ⟨a0, a1, a2, ar⟩ := id Hx
      go_wp2_with (go_at_call 76; refine hc.mono ?_; rintro e w2 ⟨rfl, b2⟩)
      all_goals go_meet
      all_goals exact ⟨by have := HL.out; first | (rw [this]; (repeat' split) <;> first | rfl | omega) | (congr 1; rw [this]; (repeat' split) <;> omega), Hx.below b2, ho1.trans (b2.mono ho1.size)⟩
  clear Hx ho1
  obtain ⟨rfl, Hx, hB⟩ := hcut
  obtain ⟨wq, hwq⟩ : ∃ wq, wq = wc := ⟨_, rfl⟩
  subst hwq
  obtain ⟨a0, a1, a2, ar⟩ := id Hx
  go_upto_if 23 with fail
  clear a0 a1 a2 ar
  go_cut [24, 25, 26, 27, 28, 29, 30, 31, 32, 33, 34, 35, 36, 37, 38, 39, 40, 41, 42, 43, 44, 45, 46, 47, 48, 49, 50, 51, 52, 53, 54, 55, 56, 57, 58, 59, 60, 61, 62, 63, 64, 65, 66, 67, 68, 69, 70, 71, 72, 73, 74, 75, 76, 77, 78, 79, 80, 7, 8, 9, 10, 11, 12, 6] (fun _ _ _ _ _ _ _ _ _ _ _ _ _ _ _ _ _ _ _ _ _ _ _ _ _ _ _ _ _ _ _ _ _ _ _ _ _ _ _ _ _ _ _ _ _ _ _ _ _ _ _ _ _ _ _ _ _ _ _ _ _ _ _ s6 wx => ∃ o c, s6 = .slice o (lo KP).length c ∧ NS wx o c (lo KP) ∧ Hd wx w.heap.size ⟨neg, xs, ex⟩ ao cap ∧ Below w.heap.size w wx)
  case first =>
    obtain ⟨a0, a1, a2, ar⟩ := id Hx
    by_cases hle : L ≤ ex
    · as_aux_lemma =>
        have hK := HA.out hle
        have hc := hUp (ex - L).toNat _ ⟨Hx.row, hr.2⟩ (by omega)
        rw [← hK, show (((ex - L).toNat : Nat) : Int) = ex - L by omega] at hc
        clear hK
        go_wp2_with (go_at_call 48; refine hc.mono ?_; rintro e w2 ⟨o, c, rfl, h1, f1, b1⟩)
        go_meet
        exact ⟨o, c, rfl, h1, Hx.below b1, hB.trans (b1.mono hB.size)⟩
    by_cases hle2 : L ≤ ex + tp
    · as_aux_lemma =>
        obtain ⟨hK, hlo⟩ := HX.out (by omega) hle2
        obtain ⟨D, hD⟩ : ∃ D : Nat, (L - ex).toNat = D := ⟨_, rfl⟩
        rw [hD] at hK hlo
        have hDi : ((D : Nat) : Int) = L - ex := by omega
        have hc := hDn D wq ⟨Hx.row, hr.2⟩ (by omega)
        rw [hlo, ← hK, hDi] at hc
        have hlt : ex < L := by omega
        have lb : L - ex ≤ 200000 := by omega
        clear hK hlo hD hDi HX HB HA hle2 hle
        go_wp2_with (go_at_call 77; refine hc.mono ?_; rintro e w2 ⟨o, c, rfl, h1, f1, b1⟩)
        go_meet
        exact ⟨o, c, rfl, h1, Hx.below b1, hB.trans (b1.mono hB.size)⟩
    · obtain ⟨D, hD⟩ : ∃ D : Nat, (L - ex).toNat = D := ⟨_, rfl⟩
      obtain ⟨hKB, hkb, r1, r2⟩ := HB.out (by omega) D hD
      have hD1 : 1 ≤ D := by omega
      have hDi : ((D : Nat) : Int) = L - ex := by omega
      have hDb : D ≤ 200000 := by omega
      have hlt : ex < L := by omega
      obtain ⟨k, hk⟩ : ∃ k, V / 2 ^ D = k := ⟨_, rfl⟩
      obtain ⟨t, ht⟩ : ∃ t, V / 2 ^ (D - 1) = t := ⟨_, rfl⟩
      obtain ⟨mo, hmo⟩ : ∃ mo, decide (0 < D - 1 - tp) = mo := ⟨_, rfl⟩
      have htb : t < 18446744073709551616 := by
        have h2 := Nat.div_div_eq_div_mul V (2 ^ (D - 1)) 2
        have h3 := pow_pred (show D ≠ 0 by omega)
        rw [show 2 ^ (D - 1) * 2 = 2 ^ D by omega, ht, hk] at h2
        omega
      have hd1 := hDn D wq ⟨Hx.row, hr.2⟩ (by omega)
      have hd2 := fun W h => hDn (D - 1) W h (by omega)
      rw [r1, hk] at hd1
      rw [hmo] at hKB r2
      rw [hk, ht] at hKB
      rw [hk] at hkb
      simp only [r2, ht] at hd2
      rw [hDi] at hd1
      rw [show ((D - 1 : Nat) : Int) = L - ex - 1 by omega] at hd2
      clear r1 r2 hk ht hmo hD hD1 hle hle2
      have lb : L - ex ≤ 200000 := by omega
      clear hDi hDb
      go_upto_region 11 with (go_at_call 77; refine hd1.mono ?_; rintro e w2 ⟨o, c, rfl, h1, f1, b1⟩)
      have Hx2 := Hx.below b1
      have hB2 := hB.trans (b1.mono hB.size)
      clear b1 Hx hB a0 a1 a2 ar
      obtain ⟨wq, hwq⟩ : ∃ wq, wq = w2 := ⟨_, rfl⟩
      subst hwq
      go_cut [45, 46, 47, 48, 49, 44, 50, 51, 10, 11] (fun _ _ _ _ _ _ _ _ s10 s11 wx => ∃ o2 c2, s10 = .slice o2 (lo t).length c2 ∧ s11 = .bool mo ∧ NS wx o2 c2 (lo t) ∧ NS wx o c (lo k) ∧ Hd wx w.heap.size ⟨neg, xs, ex⟩ ao cap ∧ Below w.heap.size w wx)
      case first =>
        as_aux_lemma =>
          have hc := hd2 wq ⟨Hx2.row, hr.2⟩
          obtain ⟨a0, a1, a2, ar⟩ := id Hx2
          go_wp2_with (go_at_call 77; refine hc.mono ?_; rintro e w3 ⟨o2, c2, rfl, h2, f2, b2⟩)
          go_meet
          exact ⟨o2, c2, rfl, rfl, h2, h1.below b2, Hx2.below b2, hB2.trans (b2.mono hB2.size)⟩
      clear Hx2 hB2 h1
      obtain ⟨o2, c2, rfl, rfl, h2, h1, Hx, hB⟩ := hcut
      obtain ⟨wq, hwq⟩ : ∃ wq, wq = wc := ⟨_, rfl⟩
      subst hwq
      go_upto_region 13 with fail
      go_cut [52, 53, 54, 55, 56, 57, 58, 59, 60, 10, 61] (fun _ _ _ _ _ _ _ _ _ _ s wx => s = .bool (t % 2 == 1) ∧ wx = wq)
      case first =>
        as_aux_lemma =>
          rcases one_limb h2 htb with ⟨rfl, hl⟩ | ⟨t0, hl, b', off, rfl, hcl⟩
          · rw [hl]
            go_wp2
            go_meet
            exact ⟨rfl, rfl⟩
          · rw [hl]
            obtain ⟨T, hT⟩ : ∃ T : Int, ((t : Nat) : Int) = T := ⟨_, rfl⟩
            rw [hT] at hcl
            have hq : (T % 2 == 1) = (t % 2 == 1) := by rw [Bool.eq_iff_iff]; simp; omega
            have hT0 : 0 ≤ T ∧ T < 18446744073709551616 := by omega
            clear hT
            go_wp2
            go_meet
            exact ⟨rfl, rfl⟩
      obtain ⟨rfl, rfl⟩ := hcut
      obtain ⟨wq, hwq⟩ : ∃ wq, wq = wc := ⟨_, rfl⟩
      subst hwq
      go_upto_if 61 with fail
      go_cut [62, 12] (fun _ s wx => s = .int .i64 (hlf t mo) ∧ wx = wq)
      case first =>
        as_aux_lemma =>
          by_cases h0 : t % 2 = 1
          · have hq : (t % 2 == 1) = true := by simpa using h0
            cases mo
            · have HE : Hid (hlf t false = 0) := (show _ = _ by unfold hlf; rw [if_pos h0]; rfl)
              clear h0
              go_wp2
              go_meet
              exact ⟨by rw [HE.out], rfl⟩
            · have HE : Hid (hlf t true = 1) := (show _ = _ by unfold hlf; rw [if_pos h0]; rfl)
              clear h0
              go_wp2
              go_meet
              exact ⟨by rw [HE.out], rfl⟩
          · have hq : (t % 2 == 1) = false := by simpa using h0
            have HE : Hid (hlf t mo = -1) := (show _ = _ by unfold hlf; rw [if_neg h0])
            clear h0
            go_wp2
            go_meet
            exact ⟨by rw [HE.out], rfl⟩
      obtain ⟨rfl, rfl⟩ := hcut
      obtain ⟨wq, hwq⟩ : ∃ wq, wq = wc := ⟨_, rfl⟩
      subst hwq
      obtain ⟨HF2, hHF⟩ : ∃ H, hlf t mo = H := ⟨_, rfl⟩
      obtain ⟨u, hu⟩ : ∃ u, ruB m neg HF2 (k % 2 == 1) = u := ⟨_, rfl⟩
      rw [hHF, hu] at hKB
      have hup := fun W => up_any m neg HF2 (k % 2 == 1) W
      rw [hu] at hup
      rw [hHF]
      clear hHF hu
      go_upto_region 17 with fail
      go_cut [8, 6, 63, 64, 65, 66, 67, 68, 69, 70, 71, 72, 73, 74, 75, 76, 77] (fun _ s6 _ _ _ _ _ _ _ _ _ _ _ _ _ _ s wx => s6 = .slice o (lo k).length c ∧ s = .bool u ∧ Below wq.heap.size wq wx)
      case first =>
        as_aux_lemma =>
          obtain ⟨a0, a1, a2, ar⟩ := id Hx
          rcases one_limb h1 (by omega) with ⟨k0, hl⟩ | ⟨k0, hl, b', off, ho, hcl⟩
          · have hq : (k % 2 == 1) = false := by rw [k0]; rfl
            have HE : Hid ((lo k).length = 0) := hl
            rw [hl]
            rw [hq] at hup
            clear hq hl k0
            have gd : decide ((0 : Int) < ((0 : Nat) : Int)) = false := by decide
            go_quiet ((go_at_call 78; exact Calls.quiet_of_same (hup _)))
            go_wp2
            go_meet
            exact ⟨by rw [HE.out], rfl, quietB _⟩
          · obtain ⟨T, hT⟩ : ∃ T : Int, ((k : Nat) : Int) = T := ⟨_, rfl⟩
            rw [hT] at hcl
            have hq : (T % 2 == 1) = (k % 2 == 1) := by rw [Bool.eq_iff_iff]; simp; omega
            have hT0 : 0 ≤ T ∧ T < 18446744073709551616 := by omega
            have HE : Hid ((lo k).length = 1) := hl
            subst ho
            rw [hl]
            rw [← hq] at hup
            clear hT hq hl
            have gd : (0 : Int) < ((1 : Nat) : Int) := by decide
            go_quiet ((go_at_call 78; exact Calls.quiet_of_same (hup _)))
            go_wp2
            go_meet
            exact ⟨by rw [HE.out], rfl, quietB _⟩
      obtain ⟨rfl, rfl, b3⟩ := hcut
      have Hx3 := Hx.below b3
      have h3 := h1.below b3
      have hB3 := hB.trans (b3.mono hB.size)
      obtain ⟨wq, hwq⟩ : ∃ wq, wq = wc := ⟨_, rfl⟩
      subst hwq
      as_aux_lemma =>
        cases u
        · have hK : KP = k := by rw [hKB]; rfl
          subst hK
          go_wp2
          go_meet
          exact ⟨o, c, rfl, h3, Hx3, hB3⟩
        · have hK : KP = k + 1 := by rw [hKB]; rfl
          subst hK
          have hof := fun W => natOf_any 1 (by omega) W
          have had := fun W p q (u1 : NS W o c (lo k)) (u2 : NS W p q (lo 1)) => natAdd_any (lo k) (lo 1) o p c q W u1 u2 (lo_lm _) (lo_lm _) (by rcases one_limb h1 (by omega) with ⟨_, hl⟩ | ⟨_, hl, _⟩ <;> rw [hl] <;> omega) (by rw [lo_oneY (by omega) (by omega)]; simp)
          simp only [vl_lo] at had
          go_wp2_with (first | (go_at_call 53; refine (hof _).mono ?_; rintro e w4 ⟨p, q, rfl, u1, v1, b4⟩) | (go_at_call 50; refine (had _ _ _ (h3.below b4) u1).mono ?_; rintro e w5 ⟨p2, q2, rfl, u2, v2, b5⟩))
          rename_i xw xe xx xv xq
          cases xq
          go_meet
          have B4 := b4.trans (b5.mono b4.size)
          exact ⟨p2, q2, rfl, u2, Hx3.below B4, hB3.trans (B4.mono hB3.size)⟩
  clear Hx hB HA HB hUp hDn
  obtain ⟨o, c, rfl, h1, Hx, hB⟩ := hcut
  obtain ⟨wq, hwq⟩ : ∃ wq, wq = wc := ⟨_, rfl⟩
  subst hwq
  have hKb : bl KP ≤ 54 := bl_le_iff.2 (by omega)
  have hKl : (lo KP).length ≤ 1 := by rcases one_limb h1 (by omega) with ⟨_, hl⟩ | ⟨_, hl, _⟩ <;> omega
  have hNB := natBits_any (lo KP) o c wq h1 (lo_lm _) (by omega)
  rw [vl_lo] at hNB
  go_upto_region 19 with fail
  go_cut [81, 82, 83, 84, 85] (fun _ _ _ _ s wx => s = .bool (decide (1024 < (bl KP : Int) + L)) ∧ Below wq.heap.size wq wx)
  case first =>
    as_aux_lemma =>
      obtain ⟨B, hBl⟩ : ∃ B : Int, ((bl KP : Nat) : Int) = B := ⟨_, rfl⟩
      rw [hBl] at hNB
      have hb0 : 0 ≤ B ∧ B ≤ 54 := by omega
      have HBl : Hid (((bl KP : Nat) : Int) = B) := hBl
      clear hBl
      go_wp2_with (go_at_call 47; refine hNB.mono ?_; rintro e w2 ⟨rfl, b2⟩)
      all_goals go_meet
      all_goals exact ⟨by rw [HBl.out], b2⟩
  obtain ⟨rfl, b2⟩ := hcut
  have Hx2 := Hx.below b2
  have h2 := h1.below b2
  have hB2 := hB.trans (b2.mono hB.size)
  clear Hx h1 hB b2 hNB
  obtain ⟨wq, hwq⟩ : ∃ wq, wq = wc := ⟨_, rfl⟩
  subst hwq
  obtain ⟨a0, a1, a2, ar⟩ := id Hx2
  by_cases hg : 1024 < (bl KP : Int) + L
  · as_aux_lemma =>
      have hR := HG.out hg
      have hh := fun W => huge_any m neg W
      rw [hR] at hh
      have hd : decide (1024 < (bl KP : Int) + L) = true := decide_eq_true hg
      rw [hd]
      clear hR hd hg
      go_wp2_with (go_at_call 79; refine (hh _).mono ?_; rintro e w3 ⟨rfl, b3⟩)
      go_ret
      exact ⟨rfl, hB2.trans (b3.mono hB2.size)⟩
  · obtain ⟨hR, f2, f3, f4⟩ := HF.out (by omega)
    have hd : decide (1024 < (bl KP : Int) + L) = false := decide_eq_false hg
    rw [hd]
    clear hd hg
    rcases one_limb h2 (by omega) with ⟨k0, hl⟩ | ⟨k0, hl, b', off, ho, hcl⟩
    · as_aux_lemma =>
        have hq := fun W => rfloat_none neg L W
        have hRR : R = sw neg 0 := by rw [hR, k0]; unfold rW; rw [show (L + 1074).toNat = 0 by omega]
        rw [← hRR] at hq
        rw [hl]
        clear hR hRR k0 hl f2 f3 f4
        go_wp2_with (go_at_call 80; refine (hq _).mono ?_; rintro e w3 ⟨rfl, b3⟩)
        go_ret
        exact ⟨rfl, hB2.trans (b3.mono hB2.size)⟩
    · as_aux_lemma =>
        have hq := fun W => rfloat_any neg KP L W (by omega) (by omega) (by omega) k0
        have hfin : ∀ c' k' : Nat, KP = c' * 2 ^ k' → c' % 2 = 1 → joinF neg c' (L + k') = R := fun c' k' q1 q2 => by
          rw [hR, q1]
          rw [q1] at hKle f3 f4
          exact join_kept neg q2 hKle hLb.1 f2 f3 f4
        obtain ⟨T, hT⟩ : ∃ T : Int, ((KP : Nat) : Int) = T := ⟨_, rfl⟩
        rw [hT] at hcl
        simp only [hT] at hq
        subst ho
        rw [hl]
        have hT0 : 0 ≤ T ∧ T < 18446744073709551616 := by omega
        have HH : Hid (∀ c' k' : Nat, KP = c' * 2 ^ k' → c' % 2 = 1 → joinF neg c' (L + k') = R) := hfin
        clear hT hR hfin k0 hl f2 f3 f4
        go_wp2_with (go_at_call 80; refine (hq _).mono ?_; rintro e w3 ⟨c', k', q1, q2, rfl, b3⟩)
        go_ret
        exact ⟨end_flt (HH.out c' k' q1 q2), hB2.trans (b3.mono hB2.size)⟩
set_option maxHeartbeats 400000 in
theorem rounded_zero (neg : Bool) (xs : List Nat) (ex : Int) (ao : Option Addr) (cap : Nat) (m : Int) (w : World) (hr : NS w ao cap xs) (hL : Lm xs) (hn : xs.length ≤ 256) (h0 : vl xs = 0) :
    Calls Tryd.prog 51 #[.agg #[.bool neg, .slice ao xs.length cap, .int .i64 ex], .int .i8 m] w fun e w' => e = .returned (.float .f64 0) ∧ Below w.heap.size w w' := by
  have hZ := fun W (h : NS W ao cap xs) => zero_any ⟨neg, xs, ex⟩ ao cap W h hL (by simp only; omega)
  simp only [h0] at hZ
  clear h0
  go_enter Tryd.func51, Tryd.ntmps51
  go_wp2_with (go_at_call 75; refine (hZ _ (hr.below ((Below.refl _ _).alloc (Nat.le_refl _) _))).mono ?_; rintro e w1 ⟨rfl, b1⟩; obtain ⟨_, ho1⟩ := one_box b1)
  go_ret
  exact ⟨rfl, ho1⟩
theorem rounded_all (d : Dy) (hL : Lm d.mag) (hn : d.mag.length ≤ 256) (e1 : -65536 ≤ d.exp) (e2 : d.exp ≤ 65536) (m : Int) (ao : Option Addr) (cap : Nat) (w : World) (hr : NS w ao cap d.mag) (h0 : vl d.mag ≠ 0) :
    ∃ U t : Nat, U % 2 = 1 ∧ vl d.mag = U * 2 ^ t ∧ Calls Tryd.prog 51 #[.agg #[.bool d.neg, .slice ao d.mag.length cap, .int .i64 d.exp], .int .i8 m] w fun e w' => e = .returned (.float .f64 (sw d.neg (rSz U (d.exp + t) (szm d.neg m)))) ∧ Below w.heap.size w w' := by
  obtain ⟨k, hk⟩ := tz_spec h0
  have e : vl d.mag = (2 * k + 1) * 2 ^ tz (vl d.mag) := by rw [Nat.mul_comm]; exact hk
  exact ⟨2 * k + 1, tz (vl d.mag), by omega, e, rounded_pow d.neg d.mag d.exp ao cap m w hr hL hn e1 e2 _ _ (by omega) e⟩
end Go.Proofs.YtnclddfljghebaaDoor
