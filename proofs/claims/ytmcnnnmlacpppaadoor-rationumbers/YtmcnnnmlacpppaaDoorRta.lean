/- What Common answers: the greatest divisor in common. -/
import Derived.Test.YtmcnnnmlacpppaaDoorRt9
namespace Go.Proofs.YtmcnnnmlacpppaaDoor
open Go.RowKit

/-- What Common tells, given the least number of bits that is asked for. -/
def comA (a b : Nat) (least : Int) : Nat := if least ≤ (bl (Nat.gcd a b) : Int) then Nat.gcd a b else 0
theorem odd_cop {a k : Nat} (h : a % 2 = 1) : Nat.Coprime (2 ^ k) a := by
  refine Nat.Coprime.pow_left k ?_
  unfold Nat.Coprime
  rw [Nat.gcd_rec, h]
  rfl
theorem gcd_twos {A B : Nat} (hA : A ≠ 0) (hB : B ≠ 0) : Nat.gcd A B = Nat.gcd (A / 2 ^ tz A) (B / 2 ^ tz B) * 2 ^ min (tz A) (tz B) := by
  obtain ⟨a1, a2⟩ := tz_div hA
  obtain ⟨b1, b2⟩ := tz_div hB
  generalize A / 2 ^ tz A = a at *
  generalize B / 2 ^ tz B = b at *
  generalize tz A = i at *
  generalize tz B = j at *
  rw [a2, b2]
  rcases Nat.le_total i j with h | h
  · obtain ⟨k, rfl⟩ : ∃ k, j = i + k := ⟨j - i, by omega⟩
    rw [Nat.min_eq_left h, Nat.pow_add, Nat.mul_comm (2 ^ i) (2 ^ k), ← Nat.mul_assoc, Nat.gcd_mul_right, Nat.Coprime.gcd_mul_right_cancel_right _ (odd_cop a1)]
  · obtain ⟨k, rfl⟩ : ∃ k, i = j + k := ⟨i - j, by omega⟩
    rw [Nat.min_eq_right h, Nat.pow_add, Nat.mul_comm (2 ^ j) (2 ^ k), ← Nat.mul_assoc, Nat.gcd_mul_right, Nat.Coprime.gcd_mul_right_cancel _ (odd_cop b1)]
set_option maxRecDepth 100000 in
set_option maxHeartbeats 1000000 in
theorem common_any (xs ys : List Nat) (ao bo : Option Addr) (cap bcap : Nat) (least : Int) (w : World) (hr : LRow w ao xs) (hs : LRow w bo ys) (hL : Lm xs) (hM : Lm ys) (n1 : xs.length ≤ 15000) (n2 : ys.length ≤ 15000) (hA : vl xs ≠ 0) (hB : vl ys ≠ 0) (hT : TabW w) :
    Calls Tryd.prog 45 #[.slice ao xs.length cap, .slice bo ys.length bcap, .int .i64 least] w (GaveLW w (comA (vl xs) (vl ys) least)) := by
  have z1 := trailing_any xs ao cap w hr hL hT (by omega)
  have z2 := trailing_any ys bo bcap w hs hM hT (by omega)
  have tA := tz_lt_bl hA
  have tB := tz_lt_bl hB
  have lA : bl (vl xs) ≤ 64 * xs.length := bl_le_iff.2 (vl_lt hL)
  have lB : bl (vl ys) ≤ 64 * ys.length := bl_le_iff.2 (vl_lt hM)
  have hG := gcd_twos hA hB
  obtain ⟨oA, eA⟩ := tz_div hA
  obtain ⟨oB, eB⟩ := tz_div hB
  have s1 := lshr_any xs ao cap (tz (vl xs)) w hr hL (by omega) (by omega)
  have hdA : vl xs / 2 ^ tz (vl xs) ≤ vl xs := Nat.div_le_self _ _
  have hdB : vl ys / 2 ^ tz (vl ys) ≤ vl ys := Nat.div_le_self _ _
  have s2 := fun w' (h : Below w.heap.size w w') => lshr_any ys bo bcap (tz (vl ys)) w' (hs.below h) hM (by omega) (by omega)
  obtain ⟨A, eAA⟩ : ∃ A, vl xs / 2 ^ tz (vl xs) = A := ⟨_, rfl⟩
  obtain ⟨B, eBB⟩ : ∃ B, vl ys / 2 ^ tz (vl ys) = B := ⟨_, rfl⟩
  rw [eAA] at s1 hG oA hdA
  simp only [eBB] at s2
  rw [eBB] at hG oB hdB
  have kA : nl A ≤ 40000 := by have := nl_mono hdA; have := nlW_le hL; omega
  have kB : nl B ≤ 40000 := by have := nl_mono hdB; have := nlW_le hM; omega
  obtain ⟨i, ei⟩ : ∃ i, tz (vl xs) = i := ⟨_, rfl⟩
  obtain ⟨j, ej⟩ : ∃ j, tz (vl ys) = j := ⟨_, rfl⟩
  rw [ei] at z1 s1 tA hG
  rw [ej] at z2 tB hG
  simp only [ej] at s2
  have HG : Hid _ := hG
  obtain ⟨t, et⟩ : ∃ t, min i j = t := ⟨_, rfl⟩
  rw [et] at HG
  have i1 : i ≤ 960000 := by omega
  have j1 : j ≤ 960000 := by omega
  have hmn : (if j < i then (j : Int) else (i : Int)) = (t : Int) := by split <;> omega
  have t1 : t ≤ 960000 := by omega
  obtain ⟨R, eR⟩ : ∃ R, comA (vl xs) (vl ys) least = R := ⟨_, rfl⟩
  have HR : Hid (R = if least ≤ ((bl (Nat.gcd A B) + t : Nat) : Int) then Nat.gcd A B * 2 ^ t else 0) := (show _ = _ by
    have g0 : Nat.gcd A B ≠ 0 := Nat.ne_of_gt (Nat.gcd_pos_of_pos_left _ (by omega))
    rw [← eR]; unfold comA; rw [HG.out, bl_mul_pow g0])
  rw [eR]
  have pA : 0 < A := by omega
  have pB : 0 < B := by omega
  clear eR et eAA eBB ei ej eA eB hG hdA hdB lA lB tA tB hT
  go_enter Tryd.func45, Tryd.ntmps45
  go_upto_region 4 with (first | (go_at_call_of 63 (Value.slice ao xs.length cap); refine z1.mono ?_; rintro e w' ⟨rfl, hww⟩; subst w') | (go_at_call_of 63 (Value.slice bo ys.length bcap); refine z2.mono ?_; rintro e w' ⟨rfl, hww⟩; subst w') | (go_at_call_of 39 (Value.slice ao xs.length cap); refine s1.mono ?_; rintro e w1 ⟨ao1, cap1, rfl, hA1, hb1⟩) | (go_at_call_of 39 (Value.slice bo ys.length bcap); refine (s2 _ hb1).mono ?_; rintro e w2 ⟨bo1, bcap1, rfl, hB1, hb2⟩))
  have cC := lcmp_any (lo A) (lo B) ao1 bo1 cap1 bcap1 w2 (hA1.below hb2).1 hB1.1 (lo_lm A) (lo_lm B) (by rw [lo_length]; omega) (by rw [lo_length]; omega)
  rw [vl_lo, vl_lo, lo_length, lo_length] at cC
  have hA2 := hA1.below hb2
  have hb3 := hb1.trans (hb2.mono hb1.size)
  clear z1 z2 s1 s2 hA1 hb1 hb2 hmn
  obtain ⟨c, ec⟩ : ∃ c, cmpI (A : Int) (B : Int) = c := ⟨_, rfl⟩
  rw [ec] at cC
  have hlt : A < B → c = -1 := fun h => by rw [← ec]; exact cmpI_nat_lt h
  have hge : B ≤ A → 0 ≤ c := fun h => by
    rw [← ec]
    rcases Nat.lt_or_eq_of_le h with h | h
    · rw [cmpI_nat_gt h]; decide
    · rw [cmpI_eq (by rw [h])]; decide
  have HLT : Hid _ := hlt
  have HGE : Hid _ := hge
  clear hlt hge ec
  go_upto_if 28 with (go_at_call 55; refine cC.mono ?_; rintro e w' ⟨rfl, hww⟩; subst w')
  clear cC
  go_cut [0, 1] from 10 (fun s0 s1 wx => ∃ (a b : Nat) (ao bo : Option Addr) (cap bcap : Nat), s0 = .slice ao (nl a) cap ∧ s1 = .slice bo (nl b) bcap ∧ LS wx ao cap (lo a) ∧ LS wx bo bcap (lo b) ∧ b ≤ a ∧ 0 < b ∧ nl a ≤ 40000 ∧ Hid (Nat.gcd a b = Nat.gcd A B) ∧ wx = w2)
  case first =>
    by_cases h : A < B
    · have q := HLT.out h
      subst q
      go_wp2
      go_meet
      exact ⟨B, A, _, _, _, _, rfl, rfl, hB1, hA2, by omega, pA, kB, Nat.gcd_comm B A, rfl⟩
    · have q : ¬ c < 0 := by have := HGE.out (by omega); omega
      go_wp2
      go_meet
      exact ⟨A, B, _, _, _, _, rfl, rfl, hA2, hB1, by omega, pB, kA, rfl, rfl⟩
  obtain ⟨a, b, ao2, bo2, cap2, bcap2, rfl, rfl, hl1, hl2, hba, hb0, hna, hgc, h'⟩ := hcut
  subst wc
  clear hA2 hB1 HLT HGE
  obtain ⟨G, eG⟩ : ∃ G, Nat.gcd A B = G := ⟨_, rfl⟩
  rw [eG] at HR hgc
  clear eG pA pB kA kB
  go_wp2
  go_loopg [0, 1] b (fun gg s0 s1 wr => ∃ (a b : Nat) (ao bo : Option Addr) (cap bcap : Nat), gg = b ∧ s0 = .slice ao (nl a) cap ∧ s1 = .slice bo (nl b) bcap ∧ LS wr ao cap (lo a) ∧ LS wr bo bcap (lo b) ∧ b ≤ a ∧ nl a ≤ 40000 ∧ Hid (Nat.gcd a b = G ∧ 0 < a) ∧ Below w.heap.size w wr)
  case atStart => exact ⟨a, b, _, _, _, _, rfl, rfl, rfl, hl1, hl2, hba, hna, ⟨hgc, by omega⟩, hb3⟩
  case round =>
    clear hl1 hl2 hba hb0 hna hgc hb3
    obtain ⟨a, b, ao3, bo3, cap3, bcap3, hg, rfl, rfl, hl1, hl2, hba, hna, hgc, hbw⟩ := hrel
    have HGG : Hid _ := hg
    clear hg
    by_cases h0 : b = 0
    · subst h0
      have eGa := hgc.out.1
      rw [Nat.gcd_zero_right] at eGa
      have pa := hgc.out.2
      have HR2 : Hid (R = if least ≤ ((bl a + t : Nat) : Int) then a * 2 ^ t else 0) := (show _ = _ by rw [eGa]; exact HR.out)
      have n0 : nl 0 = 0 := rfl
      have cl := bitLen_any (lo a) ao3 cap3 wr hl1.1 (lo_lm a) (by rw [lo_length]; omega)
      have cs := lshift_any (lo a) ao3 cap3 (t : Int) wr hl1.1 (lo_lm a) (by rw [lo_length]; omega) (by omega) (by omega)
      rw [lo_length, vl_lo] at cl cs
      rw [Int.toNat_natCast] at cs
      have hbl : bl a ≤ 64 * nl a := by unfold nl; omega
      clear HR hgc eGa
      by_cases hle : least ≤ ((bl a + t : Nat) : Int)
      · have hR2 := HR2.out
        rw [if_pos hle] at hR2
        have HR3 : Hid _ := hR2
        rw [← hR2] at cs
        have q1 : ¬ ((bl a : Int) + (t : Int) < least) := by omega
        clear HR2 hR2 hle
        go_wp2_with (first | (go_at_call 44; refine cl.mono ?_; rintro e w' ⟨rfl, hww⟩; subst w') | (go_at_call 39; refine cs.mono ?_; rintro e w4 ⟨ro, rc, rfl, hR, hb4⟩))
        go_ret
        exact ⟨_, _, rfl, hR, hbw.trans (hb4.mono hbw.size)⟩
      · have hR2 := HR2.out
        rw [if_neg hle] at hR2
        have q1 : (bl a : Int) + (t : Int) < least := by omega
        subst hR2
        clear HR2 cs hle
        go_wp2_with (first | (go_at_call 44; refine cl.mono ?_; rintro e w' ⟨rfl, hww⟩; subst w'))
        go_ret
        exact ⟨none, 0, rfl, ⟨Or.inl rfl, Nat.le_refl _, fun _ => rfl⟩, hbw⟩
    · have nb : 0 < nl b := nlR_pos h0
      have q0 : (0 : Int) < (nl b : Int) := by omega
      have nB := nl_mono hba
      have cl := bitLen_any (lo b) bo3 bcap3 wr hl2.1 (lo_lm b) (by rw [lo_length]; omega)
      rw [lo_length, vl_lo] at cl
      have hbl : bl b ≤ 64 * nl b := by unfold nl; omega
      by_cases hle : least ≤ (bl b : Int) + (t : Int)
      · have co := onward_any a b ao3 bo3 cap3 bcap3 wr hl1 hl2 (by omega) hba hna
        clear HR
        go_wp2_with (first | (go_at_call 44; refine cl.mono ?_; rintro e w' ⟨rfl, hww⟩; subst w') | (go_at_call 64; refine co.mono ?_; rintro e w4 ⟨a', b', ao4, bo4, cap4, bcap4, rfl, k1, k2, k3, k4, k5, k6, hb4⟩))
        have hgN : Nat.gcd a' b' = G := by rw [k6]; exact hgc.out.1
        have pN : 0 < a' := by
          have : 0 < Nat.gcd a' b' := by rw [hgN, ← hgc.out.1]; exact Nat.gcd_pos_of_pos_left _ hgc.out.2
          rcases Nat.eq_zero_or_pos a' with hz | hz
          · have hz2 : b' = 0 := by omega
            subst hz
            subst hz2
            simp at this
          · exact hz
        have HN : Hid (Nat.gcd a' b' = G ∧ 0 < a') := ⟨hgN, pN⟩
        have nN := nl_mono k5
        clear hgN pN k6 cl co hgc
        go_roundg b'
        case measure => rw [HGG.out]; exact k3
        case rel => exact ⟨a', b', _, _, _, _, rfl, rfl, rfl, k1, k2, k4, by omega, HN, hbw.trans (hb4.mono hbw.size)⟩
      · have hGb : bl G ≤ bl b := by
          rw [← hgc.out.1]
          exact blW_mono (Nat.le_of_dvd (by omega) (Nat.gcd_dvd_right a b))
        have hR2 := HR.out
        rw [if_neg (by omega)] at hR2
        subst hR2
        clear hgc HR
        go_wp2_with (first | (go_at_call 44; refine cl.mono ?_; rintro e w' ⟨rfl, hww⟩; subst w'))
        go_ret
        exact ⟨none, 0, rfl, ⟨Or.inl rfl, Nat.le_refl _, fun _ => rfl⟩, hbw⟩
end Go.Proofs.YtmcnnnmlacpppaaDoor
