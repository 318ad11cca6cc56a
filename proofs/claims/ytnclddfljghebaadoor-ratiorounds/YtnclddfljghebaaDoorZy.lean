/- What the reference's Rounded tells of a number with an odd size: what the program's Round does. -/
import Derived.Test.YtnclddfljghebaaDoorK3
import Derived.Test.YtnclddfljghebaaDoorZo
import Derived.Test.YtnclddfljghebaaDoorZr
import Derived.Deep.RegionWith
import Derived.Test.YtnclddfljghebaaDoorYp
import Derived.Deep.DeepCutAuto
import Derived.Deep.QuietTactic
import Derived.BigQuiet
namespace Go.Proofs.YtnclddfljghebaaDoor
open Go.RowKit

/-- A word of a sign and a size. -/
def sw (neg : Bool) (r : Nat) : Nat := if neg then 9223372036854775808 + r else r
theorem pow_pred {k : Nat} (h : k ≠ 0) : (2 : Nat) ^ k = 2 * 2 ^ (k - 1) := by
  cases k with
  | zero => exact absurd rfl h
  | succ j => rw [Nat.pow_succ, Nat.mul_comm]; rfl
/-- Odd parts of a size that is kept: the float that they tell. -/
theorem join_kept {c k : Nat} {last : Int} (neg : Bool) (hc : c % 2 = 1) (hk : c * 2 ^ k ≤ 9007199254740992) (h1 : -1074 ≤ last) (h2 : last ≤ 971) (hor : last = -1074 ∨ 4503599627370496 ≤ c * 2 ^ k) (hf : rW (c * 2 ^ k) last < 9218868437227405312) :
    joinF neg c (last + k) = sw neg (rW (c * 2 ^ k) last) := by
  have c0 : c ≠ 0 := by omega
  have hp := Nat.two_pow_pos k
  have hkk : k ≤ 53 := by
    have h := Nat.le_trans (Nat.le_mul_of_pos_left (2 ^ k) (Nat.pos_of_ne_zero c0)) hk
    by_cases hh : k ≤ 53
    · exact hh
    · have := Nat.pow_le_pow_right (show 0 < 2 by omega) (show 54 ≤ k by omega)
      omega
  have hjR : jR c (last + k) = rW (c * 2 ^ k) last := by
    by_cases ht : c * 2 ^ k = 9007199254740992
    · have hk53 : k = 53 := by
        by_cases hh : k = 53
        · exact hh
        · have hd : 9007199254740992 = 2 ^ (53 - k) * 2 ^ k := by rw [← Nat.pow_add, show 53 - k + k = 53 by omega]
          rw [hd] at ht
          have e := Nat.eq_of_mul_eq_mul_right hp ht
          have := pow_pred (show 53 - k ≠ 0 by omega)
          omega
      subst hk53
      have c1 : c = 1 := by
        have : (2 : Nat) ^ 53 = 9007199254740992 := rfl
        rw [this] at ht; omega
      subst c1
      have h := jR_eq (f := 1) (k := 52) (e := last + ((53 : Nat) : Int)) (by omega) (by decide) (by omega) (Or.inr (by decide))
      rw [h]
      unfold rW
      rw [show (1 : Nat) * 2 ^ 52 = 4503599627370496 from rfl, show (1 : Nat) * 2 ^ 53 = 9007199254740992 from rfl]
      omega
    · have h := jR_eq (f := c) (k := k) (e := last + k) c0 (by omega) (by omega) (hor.imp (fun h => by omega) id)
      rw [h, show last + (k : Int) - k = last by omega]
  have hc53 : c < 9007199254740992 := by
    by_cases hh : k = 0
    · subst hh; rw [Nat.pow_zero, Nat.mul_one] at hk; omega
    · have := pow_pred hh
      have hq := Nat.two_pow_pos (k - 1)
      rw [this] at hk
      have : c * 2 ≤ c * (2 * 2 ^ (k - 1)) := Nat.mul_le_mul_left c (by omega)
      omega
  have he : last + (k : Int) ≤ 1023 := by
    unfold rW at hf
    by_cases hh : last + (k : Int) ≤ 1023
    · exact hh
    · exfalso
      have h1' : 2 ^ k ≤ c * 2 ^ k := Nat.le_mul_of_pos_left _ (Nat.pos_of_ne_zero c0)
      have hk52 : k = 53 ∨ k ≤ 52 := by omega
      rcases hk52 with h | h
      · subst h
        rw [show (2 : Nat) ^ 53 = 9007199254740992 from rfl] at *
        omega
      · omega
  have hok : okP c (last + k) = true := by
    unfold okP
    rw [if_neg c0]
    simp only [decide_eq_true_eq]
    exact ⟨hc, hc53, by omega, he, by rw [hjR]; exact hf⟩
  unfold joinF valR
  rw [hok, if_pos rfl, if_neg c0, if_pos rfl, hjR]
  rfl
theorem join_none (neg : Bool) : joinF neg 0 0 = sw neg 0 := by
  unfold joinF valR okP sw; simp
set_option maxHeartbeats 1000000 in
set_option maxRecDepth 100000 in
theorem rfloat_any (neg : Bool) (n : Nat) (e : Int) (w : World) (hn : n < 18446744073709551616) (h1 : -1000000 ≤ e) (h2 : e ≤ 1000000) (h0 : n ≠ 0) :
    Calls Tryd.prog 80 #[.bool neg, .int .u64 (n : Int), .int .i64 e] w fun r w' => ∃ c k : Nat, n = c * 2 ^ k ∧ c % 2 = 1 ∧ r = .returned (.float .f64 (joinF neg c (e + k))) ∧ Below w.heap.size w w' := by
  obtain ⟨N, hN⟩ : ∃ N : Int, (n : Int) = N := ⟨_, rfl⟩
  rw [hN]
  have b0 : (N == 0) = false := by simp; omega
  have nb : 0 < N ∧ N < 18446744073709551616 := by omega
  go_enter Tryd.func80, Tryd.ntmps80
  go_wp2
  go_loopg [1, 2] n (fun g s1 s2 wr => ∃ (k : Nat) (m x : Int), s1 = .int .u64 m ∧ s2 = .int .i64 x ∧ m = (g : Int) ∧ Aside (n = g * 2 ^ k ∧ x = e + k ∧ g ≠ 0 ∧ g < 18446744073709551616) ∧ wr = w)
  case atStart => exact ⟨0, _, _, rfl, rfl, hN.symm, ⟨by simp, by simp, h0, hn⟩, rfl⟩
  case round =>
    obtain ⟨k, m, x, rfl, rfl, hm, hA, rfl⟩ := hrel
    obtain ⟨a1, a2, a3, a4⟩ := hA.out
    have hk : k < 64 := by
      by_cases hh : k < 64
      · exact hh
      · have h64 := Nat.pow_le_pow_right (show 0 < 2 by omega) (show 64 ≤ k by omega)
        have := Nat.le_mul_of_pos_left (2 ^ k) (Nat.pos_of_ne_zero a3)
        omega
    have m0 : 0 < m ∧ m < 18446744073709551616 := by omega
    have x0 : -1000000 ≤ x ∧ x ≤ 1000100 := by omega
    have HA : Hid (n = gk * 2 ^ k ∧ x = e + k ∧ gk ≠ 0 ∧ m = (gk : Int)) := ⟨a1, a2, a3, hm⟩
    clear hA a1 a2 a3 a4 hm hk nb b0 hN hn h0 h1 h2
    by_cases hev : m % 2 = 0
    · have e0 : (m % 2 == 0) = true := by simpa using hev
      have HV : Hid (m % 2 = 0) := hev
      clear hev
      go_wp2
      obtain ⟨a1, a2, a3, hm⟩ := HA.out
      have hev := HV.out
      have hd : gk = gk / 2 * 2 := by omega
      go_roundg (gk / 2)
      case measure => omega
      case rel => exact ⟨k + 1, _, _, rfl, rfl, by omega, ⟨by rw [Nat.pow_succ, Nat.mul_comm (2 ^ k), ← Nat.mul_assoc, ← hd]; exact a1, by omega, by omega, by omega⟩, rfl⟩
    · have e0 : (m % 2 == 0) = false := by simpa using hev
      have HV : Hid (¬ m % 2 = 0) := hev
      clear hev
      obtain ⟨a1, a2, a3, hm⟩ := HA.out
      have hj := fun w => rjoin_any neg gk x w
      rw [← hm] at hj
      clear a1 a2 a3 hm
      go_wp2_with (go_at_call 94; refine (hj _).mono ?_; rintro r w1 ⟨rfl, b1⟩)
      go_ret
      obtain ⟨a1, a2, a3, hm⟩ := HA.out
      have hev := HV.out
      exact ⟨gk, k, a1, by omega, end_flt (by rw [a2]), b1⟩
/-- Is a size that was cut off made greater by one? -/
def ruB (m : Int) (neg : Bool) (half : Int) (odd : Bool) : Bool := if m = 1 then neg else if m = 2 then !neg else if m = 3 then false else decide (0 < half) || (decide (half = 0) && odd)
set_option maxHeartbeats 400000 in
theorem up_any (m : Int) (neg : Bool) (half : Int) (odd : Bool) (w : World) :
    Calls Tryd.prog 78 #[.int .i8 m, .bool neg, .int .i64 half, .bool odd] w fun e w' => e = .returned (.bool (ruB m neg half odd)) ∧ w' = w := by
  rcases (show m = 1 ∨ m = 2 ∨ m = 3 ∨ (m ≠ 1 ∧ m ≠ 2 ∧ m ≠ 3) by omega) with rfl | rfl | rfl | ⟨m1, m2, m3⟩
  · go_enter Tryd.func78, Tryd.ntmps78
    go_wp2
    go_ret
    exact ⟨rfl, rfl⟩
  · go_enter Tryd.func78, Tryd.ntmps78
    go_wp2
    go_ret
    exact ⟨rfl, rfl⟩
  · go_enter Tryd.func78, Tryd.ntmps78
    go_wp2
    go_ret
    exact ⟨rfl, rfl⟩
  · have hm1 : (m == 1) = false := by simpa using m1
    have hm2 : (m == 2) = false := by simpa using m2
    have hm3 : (m == 3) = false := by simpa using m3
    have HE : Hid (ruB m neg half odd = (decide (0 < half) || (decide (half = 0) && odd))) := (show _ = _ by unfold ruB; rw [if_neg m1, if_neg m2, if_neg m3])
    clear m1 m2 m3
    go_enter Tryd.func78, Tryd.ntmps78
    go_wp2
    all_goals
      go_ret
      refine ⟨end_bool ?_, rfl⟩
      rw [HE.out]
      first | (simp_all; done) | (rw [Bool.eq_iff_iff]; simp; omega)
/-- What is too great. -/
def hugeW (m : Int) (neg : Bool) : Nat := sw neg (if m = 3 ∨ (m = 1 ∧ neg = false) ∨ (m = 2 ∧ neg = true) then 9218868437227405311 else 9218868437227405312)
theorem huge_top (neg : Bool) : joinF neg 9007199254740991 971 = sw neg 9218868437227405311 := by cases neg <;> kernel_rfl
set_option maxHeartbeats 1000000 in
set_option maxRecDepth 100000 in
theorem huge_any (m : Int) (neg : Bool) (w : World) :
    Calls Tryd.prog 79 #[.int .i8 m, .bool neg] w fun e w' => e = .returned (.float .f64 (hugeW m neg)) ∧ Below w.heap.size w w' := by
  have hj := fun w => rjoin_any neg 9007199254740991 971 w
  rw [huge_top] at hj
  have q1 := fun w => run_float_arith (P := Tryd.prog) w .quo 29 .f64 4607182418800017408 0 9218868437227405312 (by kernel_rfl)
  have q2 := fun w => run_float_arith (P := Tryd.prog) w .quo 29 .f64 13830554455654793216 0 18442240474082181120 (by kernel_rfl)
  rcases (show m = 1 ∨ m = 2 ∨ m = 3 ∨ (m ≠ 1 ∧ m ≠ 2 ∧ m ≠ 3) by omega) with rfl | rfl | rfl | ⟨m1, m2, m3⟩
  case inr.inr.inr =>
    have hm1 : (m == 1) = false := by simpa using m1
    have hm2 : (m == 2) = false := by simpa using m2
    have hm3 : (m == 3) = false := by simpa using m3
    have HE : Hid (hugeW m neg = sw neg 9218868437227405312) := (show _ = _ by unfold hugeW; rw [if_neg (by omega)])
    clear m1 m2 m3
    cases neg
    all_goals
      go_enter Tryd.func79, Tryd.ntmps79
      go_wp2_with (go_at_call 94; refine (hj _).mono ?_; rintro e w1 ⟨rfl, b1⟩)
      go_ret
      exact ⟨end_flt (by rw [HE.out]; rfl), b1⟩
  all_goals
    cases neg
    all_goals
      go_enter Tryd.func79, Tryd.ntmps79
      go_wp2_with (go_at_call 94; refine (hj _).mono ?_; rintro e w1 ⟨rfl, b1⟩)
      go_ret
      exact ⟨rfl, b1⟩
end Go.Proofs.YtnclddfljghebaaDoor

namespace Go.Proofs.YtnclddfljghebaaDoor
open Go.RowKit

/-- What is left against the half. -/
def hlf (t : Nat) (more : Bool) : Int := if t % 2 = 1 then (if more then 1 else 0) else -1
theorem odd_rest {v k : Nat} (hv : v % 2 = 1) : (v % 2 ^ k != 0) = decide (0 < k) := by
  by_cases hk : k = 0
  · subst hk; simp [Nat.mod_one]
  · have h2 := pow_pred hk
    have hm : v % 2 ^ k % 2 = v % 2 := by rw [h2]; exact Nat.mod_mul_right_mod _ _ _
    have : v % 2 ^ k ≠ 0 := by intro hz; rw [hz] at hm; omega
    rw [Bool.eq_iff_iff]; simp; omega
theorem up_same {v : Nat} {e : Int} (h0 : v ≠ 0) (m : Int) (neg : Bool) (hd : 0 < rDr v e) :
    ruB m neg (hlf (v / 2 ^ (rDr v e - 1).toNat) (decide (0 < (rDr v e - 1).toNat))) (K0 v e % 2 == 1) = rUp v (rDr v e) (szm neg m) := by
  have hw : win v (rDr v e) = K0 v e := by unfold win; exact Nat.mod_eq_of_lt (by have := (K0_bd (e := e) h0).1; unfold K0 at this; omega)
  have hw2 : win v (rDr v e - 1) % 2 = v / 2 ^ (rDr v e - 1).toNat % 2 := by
    unfold win shr
    rw [if_pos (by omega)]
    omega
  unfold ruB rUp szm hlf
  rw [hw, hw2]
  obtain ⟨t, ht⟩ : ∃ t, v / 2 ^ (rDr v e - 1).toNat % 2 = t := ⟨_, rfl⟩
  rw [ht]
  obtain ⟨k, hk⟩ : ∃ k, K0 v e % 2 = k := ⟨_, rfl⟩
  rw [hk]
  have ht2 : t < 2 := by omega
  clear ht hw hw2 hk
  by_cases hdd : 1 < rDr v e
  · have d1 : decide (0 < (rDr v e - 1).toNat) = true := by simp; omega
    have d2 : decide (1 < rDr v e) = true := by simpa using hdd
    rw [d1, d2]
    rcases (show t = 0 ∨ t = 1 by omega) with rfl | rfl <;> cases neg <;> (repeat' split) <;> simp_all <;> omega
  · have d1 : decide (0 < (rDr v e - 1).toNat) = false := by simp; omega
    have d2 : decide (1 < rDr v e) = false := by simpa using hdd
    rw [d1, d2]
    rcases (show t = 0 ∨ t = 1 by omega) with rfl | rfl <;> cases neg <;> (repeat' split) <;> simp_all <;> omega
/-- What is kept in the end, and what is told of it. -/
theorem kept_same {v : Nat} {e : Int} (h0 : v ≠ 0) (s : Int) : rKp v e s = (if 0 < rDr v e ∧ rUp v (rDr v e) s = true then K0 v e + 1 else K0 v e) ∧ rKp v e s ≤ 9007199254740992 := by
  have hw : win v (rDr v e) = K0 v e := by unfold win; exact Nat.mod_eq_of_lt (by have := (K0_bd (e := e) h0).1; unfold K0 at this; omega)
  have hb := (K0_bd (e := e) h0).1
  unfold rKp
  rw [hw]
  exact ⟨rfl, by split <;> omega⟩
theorem great_same {v : Nat} {e : Int} (h0 : v ≠ 0) (m : Int) (neg : Bool) (hg : 1024 < (bl (rKp v e (szm neg m)) : Int) + rLa v e) : hugeW m neg = sw neg (rSz v e (szm neg m)) := by
  obtain ⟨b1, b2, b3⟩ := K0_bd (e := e) h0
  obtain ⟨c1, c2⟩ := kept_same (e := e) h0 (szm neg m)
  obtain ⟨_, hla⟩ := rLa_cases v e
  have hs : (szm neg m = 3) ↔ (m = 3 ∨ (m = 1 ∧ neg = false) ∨ (m = 2 ∧ neg = true)) := by
    unfold szm
    constructor
    · intro h
      by_cases hc : m = 3 ∨ (m = 1 ∧ neg = false) ∨ (m = 2 ∧ neg = true)
      · exact hc
      · rw [if_neg hc] at h; split at h <;> omega
    · intro h; rw [if_pos h]
  unfold hugeW rSz
  by_cases hbig : 1024 < (bl v : Int) + e
  · rw [if_pos hbig]
    congr 1
    by_cases hc : m = 3 ∨ (m = 1 ∧ neg = false) ∨ (m = 2 ∧ neg = true)
    · rw [if_pos hc, if_pos (hs.2 hc)]
    · rw [if_neg hc, if_neg (fun h => hc (hs.1 h))]
  · rw [if_neg hbig]
    have hK : rKp v e (szm neg m) = 9007199254740992 := by
      by_cases hh : rKp v e (szm neg m) < 9007199254740992
      · have := bl_le_iff.2 (show rKp v e (szm neg m) < 2 ^ 53 from hh)
        omega
      · omega
    have hbl : bl (9007199254740992) = 54 := by decide
    rw [hK] at hg ⊢
    rw [hbl] at hg
    have hup : rUp v (rDr v e) (szm neg m) = true := by
      rw [hK] at c1
      by_cases hu : 0 < rDr v e ∧ rUp v (rDr v e) (szm neg m) = true
      · exact hu.2
      · rw [if_neg hu] at c1; omega
    have hn3 : szm neg m ≠ 3 := by
      intro h
      rw [h] at hup
      unfold rUp at hup
      simp at hup
    rw [if_neg (fun h => hn3 (hs.2 h))]
    have hl : rLa v e = 971 := by omega
    rw [hl]
    congr 1
theorem fits_same {v : Nat} {e : Int} (h0 : v ≠ 0) (s : Int) (hg : (bl (rKp v e s) : Int) + rLa v e ≤ 1024) : rSz v e s = rW (rKp v e s) (rLa v e) ∧ rLa v e ≤ 971 ∧ (rLa v e = -1074 ∨ 4503599627370496 ≤ rKp v e s) ∧ rW (rKp v e s) (rLa v e) < 9218868437227405312 := by
  obtain ⟨b1, b2, b3⟩ := K0_bd (e := e) h0
  obtain ⟨c1, c2⟩ := kept_same (e := e) h0 s
  obtain ⟨hl0, hla⟩ := rLa_cases v e
  have hge : K0 v e ≤ rKp v e s := by rw [c1]; split <;> omega
  have hmono : bl (K0 v e) ≤ bl (rKp v e s) := by
    by_cases hz : rKp v e s = 0
    · rw [show K0 v e = 0 by omega]; rw [bl_zero]; omega
    · exact bl_le_iff.2 (Nat.lt_of_le_of_lt hge (bl_spec hz).2.1)
  have hbig : ¬ 1024 < (bl v : Int) + e := fun h => by
    have := b3 h
    omega
  have hl : rLa v e ≤ 971 := by omega
  refine ⟨by unfold rSz; rw [if_neg hbig], hl, b2.imp id (fun h => Nat.le_trans h hge), ?_⟩
  unfold rW
  by_cases hh : rKp v e s < 9007199254740992
  · omega
  · have hK : rKp v e s = 9007199254740992 := by omega
    have hbl : bl (9007199254740992) = 54 := by decide
    rw [hK, hbl] at hg
    omega
end Go.Proofs.YtnclddfljghebaaDoor

namespace Go.Proofs.YtnclddfljghebaaDoor
open Go.RowKit

set_option maxHeartbeats 400000 in
theorem rfloat_none (neg : Bool) (e : Int) (w : World) :
    Calls Tryd.prog 80 #[.bool neg, .int .u64 0, .int .i64 e] w fun r w' => r = .returned (.float .f64 (sw neg 0)) ∧ Below w.heap.size w w' := by
  have hj := fun w => rjoin_any neg 0 0 w
  rw [join_none] at hj
  go_enter Tryd.func80, Tryd.ntmps80
  go_wp2
  go_loopg [1, 2] 0 (fun g s1 s2 wr => s1 = .int .u64 0 ∧ s2 = .int .i64 0 ∧ wr = w)
  case atStart => exact ⟨rfl, rfl, rfl⟩
  case round =>
    obtain ⟨rfl, rfl, rfl⟩ := hrel
    go_wp2_with (go_at_call 94; refine (hj _).mono ?_; rintro r w1 ⟨rfl, b1⟩)
    go_ret
    exact ⟨rfl, b1⟩
set_option maxHeartbeats 4000000 in
set_option maxRecDepth 100000 in
theorem rounded_odd (neg : Bool) (xs : List Nat) (ex : Int) (ao : Option Addr) (cap : Nat) (m : Int) (w : World) (hr : NS w ao cap xs) (hL : Lm xs) (hn : xs.length ≤ 256) (e1 : -65536 ≤ ex) (e2 : ex ≤ 65536) (hodd : vl xs % 2 = 1) :
    Calls Tryd.prog 51 #[.agg #[.bool neg, .slice ao xs.length cap, .int .i64 ex], .int .i8 m] w fun e w' => e = .returned (.float .f64 (sw neg (rSz (vl xs) ex (szm neg m)))) ∧ Below w.heap.size w w' := by
  have hZ := fun W (h : NS W ao cap xs) => zero_any ⟨neg, xs, ex⟩ ao cap W h hL (by simp only; omega)
  have hTp := fun W (h : NS W ao cap xs) => ntop_any ⟨neg, xs, ex⟩ ao cap W h hL (by simp only; omega) (by simp only; omega)
  have hUp := fun (n : Nat) W (h : NS W ao cap xs) (hb : n ≤ 1099511627776) => natUp_any xs ao cap n W h hL (by omega) hb
  have hDn := fun (n : Nat) W (h : NS W ao cap xs) (hb : n ≤ 1152921504606846976) => natDown_any xs ao cap n W h hL (by omega) hb
  have hbl : bl (vl xs) ≤ 64 * 256 := bl_limbs hL hn
  obtain ⟨V, hV⟩ : ∃ V, vl xs = V := ⟨_, rfl⟩
  rw [hV] at hodd hbl ⊢
  simp only [hV] at hZ hTp hUp hDn
  have V0 : V ≠ 0 := by omega
  have hz : (V == 0) = false := by simpa using V0
  simp only [hz] at hZ
  obtain ⟨L, hLa⟩ : ∃ L, rLa V ex = L := ⟨_, rfl⟩
  have hLb : -1074 ≤ L ∧ L ≤ 90000 := by rw [← hLa]; unfold rLa; omega
  have HL : Hid (L = if ex + (bl V : Int) - 53 < -1074 then -1074 else ex + (bl V : Int) - 53) := (show _ = _ by rw [← hLa]; unfold rLa; split <;> omega)
  obtain ⟨KP, hKP⟩ : ∃ K, rKp V ex (szm neg m) = K := ⟨_, rfl⟩
  obtain ⟨R, hR⟩ : ∃ R, sw neg (rSz V ex (szm neg m)) = R := ⟨_, rfl⟩
  rw [hR]
  have hKle : KP ≤ 9007199254740992 := by rw [← hKP]; exact (kept_same V0 _).2
  have HG : Hid (1024 < (bl KP : Int) + L → hugeW m neg = R) := (show _ → _ by rw [← hKP, ← hLa, ← hR]; exact great_same V0 m neg)
  have HF : Hid ((bl KP : Int) + L ≤ 1024 → R = sw neg (rW KP L) ∧ L ≤ 971 ∧ (L = -1074 ∨ 4503599627370496 ≤ KP) ∧ rW KP L < 9218868437227405312) := (show _ → _ by
    intro h
    rw [← hKP, ← hLa] at h
    obtain ⟨f1, f2, f3, f4⟩ := fits_same V0 _ h
    rw [← hKP, ← hLa, ← hR, f1]
    exact ⟨rfl, f2, f3, f4⟩)
  have HA : Hid (L ≤ ex → KP = V * 2 ^ (ex - L).toNat) := (show _ → _ by
    intro h
    have hd : rDr V ex = L - ex := by unfold rDr; rw [hLa]
    rw [← hKP, (kept_same V0 _).1, if_neg (by omega)]
    unfold K0 shr
    rw [hd]
    by_cases h2 : L = ex
    · rw [if_pos (by omega), h2]; simp
    · rw [if_neg (by omega), show -(L - ex) = ex - L by omega])
  have HB : Hid (ex < L → KP = (if ruB m neg (hlf (V / 2 ^ (L - ex - 1).toNat) (decide (0 < (L - ex - 1).toNat))) (V / 2 ^ (L - ex).toNat % 2 == 1) then V / 2 ^ (L - ex).toNat + 1 else V / 2 ^ (L - ex).toNat) ∧ V / 2 ^ (L - ex).toNat < 9007199254740992) := (show _ → _ by
    intro h
    have hd : rDr V ex = L - ex := by unfold rDr; rw [hLa]
    have hu := up_same (e := ex) V0 m neg (by omega)
    have hk : K0 V ex = V / 2 ^ (L - ex).toNat := by unfold K0 shr; rw [hd, if_pos (by omega)]
    have hb := (K0_bd (e := ex) V0).1
    rw [hk] at hb hu
    rw [hd] at hu
    refine ⟨?_, hb⟩
    rw [← hKP, (kept_same V0 _).1, hk, hd, ← hu]
    by_cases hc : ruB m neg (hlf (V / 2 ^ (L - ex - 1).toNat) (decide (0 < (L - ex - 1).toNat))) (V / 2 ^ (L - ex).toNat % 2 == 1) = true
    · rw [if_pos ⟨by omega, hc⟩, if_pos hc]
    · rw [if_neg (fun h => hc h.2), if_neg hc])
  have HO : Hid (V % 2 = 1) := hodd
  clear hLa hKP hR hodd hz V0
  go_enter Tryd.func51, Tryd.ntmps51
  go_upto_region 3 with (go_at_call 75; refine (hZ _ (hr.below ((Below.refl _ _).alloc (Nat.le_refl _) _))).mono ?_; rintro e w1 ⟨rfl, b1⟩)
  obtain ⟨⟨c0, c1, c2⟩, ho1⟩ := one_box b1
  have Hx : Hd w1 w.heap.size ⟨neg, xs, ex⟩ ao cap := ⟨c0, c1, c2, hr.1.below ho1⟩
  clear b1 c0 c1 c2
  go_cut [16, 17, 18, 19, 5] (fun _ _ _ _ s5 wx => s5 = .int .i64 L ∧ Hd wx w.heap.size ⟨neg, xs, ex⟩ ao cap ∧ Below w.heap.size w wx)
  case first =>
    as_aux_lemma =>
      have hc := hTp _ ⟨Hx.row, hr.2⟩
      obtain ⟨a0, a1, a2, ar⟩ := id Hx
      go_wp2_with (go_at_call 76; refine hc.mono ?_; rintro e w2 ⟨rfl, b2⟩)
      all_goals go_meet
      all_goals exact ⟨by have := HL.out; first | (rw [this]; (repeat' split) <;> first | rfl | omega) | (congr 1; rw [this]; (repeat' split) <;> omega), Hx.below b2, ho1.trans (b2.mono ho1.size)⟩
  clear Hx ho1
  obtain ⟨rfl, Hx, hB⟩ := hcut
  obtain ⟨wq, hwq⟩ : ∃ wq, wq = wc := ⟨_, rfl⟩
  subst hwq
  obtain ⟨a0, a1, a2, ar⟩ := id Hx
  go_upto_if 23 with fail
  clear a0 a1 a2 ar
  go_cut [24, 25, 26, 27, 28, 29, 30, 31, 32, 33, 34, 35, 36, 37, 38, 39, 40, 41, 42, 43, 44, 45, 46, 47, 48, 49, 50, 51, 52, 53, 54, 55, 56, 57, 58, 59, 60, 61, 62, 63, 64, 65, 66, 67, 68, 69, 70, 71, 72, 73, 74, 75, 76, 77, 78, 79, 80, 7, 8, 9, 10, 11, 12, 6] (fun _ _ _ _ _ _ _ _ _ _ _ _ _ _ _ _ _ _ _ _ _ _ _ _ _ _ _ _ _ _ _ _ _ _ _ _ _ _ _ _ _ _ _ _ _ _ _ _ _ _ _ _ _ _ _ _ _ _ _ _ _ _ _ s6 wx => ∃ o c, s6 = .slice o (lo KP).length c ∧ NS wx o c (lo KP) ∧ Hd wx w.heap.size ⟨neg, xs, ex⟩ ao cap ∧ Below w.heap.size w wx)
  case first =>
    obtain ⟨a0, a1, a2, ar⟩ := id Hx
    by_cases hle : L ≤ ex
    · as_aux_lemma =>
        have hK := HA.out hle
        have hc := hUp (ex - L).toNat _ ⟨Hx.row, hr.2⟩ (by omega)
        rw [← hK, show (((ex - L).toNat : Nat) : Int) = ex - L by omega] at hc
        clear hK
        go_wp2_with (go_at_call 48; refine hc.mono ?_; rintro e w2 ⟨o, c, rfl, h1, f1, b1⟩)
        go_meet
        exact ⟨o, c, rfl, h1, Hx.below b1, hB.trans (b1.mono hB.size)⟩
    · obtain ⟨hKB, hkb⟩ := HB.out (by omega)
      obtain ⟨D, hD⟩ : ∃ D : Nat, (L - ex).toNat = D := ⟨_, rfl⟩
      have hD1 : 1 ≤ D := by omega
      have hD0 : (L - ex - 1).toNat = D - 1 := by omega
      rw [hD, hD0] at hKB
      rw [hD] at hkb
      have hDi : ((D : Nat) : Int) = L - ex := by omega
      have hDb : D ≤ 200000 := by omega
      have hlt : ex < L := by omega
      have r1 := odd_rest (k := D) HO.out
      have r2 := odd_rest (k := D - 1) HO.out
      rw [decide_eq_true (by omega)] at r1
      obtain ⟨k, hk⟩ : ∃ k, V / 2 ^ D = k := ⟨_, rfl⟩
      obtain ⟨t, ht⟩ : ∃ t, V / 2 ^ (D - 1) = t := ⟨_, rfl⟩
      obtain ⟨mo, hmo⟩ : ∃ mo, decide (0 < D - 1) = mo := ⟨_, rfl⟩
      have htb : t < 18446744073709551616 := by
        have h2 := Nat.div_div_eq_div_mul V (2 ^ (D - 1)) 2
        have h3 := pow_pred (show D ≠ 0 by omega)
        rw [show 2 ^ (D - 1) * 2 = 2 ^ D by omega, ht, hk] at h2
        omega
      have hd1 := hDn D wq ⟨Hx.row, hr.2⟩ (by omega)
      have hd2 := fun W h => hDn (D - 1) W h (by omega)
      rw [r1, hk] at hd1
      rw [hmo] at hKB r2
      rw [hk, ht] at hKB
      rw [hk] at hkb
      simp only [r2, ht] at hd2
      rw [hDi] at hd1
      rw [show ((D - 1 : Nat) : Int) = L - ex - 1 by omega] at hd2
      clear r1 r2 hk ht hmo hD hD0 hD1 hle
      have lb : L - ex ≤ 200000 := by omega
      clear hDi hDb
      go_upto_region 11 with (go_at_call 77; refine hd1.mono ?_; rintro e w2 ⟨o, c, rfl, h1, f1, b1⟩)
      have Hx2 := Hx.below b1
      have hB2 := hB.trans (b1.mono hB.size)
      clear b1 Hx hB a0 a1 a2 ar
      obtain ⟨wq, hwq⟩ : ∃ wq, wq = w2 := ⟨_, rfl⟩
      subst hwq
      go_cut [45, 46, 47, 48, 49, 44, 50, 51, 10, 11] (fun _ _ _ _ _ _ _ _ s10 s11 wx => ∃ o2 c2, s10 = .slice o2 (lo t).length c2 ∧ s11 = .bool mo ∧ NS wx o2 c2 (lo t) ∧ NS wx o c (lo k) ∧ Hd wx w.heap.size ⟨neg, xs, ex⟩ ao cap ∧ Below w.heap.size w wx)
      case first =>
        as_aux_lemma =>
          have hc := hd2 wq ⟨Hx2.row, hr.2⟩
          obtain ⟨a0, a1, a2, ar⟩ := id Hx2
          go_wp2_with (go_at_call 77; refine hc.mono ?_; rintro e w3 ⟨o2, c2, rfl, h2, f2, b2⟩)
          go_meet
          exact ⟨o2, c2, rfl, rfl, h2, h1.below b2, Hx2.below b2, hB2.trans (b2.mono hB2.size)⟩
      clear Hx2 hB2 h1
      obtain ⟨o2, c2, rfl, rfl, h2, h1, Hx, hB⟩ := hcut
      obtain ⟨wq, hwq⟩ : ∃ wq, wq = wc := ⟨_, rfl⟩
      subst hwq
      go_upto_region 13 with fail
      go_cut [52, 53, 54, 55, 56, 57, 58, 59, 60, 10, 61] (fun _ _ _ _ _ _ _ _ _ _ s wx => s = .bool (t % 2 == 1) ∧ wx = wq)
      case first =>
        as_aux_lemma =>
          rcases one_limb h2 htb with ⟨rfl, hl⟩ | ⟨t0, hl, b', off, rfl, hcl⟩
          · rw [hl]
            go_wp2
            go_meet
            exact ⟨rfl, rfl⟩
          · rw [hl]
            obtain ⟨T, hT⟩ : ∃ T : Int, ((t : Nat) : Int) = T := ⟨_, rfl⟩
            rw [hT] at hcl
            have hq : (T % 2 == 1) = (t % 2 == 1) := by rw [Bool.eq_iff_iff]; simp; omega
            have hT0 : 0 ≤ T ∧ T < 18446744073709551616 := by omega
            clear hT
            go_wp2
            go_meet
            exact ⟨rfl, rfl⟩
      obtain ⟨rfl, rfl⟩ := hcut
      obtain ⟨wq, hwq⟩ : ∃ wq, wq = wc := ⟨_, rfl⟩
      subst hwq
      go_upto_if 61 with fail
      go_cut [62, 12] (fun _ s wx => s = .int .i64 (hlf t mo) ∧ wx = wq)
      case first =>
        as_aux_lemma =>
          by_cases h0 : t % 2 = 1
          · have hq : (t % 2 == 1) = true := by simpa using h0
            cases mo
            · have HE : Hid (hlf t false = 0) := (show _ = _ by unfold hlf; rw [if_pos h0]; rfl)
              clear h0
              go_wp2
              go_meet
              exact ⟨by rw [HE.out], rfl⟩
            · have HE : Hid (hlf t true = 1) := (show _ = _ by unfold hlf; rw [if_pos h0]; rfl)
              clear h0
              go_wp2
              go_meet
              exact ⟨by rw [HE.out], rfl⟩
          · have hq : (t % 2 == 1) = false := by simpa using h0
            have HE : Hid (hlf t mo = -1) := (show _ = _ by unfold hlf; rw [if_neg h0])
            clear h0
            go_wp2
            go_meet
            exact ⟨by rw [HE.out], rfl⟩
      obtain ⟨rfl, rfl⟩ := hcut
      obtain ⟨wq, hwq⟩ : ∃ wq, wq = wc := ⟨_, rfl⟩
      subst hwq
      obtain ⟨HF2, hHF⟩ : ∃ H, hlf t mo = H := ⟨_, rfl⟩
      obtain ⟨u, hu⟩ : ∃ u, ruB m neg HF2 (k % 2 == 1) = u := ⟨_, rfl⟩
      rw [hHF, hu] at hKB
      have hup := fun W => up_any m neg HF2 (k % 2 == 1) W
      rw [hu] at hup
      rw [hHF]
      clear hHF hu
      go_upto_region 17 with fail
      go_cut [8, 6, 63, 64, 65, 66, 67, 68, 69, 70, 71, 72, 73, 74, 75, 76, 77] (fun _ s6 _ _ _ _ _ _ _ _ _ _ _ _ _ _ s wx => s6 = .slice o (lo k).length c ∧ s = .bool u ∧ Below wq.heap.size wq wx)
      case first =>
        as_aux_lemma =>
          obtain ⟨a0, a1, a2, ar⟩ := id Hx
          rcases one_limb h1 (by omega) with ⟨k0, hl⟩ | ⟨k0, hl, b', off, ho, hcl⟩
          · have hq : (k % 2 == 1) = false := by rw [k0]; rfl
            have HE : Hid ((lo k).length = 0) := hl
            rw [hl]
            rw [hq] at hup
            clear hq hl k0
            have gd : decide ((0 : Int) < ((0 : Nat) : Int)) = false := by decide
            go_quiet ((go_at_call 78; exact Calls.quiet_of_same (hup _)))
            go_wp2
            go_meet
            exact ⟨by rw [HE.out], rfl, quietB _⟩
          · obtain ⟨T, hT⟩ : ∃ T : Int, ((k : Nat) : Int) = T := ⟨_, rfl⟩
            rw [hT] at hcl
            have hq : (T % 2 == 1) = (k % 2 == 1) := by rw [Bool.eq_iff_iff]; simp; omega
            have hT0 : 0 ≤ T ∧ T < 18446744073709551616 := by omega
            have HE : Hid ((lo k).length = 1) := hl
            subst ho
            rw [hl]
            rw [← hq] at hup
            clear hT hq hl
            have gd : (0 : Int) < ((1 : Nat) : Int) := by decide
            go_quiet ((go_at_call 78; exact Calls.quiet_of_same (hup _)))
            go_wp2
            go_meet
            exact ⟨by rw [HE.out], rfl, quietB _⟩
      obtain ⟨rfl, rfl, b3⟩ := hcut
      have Hx3 := Hx.below b3
      have h3 := h1.below b3
      have hB3 := hB.trans (b3.mono hB.size)
      obtain ⟨wq, hwq⟩ : ∃ wq, wq = wc := ⟨_, rfl⟩
      subst hwq
      as_aux_lemma =>
        cases u
        · have hK : KP = k := by rw [hKB]; rfl
          subst hK
          go_wp2
          go_meet
          exact ⟨o, c, rfl, h3, Hx3, hB3⟩
        · have hK : KP = k + 1 := by rw [hKB]; rfl
          subst hK
          have hof := fun W => natOf_any 1 (by omega) W
          have had := fun W p q (u1 : NS W o c (lo k)) (u2 : NS W p q (lo 1)) => natAdd_any (lo k) (lo 1) o p c q W u1 u2 (lo_lm _) (lo_lm _) (by rcases one_limb h1 (by omega) with ⟨_, hl⟩ | ⟨_, hl, _⟩ <;> rw [hl] <;> omega) (by rw [lo_oneY (by omega) (by omega)]; simp)
          simp only [vl_lo] at had
          go_wp2_with (first | (go_at_call 53; refine (hof _).mono ?_; rintro e w4 ⟨p, q, rfl, u1, v1, b4⟩) | (go_at_call 50; refine (had _ _ _ (h3.below b4) u1).mono ?_; rintro e w5 ⟨p2, q2, rfl, u2, v2, b5⟩))
          rename_i xw xe xx xv xq
          cases xq
          go_meet
          have B4 := b4.trans (b5.mono b4.size)
          exact ⟨p2, q2, rfl, u2, Hx3.below B4, hB3.trans (B4.mono hB3.size)⟩
  clear Hx hB HA HB hUp hDn
  obtain ⟨o, c, rfl, h1, Hx, hB⟩ := hcut
  obtain ⟨wq, hwq⟩ : ∃ wq, wq = wc := ⟨_, rfl⟩
  subst hwq
  have hKb : bl KP ≤ 54 := bl_le_iff.2 (by omega)
  have hKl : (lo KP).length ≤ 1 := by rcases one_limb h1 (by omega) with ⟨_, hl⟩ | ⟨_, hl, _⟩ <;> omega
  have hNB := natBits_any (lo KP) o c wq h1 (lo_lm _) (by omega)
  rw [vl_lo] at hNB
  go_upto_region 19 with fail
  go_cut [81, 82, 83, 84, 85] (fun _ _ _ _ s wx => s = .bool (decide (1024 < (bl KP : Int) + L)) ∧ Below wq.heap.size wq wx)
  case first =>
    as_aux_lemma =>
      obtain ⟨B, hBl⟩ : ∃ B : Int, ((bl KP : Nat) : Int) = B := ⟨_, rfl⟩
      rw [hBl] at hNB
      have hb0 : 0 ≤ B ∧ B ≤ 54 := by omega
      have HBl : Hid (((bl KP : Nat) : Int) = B) := hBl
      clear hBl
      go_wp2_with (go_at_call 47; refine hNB.mono ?_; rintro e w2 ⟨rfl, b2⟩)
      all_goals go_meet
      all_goals exact ⟨by rw [HBl.out], b2⟩
  obtain ⟨rfl, b2⟩ := hcut
  have Hx2 := Hx.below b2
  have h2 := h1.below b2
  have hB2 := hB.trans (b2.mono hB.size)
  clear Hx h1 hB b2 hNB
  obtain ⟨wq, hwq⟩ : ∃ wq, wq = wc := ⟨_, rfl⟩
  subst hwq
  obtain ⟨a0, a1, a2, ar⟩ := id Hx2
  by_cases hg : 1024 < (bl KP : Int) + L
  · as_aux_lemma =>
      have hR := HG.out hg
      have hh := fun W => huge_any m neg W
      rw [hR] at hh
      have hd : decide (1024 < (bl KP : Int) + L) = true := decide_eq_true hg
      rw [hd]
      clear hR hd hg
      go_wp2_with (go_at_call 79; refine (hh _).mono ?_; rintro e w3 ⟨rfl, b3⟩)
      go_ret
      exact ⟨rfl, hB2.trans (b3.mono hB2.size)⟩
  · obtain ⟨hR, f2, f3, f4⟩ := HF.out (by omega)
    have hd : decide (1024 < (bl KP : Int) + L) = false := decide_eq_false hg
    rw [hd]
    clear hd hg
    rcases one_limb h2 (by omega) with ⟨k0, hl⟩ | ⟨k0, hl, b', off, ho, hcl⟩
    · as_aux_lemma =>
        have hq := fun W => rfloat_none neg L W
        have hRR : R = sw neg 0 := by rw [hR, k0]; unfold rW; rw [show (L + 1074).toNat = 0 by omega]
        rw [← hRR] at hq
        rw [hl]
        clear hR hRR k0 hl f2 f3 f4
        go_wp2_with (go_at_call 80; refine (hq _).mono ?_; rintro e w3 ⟨rfl, b3⟩)
        go_ret
        exact ⟨rfl, hB2.trans (b3.mono hB2.size)⟩
    · as_aux_lemma =>
        have hq := fun W => rfloat_any neg KP L W (by omega) (by omega) (by omega) k0
        have hfin : ∀ c' k' : Nat, KP = c' * 2 ^ k' → c' % 2 = 1 → joinF neg c' (L + k') = R := fun c' k' q1 q2 => by
          rw [hR, q1]
          rw [q1] at hKle f3 f4
          exact join_kept neg q2 hKle hLb.1 f2 f3 f4
        obtain ⟨T, hT⟩ : ∃ T : Int, ((KP : Nat) : Int) = T := ⟨_, rfl⟩
        rw [hT] at hcl
        simp only [hT] at hq
        subst ho
        rw [hl]
        have hT0 : 0 ≤ T ∧ T < 18446744073709551616 := by omega
        have HH : Hid (∀ c' k' : Nat, KP = c' * 2 ^ k' → c' % 2 = 1 → joinF neg c' (L + k') = R) := hfin
        clear hT hR hfin k0 hl f2 f3 f4
        go_wp2_with (go_at_call 80; refine (hq _).mono ?_; rintro e w3 ⟨c', k', q1, q2, rfl, b3⟩)
        go_ret
        exact ⟨end_flt (HH.out c' k' q1 q2), hB2.trans (b3.mono hB2.size)⟩
end Go.Proofs.YtnclddfljghebaaDoor
