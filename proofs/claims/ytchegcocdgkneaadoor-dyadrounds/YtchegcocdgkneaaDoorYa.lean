/- The reference's up, huge and float. -/
import Derived.Test.YtchegcocdgkneaaDoorMr
import Derived.Test.YtchegcocdgkneaaDoorZo
import Derived.Test.YtchegcocdgkneaaDoorZr
import Derived.Deep.RegionWith
namespace Go.Proofs.YtchegcocdgkneaaDoor
open Go.RowKit

/-- A word of a sign and a size. -/
def sw (neg : Bool) (r : Nat) : Nat := if neg then 9223372036854775808 + r else r
theorem pow_pred {k : Nat} (h : k ≠ 0) : (2 : Nat) ^ k = 2 * 2 ^ (k - 1) := by
  cases k with
  | zero => exact absurd rfl h
  | succ j => rw [Nat.pow_succ, Nat.mul_comm]; rfl
/-- Odd parts of a size that is kept: the float that they tell. -/
theorem join_kept {c k : Nat} {last : Int} (neg : Bool) (hc : c % 2 = 1) (hk : c * 2 ^ k ≤ 9007199254740992) (h1 : -1074 ≤ last) (h2 : last ≤ 971) (hor : last = -1074 ∨ 4503599627370496 ≤ c * 2 ^ k) (hf : rW (c * 2 ^ k) last < 9218868437227405312) :
    joinF neg c (last + k) = sw neg (rW (c * 2 ^ k) last) := by
  have c0 : c ≠ 0 := by omega
  have hp := Nat.two_pow_pos k
  have hkk : k ≤ 53 := by
    have h := Nat.le_trans (Nat.le_mul_of_pos_left (2 ^ k) (Nat.pos_of_ne_zero c0)) hk
    by_cases hh : k ≤ 53
    · exact hh
    · have := Nat.pow_le_pow_right (show 0 < 2 by omega) (show 54 ≤ k by omega)
      omega
  have hjR : jR c (last + k) = rW (c * 2 ^ k) last := by
    by_cases ht : c * 2 ^ k = 9007199254740992
    · have hk53 : k = 53 := by
        by_cases hh : k = 53
        · exact hh
        · have hd : 9007199254740992 = 2 ^ (53 - k) * 2 ^ k := by rw [← Nat.pow_add, show 53 - k + k = 53 by omega]
          rw [hd] at ht
          have e := Nat.eq_of_mul_eq_mul_right hp ht
          have := pow_pred (show 53 - k ≠ 0 by omega)
          omega
      subst hk53
      have c1 : c = 1 := by
        have : (2 : Nat) ^ 53 = 9007199254740992 := rfl
        rw [this] at ht; omega
      subst c1
      have h := jR_eq (f := 1) (k := 52) (e := last + ((53 : Nat) : Int)) (by omega) (by decide) (by omega) (Or.inr (by decide))
      rw [h]
      unfold rW
      rw [show (1 : Nat) * 2 ^ 52 = 4503599627370496 from rfl, show (1 : Nat) * 2 ^ 53 = 9007199254740992 from rfl]
      omega
    · have h := jR_eq (f := c) (k := k) (e := last + k) c0 (by omega) (by omega) (hor.imp (fun h => by omega) id)
      rw [h, show last + (k : Int) - k = last by omega]
  have hc53 : c < 9007199254740992 := by
    by_cases hh : k = 0
    · subst hh; rw [Nat.pow_zero, Nat.mul_one] at hk; omega
    · have := pow_pred hh
      have hq := Nat.two_pow_pos (k - 1)
      rw [this] at hk
      have : c * 2 ≤ c * (2 * 2 ^ (k - 1)) := Nat.mul_le_mul_left c (by omega)
      omega
  have he : last + (k : Int) ≤ 1023 := by
    unfold rW at hf
    by_cases hh : last + (k : Int) ≤ 1023
    · exact hh
    · exfalso
      have h1' : 2 ^ k ≤ c * 2 ^ k := Nat.le_mul_of_pos_left _ (Nat.pos_of_ne_zero c0)
      have hk52 : k = 53 ∨ k ≤ 52 := by omega
      rcases hk52 with h | h
      · subst h
        rw [show (2 : Nat) ^ 53 = 9007199254740992 from rfl] at *
        omega
      · omega
  have hok : okP c (last + k) = true := by
    unfold okP
    rw [if_neg c0]
    simp only [decide_eq_true_eq]
    exact ⟨hc, hc53, by omega, he, by rw [hjR]; exact hf⟩
  unfold joinF valR
  rw [hok, if_pos rfl, if_neg c0, if_pos rfl, hjR]
  rfl
theorem join_none (neg : Bool) : joinF neg 0 0 = sw neg 0 := by
  unfold joinF valR okP sw; simp
set_option maxHeartbeats 1000000 in
set_option maxRecDepth 100000 in
theorem rfloat_any (neg : Bool) (n : Nat) (e : Int) (w : World) (hn : n < 18446744073709551616) (h1 : -1000000 ≤ e) (h2 : e ≤ 1000000) (h0 : n ≠ 0) :
    Calls Tryd.prog 89 #[.bool neg, .int .u64 (n : Int), .int .i64 e] w fun r w' => ∃ c k : Nat, n = c * 2 ^ k ∧ c % 2 = 1 ∧ r = .returned (.float .f64 (joinF neg c (e + k))) ∧ Below w.heap.size w w' := by
  obtain ⟨N, hN⟩ : ∃ N : Int, (n : Int) = N := ⟨_, rfl⟩
  rw [hN]
  have b0 : (N == 0) = false := by simp; omega
  have nb : 0 < N ∧ N < 18446744073709551616 := by omega
  go_enter Tryd.func89, Tryd.ntmps89
  go_wp2
  go_loopg [1, 2] n (fun g s1 s2 wr => ∃ (k : Nat) (m x : Int), s1 = .int .u64 m ∧ s2 = .int .i64 x ∧ m = (g : Int) ∧ Aside (n = g * 2 ^ k ∧ x = e + k ∧ g ≠ 0 ∧ g < 18446744073709551616) ∧ wr = w)
  case atStart => exact ⟨0, _, _, rfl, rfl, hN.symm, ⟨by simp, by simp, h0, hn⟩, rfl⟩
  case round =>
    obtain ⟨k, m, x, rfl, rfl, hm, hA, rfl⟩ := hrel
    obtain ⟨a1, a2, a3, a4⟩ := hA.out
    have hk : k < 64 := by
      by_cases hh : k < 64
      · exact hh
      · have h64 := Nat.pow_le_pow_right (show 0 < 2 by omega) (show 64 ≤ k by omega)
        have := Nat.le_mul_of_pos_left (2 ^ k) (Nat.pos_of_ne_zero a3)
        omega
    have m0 : 0 < m ∧ m < 18446744073709551616 := by omega
    have x0 : -1000000 ≤ x ∧ x ≤ 1000100 := by omega
    have HA : Hid (n = gk * 2 ^ k ∧ x = e + k ∧ gk ≠ 0 ∧ m = (gk : Int)) := ⟨a1, a2, a3, hm⟩
    clear hA a1 a2 a3 a4 hm hk nb b0 hN hn h0 h1 h2
    by_cases hev : m % 2 = 0
    · have e0 : (m % 2 == 0) = true := by simpa using hev
      have HV : Hid (m % 2 = 0) := hev
      clear hev
      go_wp2
      obtain ⟨a1, a2, a3, hm⟩ := HA.out
      have hev := HV.out
      have hd : gk = gk / 2 * 2 := by omega
      go_roundg (gk / 2)
      case measure => omega
      case rel => exact ⟨k + 1, _, _, rfl, rfl, by omega, ⟨by rw [Nat.pow_succ, Nat.mul_comm (2 ^ k), ← Nat.mul_assoc, ← hd]; exact a1, by omega, by omega, by omega⟩, rfl⟩
    · have e0 : (m % 2 == 0) = false := by simpa using hev
      have HV : Hid (¬ m % 2 = 0) := hev
      clear hev
      obtain ⟨a1, a2, a3, hm⟩ := HA.out
      have hj := fun w => rjoin_any neg gk x w
      rw [← hm] at hj
      clear a1 a2 a3 hm
      go_wp2_with (go_at_call 110; refine (hj _).mono ?_; rintro r w1 ⟨rfl, b1⟩)
      go_ret
      obtain ⟨a1, a2, a3, hm⟩ := HA.out
      have hev := HV.out
      exact ⟨gk, k, a1, by omega, end_flt (by rw [a2]), b1⟩
/-- Is a size that was cut off made greater by one? -/
def upB (m : Int) (neg : Bool) (half : Int) (odd : Bool) : Bool := if m = 1 then neg else if m = 2 then !neg else if m = 3 then false else decide (0 < half) || (decide (half = 0) && odd)
set_option maxHeartbeats 400000 in
theorem up_any (m : Int) (neg : Bool) (half : Int) (odd : Bool) (w : World) :
    Calls Tryd.prog 84 #[.int .i8 m, .bool neg, .int .i64 half, .bool odd] w fun e w' => e = .returned (.bool (upB m neg half odd)) ∧ w' = w := by
  rcases (show m = 1 ∨ m = 2 ∨ m = 3 ∨ (m ≠ 1 ∧ m ≠ 2 ∧ m ≠ 3) by omega) with rfl | rfl | rfl | ⟨m1, m2, m3⟩
  · go_enter Tryd.func84, Tryd.ntmps84
    go_wp2
    go_ret
    exact ⟨rfl, rfl⟩
  · go_enter Tryd.func84, Tryd.ntmps84
    go_wp2
    go_ret
    exact ⟨rfl, rfl⟩
  · go_enter Tryd.func84, Tryd.ntmps84
    go_wp2
    go_ret
    exact ⟨rfl, rfl⟩
  · have hm1 : (m == 1) = false := by simpa using m1
    have hm2 : (m == 2) = false := by simpa using m2
    have hm3 : (m == 3) = false := by simpa using m3
    have HE : Hid (upB m neg half odd = (decide (0 < half) || (decide (half = 0) && odd))) := (show _ = _ by unfold upB; rw [if_neg m1, if_neg m2, if_neg m3])
    clear m1 m2 m3
    go_enter Tryd.func84, Tryd.ntmps84
    go_wp2
    all_goals
      go_ret
      refine ⟨end_bool ?_, rfl⟩
      rw [HE.out]
      first | (simp_all; done) | (rw [Bool.eq_iff_iff]; simp; omega)
/-- What is too great. -/
def hugeW (m : Int) (neg : Bool) : Nat := sw neg (if m = 3 ∨ (m = 1 ∧ neg = false) ∨ (m = 2 ∧ neg = true) then 9218868437227405311 else 9218868437227405312)
theorem huge_top (neg : Bool) : joinF neg 9007199254740991 971 = sw neg 9218868437227405311 := by cases neg <;> kernel_rfl
set_option maxHeartbeats 1000000 in
set_option maxRecDepth 100000 in
theorem huge_any (m : Int) (neg : Bool) (w : World) :
    Calls Tryd.prog 88 #[.int .i8 m, .bool neg] w fun e w' => e = .returned (.float .f64 (hugeW m neg)) ∧ Below w.heap.size w w' := by
  have hj := fun w => rjoin_any neg 9007199254740991 971 w
  rw [huge_top] at hj
  have q1 := fun w => run_float_arith (P := Tryd.prog) w .quo 33 .f64 4607182418800017408 0 9218868437227405312 (by kernel_rfl)
  have q2 := fun w => run_float_arith (P := Tryd.prog) w .quo 33 .f64 13830554455654793216 0 18442240474082181120 (by kernel_rfl)
  rcases (show m = 1 ∨ m = 2 ∨ m = 3 ∨ (m ≠ 1 ∧ m ≠ 2 ∧ m ≠ 3) by omega) with rfl | rfl | rfl | ⟨m1, m2, m3⟩
  case inr.inr.inr =>
    have hm1 : (m == 1) = false := by simpa using m1
    have hm2 : (m == 2) = false := by simpa using m2
    have hm3 : (m == 3) = false := by simpa using m3
    have HE : Hid (hugeW m neg = sw neg 9218868437227405312) := (show _ = _ by unfold hugeW; rw [if_neg (by omega)])
    clear m1 m2 m3
    cases neg
    all_goals
      go_enter Tryd.func88, Tryd.ntmps88
      go_wp2_with (go_at_call 110; refine (hj _).mono ?_; rintro e w1 ⟨rfl, b1⟩)
      go_ret
      exact ⟨end_flt (by rw [HE.out]; rfl), b1⟩
  all_goals
    cases neg
    all_goals
      go_enter Tryd.func88, Tryd.ntmps88
      go_wp2_with (go_at_call 110; refine (hj _).mono ?_; rintro e w1 ⟨rfl, b1⟩)
      go_ret
      exact ⟨rfl, b1⟩
end Go.Proofs.YtchegcocdgkneaaDoor
