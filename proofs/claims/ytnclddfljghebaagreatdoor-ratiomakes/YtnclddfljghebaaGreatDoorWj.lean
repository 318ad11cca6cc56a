/- What power, sizeOf, Join and SameFloat answer, call by call. -/
import Derived.Test.YtnclddfljghebaaGreatDoorK1
import Derived.Test.YtnclddfljghebaaGreatDoorZg
namespace Go.Proofs.YtnclddfljghebaaGreatDoor
open Go.RowKit

set_option maxHeartbeats 400000 in
theorem power_any (n : Int) (h1 : -1074 ≤ n) (h2 : n ≤ 1023) (w : World) :
    Calls Tryz.prog 135 #[.int .i64 n] w fun e w' => e = .returned (.float .f64 (pw n)) ∧ w' = w := by
  have ff := run_ffrom
  by_cases hc : n < -1022
  · go_enter Tryz.func135, Tryz.ntmps135
    go_wp2
    go_ret
    exact ⟨end_flt (pw_low h1 hc), rfl⟩
  · go_enter Tryz.func135, Tryz.ntmps135
    go_wp2
    go_ret
    exact ⟨end_flt (pw_high (by omega)), rfl⟩

set_option maxHeartbeats 400000 in
theorem sizeOf_ok (f : Nat) (e : Int) (h0 : ((f : Int) == 0) = false) (h : f < 9007199254740992) (h1 : -1074 ≤ e) (h2 : e ≤ 1023) (hodd : (bits .and .u64 (f : Int) 1 == 0) = false) (hj : jR f e < 9218868437227405312) (w : World) :
    Calls Tryz.prog 134 #[.int .u64 f, .int .i64 e] w fun r w' => r = .returned (.tuple #[.float .f64 (jR f e), .bool true]) ∧ w' = w := by
  have hf0 : f ≠ 0 := by simpa using h0
  have hm := fun w => run_float_arith (P := Tryz.prog) w .mul 25 .f64 _ _ _ (mul_eq hf0 h h1 h2)
  have ho := ofInt_eq hf0 h
  have hfin := fin_of hj
  have hmin : min (jR f e) 9218868437227405312 = jR f e := by omega
  have hsh : ((f : Int) / 9007199254740992 != 0) = false := by simp; omega
  rw [hmin] at hm
  clear hmin hf0
  go_enter Tryz.func134, Tryz.ntmps134
  go_wp2_with (first | (go_at_call 135; refine (power_any _ (by omega) (by omega) _).mono ?_; rintro e w' ⟨rfl, rfl⟩) | (go_at_call 112; refine (finite_any _ (by omega) _).mono ?_; rintro e w' ⟨rfl, rfl⟩))
  go_ret2
  exact ⟨rfl, rfl⟩

set_option maxHeartbeats 400000 in
theorem sizeOf_big (f : Nat) (e : Int) (h0 : ((f : Int) == 0) = false) (h : f < 9007199254740992) (h1 : -1074 ≤ e) (h2 : e ≤ 1023) (hodd : (bits .and .u64 (f : Int) 1 == 0) = false) (hj : 9218868437227405312 ≤ jR f e) (w : World) :
    Calls Tryz.prog 134 #[.int .u64 f, .int .i64 e] w fun r w' => r = .returned (.tuple #[.float .f64 0, .bool false]) ∧ w' = w := by
  have hf0 : f ≠ 0 := by simpa using h0
  have hm := fun w => run_float_arith (P := Tryz.prog) w .mul 25 .f64 _ _ _ (mul_eq hf0 h h1 h2)
  have ho := ofInt_eq hf0 h
  have hfin : finB 9218868437227405312 = false := by decide
  have hmin : min (jR f e) 9218868437227405312 = 9218868437227405312 := by omega
  have hsh : ((f : Int) / 9007199254740992 != 0) = false := by simp; omega
  rw [hmin] at hm
  clear hmin hf0
  go_enter Tryz.func134, Tryz.ntmps134
  go_wp2_with (first | (go_at_call 135; refine (power_any _ (by omega) (by omega) _).mono ?_; rintro e w' ⟨rfl, rfl⟩) | (go_at_call 112; refine (finite_any _ (by omega) _).mono ?_; rintro e w' ⟨rfl, rfl⟩))
  go_ret2
  exact ⟨rfl, rfl⟩

theorem sizeOf_any (f : Nat) (e : Int) (hf : f < 18446744073709551616) (w : World) :
    Calls Tryz.prog 134 #[.int .u64 f, .int .i64 e] w fun r w' => r = .returned (.tuple #[.float .f64 (valR f e), .bool (okP f e)]) ∧ w' = w := by
  have ho := odd_and hf
  by_cases h0 : f = 0
  · have b0 : ((f : Int) == 0) = true := by simp; omega
    have HE : Hid (valR f e = 0) := (show valR f e = 0 by unfold valR; rw [if_pos h0])
    have HB : Hid (okP f e = (e == 0)) := (show okP f e = (e == 0) by unfold okP; rw [if_pos h0]; rfl)
    clear h0 ho
    go_enter Tryz.func134, Tryz.ntmps134
    go_wp2
    go_ret2
    exact ⟨end_fb HE.out.symm HB.out.symm, rfl⟩
  · have b0 : ((f : Int) == 0) = false := by simp; omega
    by_cases h1 : f % 2 = 1
    · have bo : (bits .and .u64 (f : Int) 1 == 0) = false := by rw [ho]; simp; omega
      by_cases h2 : f < 9007199254740992
      · have bs : ((f : Int) / 9007199254740992 != 0) = false := by simp; omega
        by_cases h3 : -1074 ≤ e ∧ e ≤ 1023
        · by_cases h4 : jR f e < 9218868437227405312
          · have HB : okP f e = true := by unfold okP; rw [if_neg h0]; simp; omega
            have HE : valR f e = jR f e := by unfold valR; rw [if_neg h0, HB]; rfl
            rw [HB, HE]
            exact sizeOf_ok f e b0 h2 h3.1 h3.2 bo h4 w
          · have HB : okP f e = false := by unfold okP; rw [if_neg h0]; simp; omega
            have HE : valR f e = 0 := by unfold valR; rw [if_neg h0, HB]; rfl
            rw [HB, HE]
            exact sizeOf_big f e b0 h2 h3.1 h3.2 bo (by omega) w
        · have HB : Hid (okP f e = false) := (show okP f e = false by unfold okP; rw [if_neg h0]; simp; omega)
          have HE : Hid (valR f e = 0) := (show valR f e = 0 by unfold valR; rw [if_neg h0, HB.out]; rfl)
          by_cases h5 : e < -1074
          all_goals
            go_enter Tryz.func134, Tryz.ntmps134
            go_wp2
            go_ret2
            exact ⟨end_fb HE.out.symm HB.out.symm, rfl⟩
      · have bs : ((f : Int) / 9007199254740992 != 0) = true := by simp; omega
        have HB : Hid (okP f e = false) := (show okP f e = false by unfold okP; rw [if_neg h0]; simp; omega)
        have HE : Hid (valR f e = 0) := (show valR f e = 0 by unfold valR; rw [if_neg h0, HB.out]; rfl)
        clear ho h0 h1 h2
        go_enter Tryz.func134, Tryz.ntmps134
        go_wp2
        go_ret2
        exact ⟨end_fb HE.out.symm HB.out.symm, rfl⟩
    · have bo : (bits .and .u64 (f : Int) 1 == 0) = true := by rw [ho]; simp; omega
      have HB : Hid (okP f e = false) := (show okP f e = false by unfold okP; rw [if_neg h0]; simp; omega)
      have HE : Hid (valR f e = 0) := (show valR f e = 0 by unfold valR; rw [if_neg h0, HB.out]; rfl)
      clear ho h0 h1
      go_enter Tryz.func134, Tryz.ntmps134
      go_wp2
      go_ret2
      exact ⟨end_fb HE.out.symm HB.out.symm, rfl⟩

theorem neg_word {r : Nat} (h : r < 9223372036854775808) : Op.negFloat .f64 r = 9223372036854775808 + r := by
  unfold Op.negFloat
  rw [fmt64]
  have e : (2 : Nat) ^ (Ieee.double.exponentBits + Ieee.double.fractionBits) = 2 ^ 63 := rfl
  rw [e]
  have h1 := Nat.two_pow_add_eq_or_of_lt (i := 63) (b := r) (by omega) 1
  rw [Nat.mul_one] at h1
  have h2 : r ^^^ 2 ^ 63 = 2 ^ 63 ||| r := by
    apply Nat.eq_of_testBit_eq
    intro k
    rw [Nat.testBit_xor, Nat.testBit_or, Nat.testBit_two_pow]
    by_cases hk : 63 = k
    · subst hk
      have : r.testBit 63 = false := Nat.testBit_lt_two_pow (by omega)
      simp [this]
    · simp [hk]
  rw [h2, ← h1]

set_option maxHeartbeats 400000 in
theorem join_any (n : Bool) (f : Nat) (e : Int) (hf : f < 18446744073709551616) (w : World) :
    Calls Tryz.prog 127 #[.agg #[.bool n, .int .u64 f, .int .i64 e]] w fun r w' => r = .returned (.tuple #[.float .f64 (joinF n f e), .bool (okP f e)]) ∧ Below w.heap.size w w' := by
  have hv := valR_lt f e
  have hu : ∀ b, Op.unary .neg (.float .f64 b) = pure (.float .f64 (Op.negFloat .f64 b)) := fun _ => rfl
  have hg := neg_word (r := valR f e) (by omega)
  cases ho : okP f e
  · have HE : Hid (joinF n f e = 0) := (show joinF n f e = 0 by unfold joinF; rw [ho]; rfl)
    clear hg hv
    go_enter Tryz.func127, Tryz.ntmps127
    go_wp2_with (go_at_call 134; refine (sizeOf_any _ _ (by assumption) _).mono ?_; rintro e w' ⟨rfl, rfl⟩)
    go_ret2
    exact ⟨end_fb HE.out.symm rfl, (Below.refl _ _).alloc (Nat.le_refl _) _⟩
  · cases n
    · have HE : Hid (joinF false f e = valR f e) := (show joinF false f e = valR f e by unfold joinF; rw [ho]; rfl)
      clear hg hv
      go_enter Tryz.func127, Tryz.ntmps127
      go_wp2_with (go_at_call 134; refine (sizeOf_any _ _ (by assumption) _).mono ?_; rintro e w' ⟨rfl, rfl⟩)
      go_ret2
      exact ⟨end_fb HE.out.symm rfl, (Below.refl _ _).alloc (Nat.le_refl _) _⟩
    · have HE : joinF true f e = 9223372036854775808 + valR f e := by unfold joinF; rw [ho]; rfl
      rw [← HE] at hg
      clear hv HE
      go_enter Tryz.func127, Tryz.ntmps127
      go_wp2_with (go_at_call 134; refine (sizeOf_any _ _ (by assumption) _).mono ?_; rintro e w' ⟨rfl, rfl⟩)
      go_ret2
      exact ⟨rfl, (Below.refl _ _).alloc (Nat.le_refl _) _⟩

end Go.Proofs.YtnclddfljghebaaGreatDoor
