/- What math.Ldexp answers: the walks. -/
import Derived.Test.YtbnjjoaippoinaaCa
import Derived.Test.YtbnjjoaippoinaaZb
namespace Go.Proofs.Ytbnjjoaippoinaa
open Go.RowKit

theorem i64_and2047 (n : Int) : bits .and .i64 n 2047 = n % 2048 := by
  have h63 : (BitVec.ofInt 64 2047).toNat = 2 ^ 11 - 1 := by decide
  have key : (BitVec.ofInt 64 n &&& BitVec.ofInt 64 2047).toNat = (n % ((2 ^ 64 : Nat) : Int)).toNat % 2 ^ 11 := by
    rw [BitVec.toNat_and, BitVec.toNat_ofInt, h63, Nat.and_two_pow_sub_one_eq_mod]
  show IntKind.i64.wrap ((BitVec.ofInt 64 n &&& BitVec.ofInt 64 2047).toNat : Nat) = n % 2048
  rw [key, IntKind.wrap_i64]
  omega
theorem field_off {a : Nat} (ha : a < 9223372036854775808) : bits .andNot .u64 (a : Int) 9218868437227405312 = ((a % 4503599627370496 : Nat) : Int) := by
  have h := u64_andNot_nat a 9218868437227405312 (by omega) (by omega)
  have e : ((9218868437227405312 : Nat) : Int) = 9218868437227405312 := rfl
  rw [e] at h
  rw [h]
  have h1 := and_two_pow' a 63
  have h0 : a.testBit 63 = false := Nat.testBit_lt_two_pow (by omega)
  have h2 := Nat.and_two_pow_sub_one_eq_mod a 52
  have h3 : 18446744073709551615 - 9218868437227405312 = 2 ^ 63 ||| (2 ^ 52 - 1) := by decide
  rw [h3, Nat.and_or_distrib_left, h1, h0, h2]
  simp
theorem field_on {f k : Nat} (hf : f < 4503599627370496) (hk : k < 2048) : bits .or .u64 (f : Int) ((k * 4503599627370496 : Nat) : Int) = ((k * 4503599627370496 + f : Nat) : Int) := by
  have h := u64_or_nat f (k * 4503599627370496) (by omega) (by omega)
  rw [h]
  have := Nat.two_pow_add_eq_or_of_lt (i := 52) (b := f) (by omega) k
  rw [show (2 : Nat) ^ 52 * k = k * 4503599627370496 by rw [Nat.mul_comm]] at this
  rw [this, Nat.or_comm]

set_option maxHeartbeats 400000 in
theorem isinf_none (a : Nat) (ha : a < 9218868437227405312) (w : World) :
    Calls Try.prog 53 #[.float .f64 a, .int .i64 0] w fun e w' => e = .returned (.bool false) ∧ w' = w := by
  have o1 : (FloatKind.f64.format.order a 9218868437227405311 == some .gt) = false := by
    rw [gt_num (by omega) (by omega) (nan_small (by omega)) (by decide), place_small (by omega), place_small (by omega)]; simp; omega
  have ca := abs_any a (by omega)
  rw [rung_small (by omega)] at ca
  go_enter Try.func53, Try.ntmps53
  go_wp2_with (go_at_call 39; refine (ca _).mono ?_; rintro e w' ⟨rfl, rfl⟩)
  go_ret
  exact ⟨rfl, rfl⟩
set_option maxHeartbeats 400000 in
theorem normalize_any (a : Nat) (h1 : 4503599627370496 ≤ a) (ha : a < 9218868437227405312) (w : World) :
    Calls Try.prog 55 #[.float .f64 a] w fun e w' => e = .returned (.tuple #[.float .f64 a, .int .i64 0]) ∧ w' = w := by
  have o1 : (FloatKind.f64.format.order a 4503599627370496 == some .lt) = false := by
    rw [lt_num (by omega) (by omega) (nan_small (by omega)) (by decide), place_small (by omega), place_small (by omega)]; simp; omega
  have ca := abs_any a (by omega)
  rw [rung_small (by omega)] at ca
  go_enter Try.func55, Try.ntmps55
  go_wp2_with (go_at_call 39; refine (ca _).mono ?_; rintro e w' ⟨rfl, rfl⟩)
  exact bodyPost_ret (v := .tuple #[.float .f64 a, .int .i64 0]) (by simp [results, Try.results55, go_sem]) rfl ⟨rfl, rfl⟩
/-- .. of a float that is a whole number's own: F its field, what is put into its place. -/
theorem ldexp_at (r : Nat) (L : Int) (h1 : 4503599627370496 ≤ r) (hr : r < 9218868437227405312) (hL1 : -1074 ≤ L) (hL2 : L ≤ 200000) (R : Nat)
    (hc : (1023 < L + ((r / 4503599627370496 : Nat) : Int) - 1023 ∧ R = 9218868437227405312) ∨
      (-1022 ≤ L + ((r / 4503599627370496 : Nat) : Int) - 1023 ∧ L + ((r / 4503599627370496 : Nat) : Int) - 1023 ≤ 1023 ∧ (R : Int) = (r : Int) + L * 4503599627370496) ∨
      (-1074 ≤ L + ((r / 4503599627370496 : Nat) : Int) - 1023 ∧ L + ((r / 4503599627370496 : Nat) : Int) - 1023 < -1022 ∧ ∃ y : Nat, (y : Int) = (r : Int) + (L + 53) * 4503599627370496 ∧ floatBits .mul .f64 4368491638549381120 y = some R)) (w : World) :
    Calls Try.prog 41 #[.float .f64 r, .int .i64 L] w fun e w' => e = .returned (.float .f64 R) ∧ w' = w := by
  have fb := run_fbits r
  have ff := run_ffrom
  have q0 : (FloatKind.f64.format.order r 0 == some .eq) = false := by rw [zero_eq (by omega), rung_small (by omega)]; simp; omega
  have q1 : (FloatKind.f64.format.order r 0 == some .lt) = false := by rw [zero_lt (by omega), place_small (by omega)]; simp
  have ci := isinf_none r hr
  have cn := isnan_any r (by omega)
  rw [nan_small (by omega)] at cn
  have co := normalize_any r h1 hr
  obtain ⟨F, hF⟩ : ∃ F, r / 4503599627370496 = F := ⟨_, rfl⟩
  have hF1 : 1 ≤ F ∧ F ≤ 2046 := by omega
  have ha : bits .and .i64 ((r : Int) / 4503599627370496) 2047 = (F : Int) := by rw [i64_and2047]; omega
  have hx := field_off (a := r) (by omega)
  obtain ⟨f, hf⟩ : ∃ f, r % 4503599627370496 = f := ⟨_, rfl⟩
  have hf1 : f < 4503599627370496 := by omega
  have hrF : (r : Int) = (F : Int) * 4503599627370496 + f := by omega
  rw [hf] at hx
  rw [hF] at hc
  have hcI := inf_any
  have HR : Hid ((r : Int) = (F : Int) * 4503599627370496 + f) := hrF
  clear hrF hF hf
  rcases hc with ⟨c1, rfl⟩ | ⟨c1, c2, c3⟩ | ⟨c1, c2, y, hy, hm⟩
  · have t1 : ¬ L + ((F : Int) - 1023) < -1075 := by omega
    have t2 : 1023 < L + ((F : Int) - 1023) := by omega
    go_enter Try.func41, Try.ntmps41
    go_wp2_with (first
      | (go_at_call 53; refine (ci _).mono ?_; rintro e w' ⟨rfl, rfl⟩)
      | (go_at_call 54; refine (cn _).mono ?_; rintro e w' ⟨rfl, rfl⟩)
      | (go_at_call 55; refine (co _).mono ?_; rintro e w' ⟨rfl, rfl⟩)
      | (go_at_call 21; refine (hcI _).mono ?_; rintro e w' ⟨rfl, rfl⟩))
    go_ret
    exact ⟨rfl, rfl⟩
  · have t1 : ¬ L + ((F : Int) - 1023) < -1075 := by omega
    have t2 : ¬ 1023 < L + ((F : Int) - 1023) := by omega
    have t3 : ¬ L + ((F : Int) - 1023) < -1022 := by omega
    obtain ⟨k, hk⟩ : ∃ k : Nat, (k : Int) = L + ((F : Int) - 1023) + 1023 := ⟨(L + ((F : Int) - 1023) + 1023).toNat, by omega⟩
    have hR : R = k * 4503599627370496 + f := by have := HR.out; omega
    have ho := field_on (f := f) (k := k) hf1 (by omega)
    rw [show ((k * 4503599627370496 : Nat) : Int) = (L + ((F : Int) - 1023) + 1023) * 4503599627370496 by omega, ← hR] at ho
    have hmul := fun w => run_float_arith (P := Try.prog) w .mul 38 .f64 _ _ _ (mul_one_w (y := R) (by omega) (by omega))
    clear c3 hR hk HR
    go_enter Try.func41, Try.ntmps41
    go_wp2_with (first
      | (go_at_call 53; refine (ci _).mono ?_; rintro e w' ⟨rfl, rfl⟩)
      | (go_at_call 54; refine (cn _).mono ?_; rintro e w' ⟨rfl, rfl⟩)
      | (go_at_call 55; refine (co _).mono ?_; rintro e w' ⟨rfl, rfl⟩))
    go_ret
    exact ⟨rfl, rfl⟩
  · have t1 : ¬ L + ((F : Int) - 1023) < -1075 := by omega
    have t2 : ¬ 1023 < L + ((F : Int) - 1023) := by omega
    have t3 : L + ((F : Int) - 1023) < -1022 := by omega
    obtain ⟨k, hk⟩ : ∃ k : Nat, (k : Int) = L + ((F : Int) - 1023) + 53 + 1023 := ⟨(L + ((F : Int) - 1023) + 53 + 1023).toNat, by omega⟩
    have hR : y = k * 4503599627370496 + f := by have := HR.out; omega
    have ho := field_on (f := f) (k := k) hf1 (by omega)
    rw [show ((k * 4503599627370496 : Nat) : Int) = (L + ((F : Int) - 1023) + 53 + 1023) * 4503599627370496 by omega, ← hR] at ho
    have hmul := fun w => run_float_arith (P := Try.prog) w .mul 38 .f64 _ _ _ hm
    clear hR hk HR hy hm
    go_enter Try.func41, Try.ntmps41
    go_wp2_with (first
      | (go_at_call 53; refine (ci _).mono ?_; rintro e w' ⟨rfl, rfl⟩)
      | (go_at_call 54; refine (cn _).mono ?_; rintro e w' ⟨rfl, rfl⟩)
      | (go_at_call 55; refine (co _).mono ?_; rintro e w' ⟨rfl, rfl⟩))
    go_ret
    exact ⟨rfl, rfl⟩
end Go.Proofs.Ytbnjjoaippoinaa
