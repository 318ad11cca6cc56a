/- What narrow's isNaN, Bits, From, Same, place, at, Next answer, and Copysign: call by call. -/
import Derived.Test.YtekejddblgkcgaaDoorXc
import Derived.Test.YtekejddblgkcgaaDoorSc
import Derived.Deep.RegionWith
namespace Go.Proofs.YtekejddblgkcgaaDoor
open Go.RowKit

theorem s_and_nat (a b : Nat) (ha : a < 4294967296) (hb : b < 4294967296) : bits .and .u32 (a : Int) (b : Int) = ((a &&& b : Nat) : Int) := by
  have hx : a &&& b < 2 ^ 32 := Nat.and_lt_two_pow _ (by omega)
  show IntKind.u32.wrap ((BitVec.ofInt 32 (a : Int) &&& BitVec.ofInt 32 (b : Int)).toNat : Int) = _
  rw [BitVec.toNat_and, BitVec.toNat_ofInt, BitVec.toNat_ofInt, IntKind.wrap_u32]
  have e1 : (((a : Nat) : Int) % ((2 ^ 32 : Nat) : Int)).toNat = a := by omega
  have e2 : (((b : Nat) : Int) % ((2 ^ 32 : Nat) : Int)).toNat = b := by omega
  rw [e1, e2]
  omega
theorem s_or_nat (a b : Nat) (ha : a < 4294967296) (hb : b < 4294967296) : bits .or .u32 (a : Int) (b : Int) = ((a ||| b : Nat) : Int) := by
  have hx : a ||| b < 2 ^ 32 := Nat.or_lt_two_pow (by omega) (by omega)
  show IntKind.u32.wrap ((BitVec.ofInt 32 (a : Int) ||| BitVec.ofInt 32 (b : Int)).toNat : Int) = _
  rw [BitVec.toNat_or, BitVec.toNat_ofInt, BitVec.toNat_ofInt, IntKind.wrap_u32]
  have e1 : (((a : Nat) : Int) % ((2 ^ 32 : Nat) : Int)).toNat = a := by omega
  have e2 : (((b : Nat) : Int) % ((2 ^ 32 : Nat) : Int)).toNat = b := by omega
  rw [e1, e2]
  omega
theorem s_and_sign (a : Nat) (ha : a < 4294967296) : (bits .and .u32 (a : Int) 2147483648 != 0) = S.sgn a := by
  have h := s_and_nat a 2147483648 ha (by omega)
  have e : ((2147483648 : Nat) : Int) = 2147483648 := rfl
  rw [e] at h
  rw [h]
  have := and_two_pow' a 31
  rw [show (2 : Nat) ^ 31 = 2147483648 from rfl] at this
  rw [this, Nat.testBit_eq_decide_div_mod_eq, show (2 : Nat) ^ 31 = 2147483648 from rfl]
  unfold S.sgn
  by_cases h1 : 2147483648 ≤ a
  · have : a / 2147483648 = 1 := by omega
    simp [this, h1]
  · have : a / 2147483648 = 0 := by omega
    simp [this, h1]
theorem s_andNot_sign (a : Nat) (ha : a < 4294967296) : bits .andNot .u32 (a : Int) 2147483648 = (S.rung a : Int) := by
  show IntKind.u32.wrap ((BitVec.ofInt 32 (a : Int) &&& ~~~ BitVec.ofInt 32 ((2147483648 : Nat) : Int)).toNat : Int) = _
  rw [BitVec.toNat_and, BitVec.toNat_not, BitVec.toNat_ofInt, BitVec.toNat_ofInt, IntKind.wrap_u32]
  have e1 : (((a : Nat) : Int) % ((2 ^ 32 : Nat) : Int)).toNat = a := by omega
  rw [e1, show (2 ^ 32 - 1 - (((2147483648 : Nat) : Int) % ((2 ^ 32 : Nat) : Int)).toNat : Nat) = 2 ^ 31 - 1 from rfl, Nat.and_two_pow_sub_one_eq_mod]
  unfold S.rung
  omega
theorem s_or_sign {n : Nat} (hn : n < 2147483648) : bits .or .u32 2147483648 (n : Int) = ((2147483648 + n : Nat) : Int) := by
  have h := s_or_nat 2147483648 n (by omega) (by omega)
  have e2 : ((2147483648 : Nat) : Int) = 2147483648 := rfl
  rw [e2] at h
  rw [h]
  have := Nat.two_pow_add_eq_or_of_lt (i := 31) (b := n) (by omega) 1
  rw [show (2 : Nat) ^ 31 * 1 = 2147483648 from rfl] at this
  rw [this]

theorem run_sbits (a : Nat) (w : World) : (callFunc 49 #[.float .f32 a]).run Tryd.prog w = .ok (.value (.int .u32 a)) w := by
  rw [run_callFunc_extern (e := Extern.MathFloatBits.float32bits) Tryd.func49 (by kernel_rfl) (by kernel_rfl) (by kernel_rfl) (by kernel_rfl)]
  rfl
theorem run_sfrom (n : Int) (w : World) : (callFunc 62 #[.int .u32 n]).run Tryd.prog w = .ok (.value (.float .f32 n.toNat)) w := by
  rw [run_callFunc_extern (e := Extern.MathFloatBits.float32frombits) Tryd.func62 (by kernel_rfl) (by kernel_rfl) (by kernel_rfl) (by kernel_rfl)]
  rfl
theorem end_flt32 {a b : Nat} (h : a = b) : Ending.returned (.float .f32 a) = .returned (.float .f32 b) := by subst h; rfl
set_option maxHeartbeats 400000 in
theorem n_isnan_no (b : Nat) (hb : b < 4294967296) (hn : S.nanB b = false) (w : World) :
    Calls Tryd.prog 44 #[.float .f32 b] w fun e w' => e = .returned (.bool false) ∧ w' = w := by
  obtain ⟨_, _, h3, h4⟩ := bk_parts hn
  go_enter Tryd.func44, Tryd.ntmps44
  go_wp2_with (first | (go_at_call 9; refine (n_back_any b hb hn _).mono ?_; rintro e w' ⟨rfl, rfl⟩) | (go_at_call 50; refine (isnan_any _ h3 _).mono ?_; rintro e w' ⟨rfl, rfl⟩))
  go_ret
  exact ⟨rfl, rfl⟩
set_option maxHeartbeats 400000 in
theorem n_isnan_yes (b : Nat) (hb : b < 4294967296) (hn : S.nanB b = true) (w : World) :
    Calls Tryd.prog 44 #[.float .f32 b] w fun e w' => e = .returned (.bool true) ∧ w' = w.drew := by
  go_enter Tryd.func44, Tryd.ntmps44
  go_wp2_with (first | (go_at_call 9; refine (n_back_nan b hb hn _).mono ?_; rintro e w' ⟨c, rfl, h4, h3, rfl⟩) | (go_at_call 50; refine (isnan_any _ h3 _).mono ?_; rintro e w' ⟨rfl, rfl⟩))
  go_ret
  exact ⟨rfl, rfl⟩
set_option maxHeartbeats 400000 in
theorem n_bits_no (b : Nat) (hb : b < 4294967296) (hn : S.nanB b = false) (w : World) :
    Calls Tryd.prog 33 #[.float .f32 b] w fun e w' => e = .returned (.int .u32 b) ∧ w' = w := by
  have fa := run_sbits b
  go_enter Tryd.func33, Tryd.ntmps33
  go_wp2_with (go_at_call 44; refine (n_isnan_no b hb hn _).mono ?_; rintro e w' ⟨rfl, rfl⟩)
  go_ret
  exact ⟨rfl, rfl⟩
set_option maxHeartbeats 400000 in
theorem n_bits_yes (b : Nat) (hb : b < 4294967296) (hn : S.nanB b = true) (w : World) :
    Calls Tryd.prog 33 #[.float .f32 b] w fun e w' => e = .returned (.int .u32 2143289344) ∧ w' = w.drew := by
  go_enter Tryd.func33, Tryd.ntmps33
  go_wp2_with (go_at_call 44; refine (n_isnan_yes b hb hn _).mono ?_; rintro e w' ⟨rfl, rfl⟩)
  go_ret
  exact ⟨rfl, rfl⟩
theorem below_drew1 (w : World) : Below w.heap.size w w.drew := (Below.refl _ _).drew
/-- What Bits tells. -/
def bitsN (b : Nat) : Nat := if S.nanB b then 2143289344 else b
theorem n_bits_any (b : Nat) (hb : b < 4294967296) (w : World) :
    Calls Tryd.prog 33 #[.float .f32 b] w fun e w' => e = .returned (.int .u32 (bitsN b)) ∧ Below w.heap.size w w' := by
  unfold bitsN
  cases hn : S.nanB b
  · refine (n_bits_no b hb hn w).mono ?_
    rintro e w' ⟨rfl, rfl⟩
    exact ⟨rfl, Below.refl _ _⟩
  · refine (n_bits_yes b hb hn w).mono ?_
    rintro e w' ⟨rfl, rfl⟩
    exact ⟨rfl, below_drew1 _⟩
/-- Are two narrow floats the same? -/
def sSame (a b : Nat) : Bool := (S.nanB a && S.nanB b) || decide (a = b)
end Go.Proofs.YtekejddblgkcgaaDoor
