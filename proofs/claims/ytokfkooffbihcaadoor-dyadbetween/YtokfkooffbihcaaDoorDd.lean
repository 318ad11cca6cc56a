/- What window, bitLen, trailingZeros, cut answer. -/
import Derived.Test.YtokfkooffbihcaaDoorDc
import Derived.Laws.MathBits
namespace Go.Proofs.YtokfkooffbihcaaDoor
open Go.RowKit

theorem retI {k : IntKind} {a b : Int} (h : a = b) : Ending.returned (.int k a) = .returned (.int k b) := by rw [h]
theorem retB {a b : Bool} (h : a = b) : Ending.returned (.bool a) = .returned (.bool b) := by rw [h]

theorem win_go {xs : List Nat} (h : Lm xs) (low : Int) :
    bits .or .u64 ((lmb xs (low / 64) : Int) / 2 ^ (low % 64).toNat) (IntKind.u64.wrap ((lmb xs (low / 64 + 1) : Int) * 2 ^ (64 - low % 64).toNat)) = (win (vl xs) low : Nat) := by
  obtain ⟨o, ho⟩ : ∃ o : Nat, low % 64 = o := ⟨(low % 64).toNat, by omega⟩
  have ho64 : o < 64 := by omega
  obtain ⟨a1, a2, k, a3⟩ := win_two h (low / 64) o ho64
  have e0 : 64 * (low / 64) + o = low := by omega
  rw [e0] at a1
  rw [ho, Int.toNat_natCast, show (64 - (o : Int)).toNat = 64 - o by omega, IntKind.wrap_u64]
  have e1 : (lmb xs (low / 64) : Int) / 2 ^ o = ((lmb xs (low / 64) / 2 ^ o : Nat) : Int) := by rw [Int.natCast_ediv, Int.natCast_pow]; rfl
  have e2 : (lmb xs (low / 64 + 1) : Int) * 2 ^ (64 - o) % 18446744073709551616 = ((lmb xs (low / 64 + 1) * 2 ^ (64 - o) % 18446744073709551616 : Nat) : Int) := by rw [Int.natCast_emod, Int.natCast_mul, Int.natCast_pow]; rfl
  rw [e1, e2]
  have b1 : lmb xs (low / 64) / 2 ^ o < 18446744073709551616 := Nat.lt_of_le_of_lt (Nat.div_le_self _ _) (lmb_lt h _)
  have g := u64_or_nat _ _ b1 (Nat.mod_lt (lmb xs (low / 64 + 1) * 2 ^ (64 - o)) (show 0 < 18446744073709551616 by omega))
  rw [g, Nat.or_comm, a3, ← Nat.two_pow_add_eq_or_of_lt a2, ← a3, ← a1, Nat.add_comm]

set_option maxHeartbeats 400000 in
theorem window_any (xs : List Nat) (ao : Option Addr) (cap : Nat) (low : Int) (w : World) (hr : LRow w ao xs) (hL : Lm xs) (h1 : -1152921504606846976 ≤ low) (h2 : low ≤ 1152921504606846976) :
    Calls Tryd.prog 44 #[.slice ao xs.length cap, .int .i64 low] w fun e w' => e = .returned (.int .u64 (win (vl xs) low : Nat)) ∧ w' = w := by
  have h63 := i64_and63 low
  go_enter Tryd.func44, Tryd.ntmps44
  go_wp2_with (go_at_call 37; refine (limb_any _ _ _ _ _ (by assumption)).mono ?_; rintro e w' ⟨rfl, rfl⟩)
  go_ret
  exact ⟨retI (win_go hL low), rfl⟩

theorem len_end {t y : Nat} {x c : Int} (P : Nat) (hP : P = 2 ^ c.toNat) (ht : t = bitLen y) (hx : 0 ≤ x) (hc : 0 ≤ c) (hc2 : c ≤ 64) (hy0 : y ≠ 0) (hy : y = x.toNat / P) (h : x < 18446744073709551616) : wrap64 (c + wrap64 t) = (bl x.toNat : Int) := by
  have e : bitLen y = bl y := rfl
  have e1 : bl y = bl x.toNat - c.toNat := by rw [hy, hP]; exact bl_div
  have e2 := bl_pos hy0
  have e3 : bl x.toNat ≤ 64 := bl_le_iff.2 (by omega)
  rw [ht, e]
  unfold wrap64
  omega
theorem len_end0 {t y : Nat} {x : Int} (ht : t = bitLen y) (hx : 0 ≤ x) (hy : y = x.toNat) (h : x < 18446744073709551616) : wrap64 (wrap64 t) = (bl x.toNat : Int) := by
  have e : bitLen y = bl y := rfl
  have e3 : bl x.toNat ≤ 64 := bl_le_iff.2 (by omega)
  rw [ht, e, hy]
  unfold wrap64
  omega

set_option maxHeartbeats 1000000 in
set_option maxRecDepth 100000 in
theorem len64_int (x : Int) (h0 : 0 ≤ x) (h : x < 18446744073709551616) (w : World) :
    Calls Tryd.prog 50 #[.int .u64 x] w fun e w' => e = .returned (.int .i64 (bl x.toNat)) ∧ w' = w := by
  go_enter Tryd.func50, Tryd.ntmps50
  go_wp2
  all_goals go_ret
  · exact ⟨retI (len_end 72057594037927936 rfl (len8tab_get _ _) h0 (by omega) (by omega) (by omega) (by omega) h), rfl⟩
  · exact ⟨retI (len_end 281474976710656 rfl (len8tab_get _ _) h0 (by omega) (by omega) (by omega) (by omega) h), rfl⟩
  · exact ⟨retI (len_end 1099511627776 rfl (len8tab_get _ _) h0 (by omega) (by omega) (by omega) (by omega) h), rfl⟩
  · exact ⟨retI (len_end 4294967296 rfl (len8tab_get _ _) h0 (by omega) (by omega) (by omega) (by omega) h), rfl⟩
  · exact ⟨retI (len_end 16777216 rfl (len8tab_get _ _) h0 (by omega) (by omega) (by omega) (by omega) h), rfl⟩
  · exact ⟨retI (len_end 65536 rfl (len8tab_get _ _) h0 (by omega) (by omega) (by omega) (by omega) h), rfl⟩
  · exact ⟨retI (len_end 256 rfl (len8tab_get _ _) h0 (by omega) (by omega) (by omega) (by omega) h), rfl⟩
  · exact ⟨retI (len_end0 (len8tab_get _ _) h0 (by omega) h), rfl⟩
theorem len64_any (x : Nat) (h : x < 18446744073709551616) (w : World) :
    Calls Tryd.prog 50 #[.int .u64 x] w fun e w' => e = .returned (.int .i64 (bl x)) ∧ w' = w := len64_int x (by omega) (by omega) w
end Go.Proofs.YtokfkooffbihcaaDoor
