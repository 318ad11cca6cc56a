/- What the reference's Norm answers: what the program's does. -/
import Derived.Test.YtggdjbdamaeikaaGreatDoorZn
import Derived.Test.YtggdjbdamaeikaaGreatDoorZo
namespace Go.Proofs.YtggdjbdamaeikaaGreatDoor
open Go.RowKit

theorem bit_of (v n : Nat) : (lo v).getD (n / 64) 0 / 2 ^ (n % 64) % 2 = v / 2 ^ n % 2 := by
  have e : (2 : Nat) ^ n = 2 ^ (64 * (n / 64)) * 2 ^ (n % 64) := by rw [← Nat.pow_add]; congr 1; omega
  rw [lo_digit, e, ← Nat.div_div_eq_div_mul]
  generalize v / 2 ^ (64 * (n / 64)) = x
  obtain ⟨k, hk⟩ : ∃ k, 18446744073709551616 = 2 ^ (n % 64) * (2 * k) := ⟨2 ^ (63 - n % 64), by
    rw [← Nat.pow_succ', ← Nat.pow_add, show n % 64 + (63 - n % 64 + 1) = 64 by omega]⟩
  have hd := Nat.mod_add_div x 18446744073709551616
  have e3 : 18446744073709551616 * (x / 18446744073709551616) = 2 ^ (n % 64) * (2 * (k * (x / 18446744073709551616))) := by
    rw [← Nat.mul_assoc 2 k, ← Nat.mul_assoc, ← hk]
  have e2 : x / 2 ^ (n % 64) = x % 18446744073709551616 / 2 ^ (n % 64) + 2 * (k * (x / 18446744073709551616)) := by
    conv => lhs; rw [← hd]
    rw [e3]
    exact Nat.add_mul_div_left _ _ (Nat.two_pow_pos _)
  omega
theorem bit_low {v n : Nat} (h : n < tz v) : v / 2 ^ n % 2 = 0 := by
  have h0 : v ≠ 0 := fun e => by rw [e, tz_zero] at h; omega
  obtain ⟨m, hm⟩ := tz_spec h0
  obtain ⟨d, hd⟩ : ∃ d, tz v = n + (1 + d) := ⟨tz v - n - 1, by omega⟩
  rw [hm, hd, Nat.pow_add, Nat.mul_assoc, Nat.mul_div_cancel_left _ (Nat.two_pow_pos n), Nat.pow_add, Nat.pow_one, Nat.mul_assoc, Nat.mul_mod_right]
theorem bit_cast {x r : Nat} (h : x / 2 ^ r % 2 = 0) : ((x : Int) / 2 ^ r).tmod 2 = 0 := by
  have := congrArg (Nat.cast (R := Int)) h
  rw [Int.natCast_emod, Int.natCast_ediv, Int.natCast_pow] at this
  rw [Int.tmod_eq_emod_of_nonneg (Int.ediv_nonneg (by omega) (Int.le_of_lt (Int.pow_pos (by omega))))]
  exact this
theorem bit_cast1 {x r : Nat} (h : x / 2 ^ r % 2 = 1) : ((x : Int) / 2 ^ r).tmod 2 = 1 := by
  have := congrArg (Nat.cast (R := Int)) h
  rw [Int.natCast_emod, Int.natCast_ediv, Int.natCast_pow] at this
  rw [Int.tmod_eq_emod_of_nonneg (Int.ediv_nonneg (by omega) (Int.le_of_lt (Int.pow_pos (by omega))))]
  exact this
theorem bit_at {v : Nat} (h : v ≠ 0) : v / 2 ^ tz v % 2 = 1 := (tz_div h).1
theorem norm_case {d : Dy} (h0 : vl d.mag ≠ 0) : normD d = if 256 < (lo (vl d.mag / 2 ^ tz (vl d.mag))).length ∨ 65536 < d.exp ∨ d.exp < -65536 - (tz (vl d.mag) : Int) ∨ 65536 < d.exp + tz (vl d.mag) then (dy0, 3) else (⟨d.neg, lo (vl d.mag / 2 ^ tz (vl d.mag)), d.exp + tz (vl d.mag)⟩, 0) := by
  have e : (lo (vl d.mag / 2 ^ tz (vl d.mag))).length = (bl (vl d.mag) - tz (vl d.mag) + 63) / 64 := by rw [lo_length]; unfold nl; rw [bl_div]
  have ht := tz_lt_bl h0
  rw [e]
  by_cases hc : 16384 < bl (vl d.mag) - tz (vl d.mag) ∨ d.exp + tz (vl d.mag) < -65536 ∨ 65536 < d.exp + tz (vl d.mag)
  · rw [norm_long h0 hc, if_pos (by omega)]
  · rw [norm_fine h0 hc, if_neg (by omega)]
/-- A dyad handed back, its limbs a whole slice. -/
def GaveX (w : World) (r : Dy × Int) (e : Ending) (w' : World) : Prop :=
  ∃ ao cap, e = .returned (.tuple #[.agg #[.bool r.1.neg, .slice ao r.1.mag.length cap, .int .i64 r.1.exp], .int .i64 r.2]) ∧ NS w' ao cap r.1.mag ∧ Frs w.heap.size ao ∧ Below w.heap.size w w'
theorem GaveX.gave {w : World} {r : Dy × Int} {e : Ending} {w' : World} (h : GaveX w r e w') : Gave w r e w' := by
  obtain ⟨ao, cap, h1, h2, h3⟩ := h
  exact ⟨ao, cap, h1, h2.1, h3⟩
/-- A number handed back. -/
def GaveM (w : World) (d : Dy) (e : Ending) (w' : World) : Prop :=
  ∃ ao cap, e = .returned (.agg #[.bool d.neg, .slice ao d.mag.length cap, .int .i64 d.exp]) ∧ NS w' ao cap d.mag ∧ Frs w.heap.size ao ∧ Below w.heap.size w w'
theorem GaveM.gave {w : World} {d : Dy} {e : Ending} {w' : World} (h : GaveM w d e w') : GaveD w d e w' := by
  obtain ⟨ao, cap, h1, h2, h3⟩ := h
  exact ⟨ao, cap, h1, h2.1, h3⟩
end Go.Proofs.YtggdjbdamaeikaaGreatDoor
