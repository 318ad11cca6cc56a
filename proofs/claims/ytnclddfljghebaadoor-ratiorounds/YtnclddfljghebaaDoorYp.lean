/- What is kept of a number ahead of rounding; one limb. -/
import Derived.Test.YtnclddfljghebaaDoorDr
import Derived.Test.YtnclddfljghebaaDoorZn
namespace Go.Proofs.YtnclddfljghebaaDoor
open Go.RowKit

theorem lo_oneY {n : Nat} (h0 : n ≠ 0) (h : n < 18446744073709551616) : lo n = [n] := by
  have h1 := lo_vl (xs := [n]) (fun x hx => by simp at hx; omega) (Or.inr (by simpa using h0))
  rwa [show vl [n] = n by simp [vl]] at h1
/-- What is kept of v times 2^e ahead of rounding. -/
def K0 (v : Nat) (e : Int) : Nat := shr v (rDr v e)
theorem rLa_cases (v : Nat) (e : Int) : -1074 ≤ rLa v e ∧ (rLa v e = (bl v : Int) + e - 53 ∨ (rLa v e = -1074 ∧ (bl v : Int) + e - 53 < -1074)) := by unfold rLa; omega
theorem K0_bd {v : Nat} {e : Int} (h0 : v ≠ 0) : K0 v e < 9007199254740992 ∧ (rLa v e = -1074 ∨ 4503599627370496 ≤ K0 v e) ∧ (1024 < (bl v : Int) + e → bl (K0 v e) = 53) := by
  have hb := bl_spec h0
  obtain ⟨_, hla⟩ := rLa_cases v e
  have e0 : rDr v e = rLa v e - e := rfl
  have key : bl (K0 v e) ≤ 53 ∧ (rLa v e = (bl v : Int) + e - 53 → bl (K0 v e) = 53) := by
    unfold K0 shr
    by_cases hd : 0 ≤ rDr v e
    · rw [if_pos hd, show bl (v / 2 ^ (rDr v e).toNat) = bl v - (rDr v e).toNat from bl_div]
      omega
    · rw [if_neg hd, show bl (v * 2 ^ (-(rDr v e)).toNat) = bl v + (-(rDr v e)).toNat from bl_mul_pow h0]
      omega
  refine ⟨by have := bl_le_iff.1 key.1; omega, ?_, fun h => key.2 (by omega)⟩
  rcases hla with h | ⟨h, _⟩
  · right
    have h53 := key.2 h
    have hn : K0 v e ≠ 0 := by intro hz; rw [hz] at h53; simp [bl] at h53
    have := (bl_spec hn).1
    rw [h53] at this
    omega
  · exact Or.inl h
/-- The one limb of what is kept, or none. -/
theorem one_limb {w : World} {o : Option Addr} {c n : Nat} (h : NS w o c (lo n)) (hn : n < 18446744073709551616) : (n = 0 ∧ (lo n).length = 0) ∨ (n ≠ 0 ∧ (lo n).length = 1 ∧ ∃ b off, o = some ⟨b, off, none⟩ ∧ w.cell? ⟨b, off, none⟩ = some (.int .u64 (n : Nat))) := by
  by_cases h0 : n = 0
  · left; subst h0; exact ⟨rfl, by rw [lo_zero]; rfl⟩
  · right
    have e := lo_oneY h0 hn
    refine ⟨h0, by rw [e]; rfl, ?_⟩
    rcases h.1 with h1 | ⟨b, off, h1, h2⟩
    · rw [e] at h1; cases h1
    · have := h2 0 (by rw [e]; simp)
      rw [e] at this
      exact ⟨b, off, h1, by simpa using this⟩
end Go.Proofs.YtnclddfljghebaaDoor
