/- To as a plain function of its float and way, and that it never falls. -/
import Derived.Test.YtekejddblgkcgaaDoorXm
namespace Go.Proofs.YtekejddblgkcgaaDoor
open Go.RowKit

/-- To, of a float that is no NaN. -/
def toS (x : Nat) (m : Int) : Nat := Ieee.single.word (sgn x) (if rung x = 0 then 0 else if finB x then toSz (rung x) (sgn x) (toDn m (sgn x)) (toUp m (sgn x)) else 2139095040)
theorem toS_size_le (x : Nat) (m : Int) : (if rung x = 0 then 0 else if finB x then toSz (rung x) (sgn x) (toDn m (sgn x)) (toUp m (sgn x)) else 2139095040) ≤ 2139095040 := by
  have := toSz_le (rung x) (sgn x) (toDn m (sgn x)) (toUp m (sgn x))
  (repeat' split) <;> omega
theorem toS_ok (x : Nat) (m : Int) : S.nanB (toS x m) = false ∧ toS x m < 4294967296 ∧ S.sgn (toS x m) = sgn x := by
  obtain ⟨g1, g2, g3, g4⟩ := s_word (sgn x) _ (toS_size_le x m)
  exact ⟨g4, g3, g2⟩
theorem toS_place (x : Nat) (m : Int) : S.place (toS x m) = if sgn x then -(((if rung x = 0 then 0 else if finB x then toSz (rung x) (sgn x) (toDn m (sgn x)) (toUp m (sgn x)) else 2139095040) : Nat) : Int) else (((if rung x = 0 then 0 else if finB x then toSz (rung x) (sgn x) (toDn m (sgn x)) (toUp m (sgn x)) else 2139095040) : Nat) : Int) := by
  obtain ⟨g1, g2, g3, g4⟩ := s_word (sgn x) _ (toS_size_le x m)
  unfold S.place toS
  rw [g1, g2]
theorem toS_grows {x y : Nat} (nx : nanB x = false) (ny : nanB y = false) (m : Int) (h : place x ≤ place y) : S.place (toS x m) ≤ S.place (toS y m) := by
  have size : ∀ (s dn up : Bool) (a b : Nat), a ≤ b → b ≤ 9218868437227405312 → (if a = 0 then 0 else if decide (a < 9218868437227405312) then toSz a s dn up else 2139095040) ≤ (if b = 0 then 0 else if decide (b < 9218868437227405312) then toSz b s dn up else 2139095040) := fun s dn up a b h1 h2 => by
    have t := toSz_le a s dn up
    by_cases a0 : a = 0
    · rw [if_pos a0]; omega
    · have tm := toSz_mono a0 h1 s dn up
      have b0 : ¬ b = 0 := by omega
      rw [if_neg a0, if_neg b0]
      by_cases b1 : b < 9218868437227405312
      · have a1 : a < 9218868437227405312 := by omega
        rw [decide_eq_true a1, decide_eq_true b1, if_pos rfl, if_pos rfl]
        exact tm
      · rw [decide_eq_false b1]
        by_cases a1 : a < 9218868437227405312
        · rw [decide_eq_true a1]; simpa using t
        · rw [decide_eq_false a1]; simp
  have hx : rung x ≤ 9218868437227405312 := by unfold nanB at nx; simpa using nx
  have hy : rung y ≤ 9218868437227405312 := by unfold nanB at ny; simpa using ny
  rw [toS_place, toS_place]
  unfold place at h
  have z := toS_size_le x m
  unfold finB at *
  cases sx : sgn x <;> cases sy : sgn y <;> rw [sx, sy] at h <;> simp only [Bool.false_eq_true, if_false, if_true] at h ⊢
  · have := size false (toDn m false) (toUp m false) (rung x) (rung y) (by omega) hy
    omega
  · have e1 : rung x = 0 := by omega
    have e2 : rung y = 0 := by omega
    rw [if_pos e1, if_pos e2]; omega
  · omega
  · have := size true (toDn m true) (toUp m true) (rung y) (rung x) (by omega) hx
    omega
end Go.Proofs.YtekejddblgkcgaaDoor
