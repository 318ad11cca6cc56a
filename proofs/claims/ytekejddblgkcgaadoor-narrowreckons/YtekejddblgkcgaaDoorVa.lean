/- What narrow's To answers of any float, by any way; comparisons of narrow floats. -/
import Derived.Test.YtekejddblgkcgaaDoorXn
import Derived.Test.YtekejddblgkcgaaDoorXg
namespace Go.Proofs.YtekejddblgkcgaaDoor
open Go.RowKit

theorem toW_all {x : Nat} (hx : x < 18446744073709551616) (nx : nanB x = false) (m : Int) : toW x (nrW x) (toDn m (sgn x)) (toUp m (sgn x)) = toS x m := by
  have hex : (toDn m (sgn x) && toUp m (sgn x)) = false := by
    unfold toDn toUp
    cases sgn x <;> simp <;> omega
  have hr : rung x ≤ 9218868437227405312 := by unfold nanB at nx; simpa using nx
  obtain ⟨g1, g2, _, g4⟩ := s_word (sgn x) _ (nrW_size x)
  by_cases h0 : rung x = 0
  · have e : nrW x = Ieee.single.word (sgn x) 0 := by unfold nrW; rw [if_pos h0]
    have e2 : toS x m = Ieee.single.word (sgn x) 0 := by unfold toS; rw [if_pos h0]
    have hb : bk (nrW x) = x := by rw [e]; exact (conv_zero hx h0).symm
    unfold toW
    rw [hb, e2, e]
    simp
  · by_cases hf : finB x = true
    · have e : nrW x = Ieee.single.word (sgn x) (nwr (rung x)) := by unfold nrW; rw [if_neg h0, if_pos hf]
      rw [e, toW_spec h0 hf _ _ hex]
      unfold toS
      rw [if_neg h0, if_pos hf]
    · have hi : rung x = 9218868437227405312 := by unfold finB at hf; simp at hf; omega
      have e : nrW x = Ieee.single.word (sgn x) 2139095040 := by unfold nrW; rw [if_neg h0, if_neg hf]
      have e2 : toS x m = Ieee.single.word (sgn x) 2139095040 := by unfold toS; rw [if_neg h0, if_neg hf]
      obtain ⟨k1, k2, _, k4⟩ := s_word (sgn x) 2139095040 (by omega)
      have hb : place (bk (nrW x)) = place x := by
        rw [e]
        obtain ⟨j1, j2, _, _⟩ := bk_parts k4
        unfold place
        rw [j1, j2, k1, k2, hi]
        rfl
      unfold toW
      rw [hb, e2, e]
      simp
theorem n_to_all (x : Nat) (m : Int) (hx : x < 18446744073709551616) (nx : nanB x = false) (w : World) :
    Calls Tryd.prog 5 #[.float .f64 x, .int .i8 m] w fun e w' => e = .returned (.float .f32 (toS x m)) ∧ w' = w := by
  have h := n_to_num x (nrW x) m hx nx (nrW_ok x).2 (nrW_ok x).1 (n_near_num x hx nx) w
  rw [toW_all hx nx] at h
  exact h
/-- What To answers, whatever float it is given. -/
def ToR (x : Nat) (m : Int) (n : Nat) : Prop := n < 4294967296 ∧ S.nanB n = nanB x ∧ (nanB x = false → n = toS x m)
theorem n_to_any (x : Nat) (m : Int) (hx : x < 18446744073709551616) (w : World) :
    Calls Tryd.prog 5 #[.float .f64 x, .int .i8 m] w fun e w' => ∃ n, e = .returned (.float .f32 n) ∧ ToR x m n ∧ Below w.heap.size w w' := by
  cases nx : nanB x
  · exact (n_to_all x m hx nx w).mono fun e w' h => by
      obtain ⟨rfl, rfl⟩ := h
      exact ⟨_, rfl, ⟨(toS_ok x m).2.1, by rw [nx]; exact (toS_ok x m).1, fun _ => rfl⟩, Below.refl _ _⟩
  · exact (n_to_nan x m hx nx w).mono fun e w' h => by
      obtain ⟨n, rfl, h1, h2, h3⟩ := h
      exact ⟨_, rfl, ⟨h2, by rw [nx]; exact h1, fun h => by rw [nx] at h; cases h⟩, h3⟩
theorem le_num {a b : Nat} (ha : a < 18446744073709551616) (hb : b < 18446744073709551616) (na : nanB a = false) (nb : nanB b = false) :
    (FloatKind.f64.format.order a b == some .lt || FloatKind.f64.format.order a b == some .eq) = decide (place a ≤ place b) := by
  rw [lt_num ha hb na nb, eq_num ha hb na nb]
  rw [Bool.eq_iff_iff]; simp; omega
theorem s_le_num {a b : Nat} (ha : a < 4294967296) (hb : b < 4294967296) (na : S.nanB a = false) (nb : S.nanB b = false) :
    (FloatKind.f32.format.order a b == some .lt || FloatKind.f32.format.order a b == some .eq) = decide (S.place a ≤ S.place b) := by
  rw [s_lt_num ha hb na nb, s_eq_num ha hb na nb]
  rw [Bool.eq_iff_iff]; simp; omega
end Go.Proofs.YtekejddblgkcgaaDoor
