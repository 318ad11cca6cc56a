/- Exact numbers, 0 too, rounded: the place never falls; the ways in their order: no program in this text. -/
import Derived.Test.YtfhejejfeffdcaaDoorU10
import Derived.Test.YtfhejejfeffdcaaDoorJi
namespace Go.Proofs.YtfhejejfeffdcaaDoor
open Go.RowKit

theorem fuV_side {X : Int} (m : Int) (h0 : X ≠ 0) : (0 < X → 0 ≤ place (fuV X m)) ∧ (X < 0 → place (fuV X m) ≤ 0) := by
  have nX := fuK_near h0
  have aX := fu_units h0
  refine ⟨fun h => ?_, fun h => ?_⟩
  · rw [fuV_pos m h, (place_rung (rg_le m aX nX)).1]; omega
  · rw [fuV_neg m h, (place_rung (rg_le (tmd m) aX nX)).2]; omega
/-- The place of an exact number rounded. -/
def plX (X m : Int) : Int := if X = 0 then 0 else place (fuV X m)
theorem plX_mono {X Y : Int} (m : Int) (h : X ≤ Y) : plX X m ≤ plX Y m := by
  unfold plX
  by_cases hX : X = 0
  · rw [if_pos hX]
    by_cases hY : Y = 0
    · rw [if_pos hY]; exact Int.le_refl _
    · rw [if_neg hY]; exact (fuV_side m hY).1 (by omega)
  · rw [if_neg hX]
    by_cases hY : Y = 0
    · rw [if_pos hY]; exact (fuV_side m hX).2 (by omega)
    · rw [if_neg hY]; exact fuV_mono m h hX hY
theorem rg_order {A k : Nat} : rgK A k 1 ≤ k ∧ k ≤ rgK A k 2 ∧ rgK A k 0 = k := by
  refine ⟨?_, ?_, rg_other (by decide) (by decide) (by decide)⟩
  · unfold rgK
    split
    · omega
    · rw [if_neg (fun c => absurd c.1 (by decide))]; exact Nat.le_refl _
  · unfold rgK
    rw [if_neg (fun c => absurd c.1 (by decide))]
    split
    · omega
    · exact Nat.le_refl _
theorem plX_order (X : Int) : plX X 1 ≤ plX X 0 ∧ plX X 0 ≤ plX X 2 := by
  unfold plX
  by_cases hX : X = 0
  · simp [hX]
  · simp only [if_neg hX]
    have nX := fuK_near hX
    have aX := fu_units hX
    obtain ⟨o1, o2, o3⟩ := rg_order (A := X.natAbs * 2 ^ puH) (k := fuK X)
    rcases Int.lt_or_le X 0 with c | c
    · rw [fuV_neg 1 c, fuV_neg 0 c, fuV_neg 2 c, show tmd 1 = 2 from rfl, show tmd 0 = 0 from rfl, show tmd 2 = 1 from rfl, (place_rung (rg_le 2 aX nX)).2, (place_rung (rg_le 0 aX nX)).2, (place_rung (rg_le 1 aX nX)).2]
      omega
    · rw [fuV_pos 1 (by omega), fuV_pos 0 (by omega), fuV_pos 2 (by omega), (place_rung (rg_le 2 aX nX)).1, (place_rung (rg_le 0 aX nX)).1, (place_rung (rg_le 1 aX nX)).1]
      omega
/-- Sums of finite floats: by places. -/
theorem add_place {a b : Nat} (m : Int) (ha : a < 18446744073709551616) (hb : b < 18446744073709551616) (fa : finB a = true) (fb : finB b = true) : place (addV a b m) = plX ((vI a + vI b) * 2 ^ twP) m := by
  unfold plX
  by_cases h0 : vI a + vI b = 0
  · rw [if_pos (by rw [h0, Int.zero_mul])]
    obtain ⟨e1, e2⟩ := add_nought m ha hb fa fb h0
    rw [e1]
    rcases noughtF_is m ha e2 with e | e
    · rw [Option.some.inj e]; decide
    · rw [Option.some.inj e]; decide
  · rw [if_neg (fun h => h0 (neg_pw.2.1 h)), add_fu m ha hb fa fb h0]
theorem add_grows {a b c : Nat} (m : Int) (ha : a < 18446744073709551616) (hb : b < 18446744073709551616) (hc : c < 18446744073709551616) (fa : finB a = true) (fb : finB b = true) (fc : finB c = true) (h : vI a ≤ vI b) : place (addV a c m) ≤ place (addV b c m) := by
  rw [add_place m ha hc fa fc, add_place m hb hc fb fc]
  exact plX_mono m (Int.mul_le_mul_of_nonneg_right (by omega) (Int.le_of_lt (pw_pos _)))
end Go.Proofs.YtfhejejfeffdcaaDoor
