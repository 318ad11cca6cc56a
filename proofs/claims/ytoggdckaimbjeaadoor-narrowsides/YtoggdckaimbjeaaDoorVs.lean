/- NarrowSides in plain numbers: of a float's size the narrow sizes about it; differences rounded keep their order. -/
import Derived.Test.YtoggdckaimbjeaaDoorVa
import Derived.Test.YtoggdckaimbjeaaDoorZw
import Derived.Test.YtoggdckaimbjeaaDoorSy
namespace Go.Proofs.YtoggdckaimbjeaaDoor
open Go.RowKit

theorem wr_val {r : Nat} (h : r < 2139095040) : wr r = wd r ∧ val (wr r) = S.val r * 2 ^ gapS := by
  have e : wr r = wd r := by unfold wr; rw [if_neg (by omega)]
  rw [e]; exact ⟨rfl, wd_val r⟩
/-- The narrow sizes about a float's: one alone, or two next to each other. -/
theorem sides_of {R : Nat} (h0 : R ≠ 0) (hR : R < 9218868437227405312) :
    (zS R = aS R ∧ wr (zS R) = R ∧ nwr R = zS R) ∨ (aS R = zS R + 1 ∧ wr (zS R) < R ∧ R < wr (aS R) ∧ (nwr R = zS R ∨ nwr R = aS R)) := by
  obtain ⟨b1, b2⟩ := flr_between h0
  have hz : wr 2139095040 = 9218868437227405312 := by unfold wr; rw [if_pos rfl]
  have hm : ∀ {r : Nat}, r < 2139095040 → (wr r < R ↔ S.val r * 2 ^ gapS < val R) := fun {r} h => by
    rw [← val_lt_iff, (wr_val h).2]
  have hl : ∀ {r : Nat}, r < 2139095040 → (R < wr r ↔ val R < S.val r * 2 ^ gapS) := fun {r} h => by
    rw [← val_lt_iff, (wr_val h).2]
  have hmor := mor_ex h0
  by_cases he : exS R = true ∧ flr R < 2139095040
  · left
    have e1 : S.val (flr R) * 2 ^ gapS = val R := by have := he.1; unfold exS at this; simpa using this
    have z1 : zS R = flr R := by unfold zS; omega
    have a1 : aS R = flr R := by unfold aS; rw [if_pos he.1]; omega
    have m1 : mor R = false := by cases hq : mor R; · rfl
                                  · have := hmor hq; rw [he.1] at this; cases this
    have n1 : nwr R = flr R := by unfold nwr; rw [m1]; simp; omega
    refine ⟨by omega, ?_, by omega⟩
    rw [z1]
    have h1 := hm he.2
    have h2 := hl he.2
    omega
  · right
    by_cases hf : flr R < 2139095040
    · have hx : exS R = false := by cases hq : exS R; · rfl
                                    · exact absurd ⟨hq, hf⟩ he
      have e1 : ¬ S.val (flr R) * 2 ^ gapS = val R := by unfold exS at hx; simpa using hx
      have z1 : zS R = flr R := by unfold zS; omega
      have a1 : aS R = flr R + 1 := by unfold aS; rw [hx]; simp; omega
      have n1 : nwr R = flr R ∨ nwr R = flr R + 1 := by unfold nwr; cases mor R <;> simp <;> omega
      refine ⟨by omega, ?_, ?_, by omega⟩
      · rw [z1, hm hf]; omega
      · rw [a1]
        by_cases ht : flr R + 1 = 2139095040
        · rw [ht, hz]; exact hR
        · rw [hl (by omega)]; exact b2
    · have z1 : zS R = 2139095039 := by unfold zS; omega
      have a1 : aS R = 2139095040 := by unfold aS; split <;> omega
      have n1 : nwr R = 2139095040 := by unfold nwr; omega
      refine ⟨by omega, ?_, by rw [a1, hz]; exact hR, by omega⟩
      rw [z1, hm (by omega)]
      have h1 : S.val 2139095039 < S.val (flr R) := S.val_lt (by omega)
      exact Nat.lt_of_lt_of_le (Nat.mul_lt_mul_of_pos_right h1 (Nat.two_pow_pos _)) b1
/-- Where the nearer one is the lesser one, it is so exactly. -/
theorem near_less {R : Nat} (h0 : R ≠ 0) (ha : aS R = zS R + 1) (hl : aS R < 2139095040) :
    (nwr R = zS R → 2 * val R ≤ val (wr (zS R)) + val (wr (aS R))) ∧ (nwr R = aS R → val (wr (zS R)) + val (wr (aS R)) ≤ 2 * val R) := by
  have hz : zS R = flr R := by
    have h1 : flr R < 2139095039 := by
      rcases Nat.lt_or_ge (flr R) 2139095039 with h | h
      · exact h
      · have : aS R = 2139095040 := by
          have hz : zS R = 2139095039 := by unfold zS; omega
          omega
        omega
    unfold zS; omega
  have m := mor_mid h0
  rw [hz] at ha
  rw [ha, hz, (wr_val (show flr R < 2139095040 by omega)).2, (wr_val (show flr R + 1 < 2139095040 by omega)).2, ← Nat.add_mul]
  have n1 : nwr R = flr R + (mor R).toNat := by
    unfold nwr; cases mor R <;> simp <;> omega
  rw [n1]
  cases hq : mor R <;> rw [hq] at m
  · simp at m
    refine ⟨fun _ => by omega, fun h => by simp at h⟩
  · refine ⟨fun h => by simp at h, fun _ => ?_⟩
    have := m.symm
    simp at this
    omega
/-- A difference of floats above 0, rounded. -/
theorem sub_round {u v d : Nat} (hu : u < 18446744073709551616) (hv : v < 18446744073709551616) (fu : finB u = true) (fv : finB v = true) (hd : 0 < d)
    (h : (if sgn u then -(val (rung u) : Int) else (val (rung u) : Int)) - (if sgn v then -(val (rung v) : Int) else (val (rung v) : Int)) = (d : Int)) :
    ∃ k, floatBits .sub .f64 u v = some k ∧ k ≤ 9218868437227405312 ∧ ∀ r, r < 9218868437227405312 → (r < k ↔ aboveD 0 d r) := by
  rw [(fbits_map u v).2.1, read_fin hu fu, read_fin hv fv]
  simp only [Ieee.Datum.opposite]
  rw [sum_val]
  simp only [Option.map_some, Ieee.Format.write]
  have hT : (Ieee.signed (sgn u) (mg (rung u)) (up (rung u) - min (up (rung u)) (up (rung v))) + Ieee.signed (!sgn v) (mg (rung v)) (up (rung v) - min (up (rung u)) (up (rung v)))) * (2 ^ min (up (rung u)) (up (rung v)) : Nat) = (d : Int) := by
    rw [Int.add_mul, signed_mul, signed_mul, Nat.sub_add_cancel (Nat.min_le_left _ _), Nat.sub_add_cancel (Nat.min_le_right _ _), mg_up, mg_up, ← h]
    cases sgn u <;> cases sgn v <;> simp <;> omega
  generalize Ieee.signed (sgn u) (mg (rung u)) (up (rung u) - min (up (rung u)) (up (rung v))) + Ieee.signed (!sgn v) (mg (rung v)) (up (rung v) - min (up (rung u)) (up (rung v))) = T at hT
  have hp : (0 : Int) < (2 ^ min (up (rung u)) (up (rung v)) : Nat) := by exact_mod_cast Nat.two_pow_pos _
  have T0 : 0 < T := by
    rcases Int.lt_or_le 0 T with h1 | h1
    · exact h1
    · exfalso
      have := Int.mul_nonpos_of_nonpos_of_nonneg h1 (Int.le_of_lt hp)
      omega
  have hn : (if T = 0 then sgn u && !sgn v else decide (T < 0)) = false := by rw [if_neg (by omega)]; exact decide_eq_false (by omega)
  rw [hn]
  obtain ⟨k, e, hk, c⟩ := near_anyD false (-1074 + ((min (up (rung u)) (up (rung v)) : Nat) : Int)) 0 (m := T.natAbs) (by omega) (by omega)
  refine ⟨k, by rw [e, word_pos], hk, ?_⟩
  have hA : T.natAbs * 2 ^ (-1074 + ((min (up (rung u)) (up (rung v)) : Nat) : Int) + 1074 + ((0 : Nat) : Int)).toNat = d := by
    rw [show (-1074 + ((min (up (rung u)) (up (rung v)) : Nat) : Int) + 1074 + ((0 : Nat) : Int)).toNat = min (up (rung u)) (up (rung v)) by omega]
    have : ((T.natAbs * 2 ^ min (up (rung u)) (up (rung v)) : Nat) : Int) = (d : Int) := by
      rw [Int.natCast_mul, Int.natAbs_of_nonneg (by omega)]; exact hT
    exact_mod_cast this
  rw [hA] at c
  exact c
theorem round_mono {d e k l : Nat} (hde : d ≤ e) (hk : k ≤ 9218868437227405312) (c : ∀ r, r < 9218868437227405312 → (r < k ↔ aboveD 0 d r)) (c' : ∀ r, r < 9218868437227405312 → (r < l ↔ aboveD 0 e r)) : k ≤ l := by
  rcases Nat.lt_or_ge l k with h | h
  · exfalso
    have h1 := (c l (by omega)).1 h
    have h2 : aboveD 0 e l := by
      unfold aboveD at *
      rcases h1 with h1 | ⟨h1, h3⟩
      · left; omega
      · rcases Nat.lt_or_ge d e with h4 | h4
        · left; omega
        · right; exact ⟨by omega, h3⟩
    have := (c' l (by omega)).2 h2
    omega
  · exact h
end Go.Proofs.YtoggdckaimbjeaaDoor
