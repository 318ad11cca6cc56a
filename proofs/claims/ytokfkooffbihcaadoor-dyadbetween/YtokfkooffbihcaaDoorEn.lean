/- That DyadFloats answers true, whatever float, whatever way of rounding (the library's table lying as its initialiser lays it). -/
import Derived.Test.YtokfkooffbihcaaDoorEm
namespace Go.Proofs.YtokfkooffbihcaaDoor
open Go.RowKit

theorem of_nought {a : Nat} (hf : finB a = true) (h0 : rung a = 0) : ofD a = (dy0, 0) := by
  have e1 : spF a = 0 := by unfold spF; rw [if_pos h0]
  unfold ofD; rw [if_neg (by rw [hf]; simp), if_pos e1]
theorem of_some {a : Nat} (hf : finB a = true) (h0 : rung a ≠ 0) : ofD a = (⟨sgn a, [spF a], spE a⟩, 0) := by
  have h1 := (sp_bd hf h0).1
  unfold ofD; rw [if_neg (by rw [hf]; simp), if_neg h1]
theorem of_right {a : Nat} (hf : finB a = true) (h0 : rung a ≠ 0) : rightB ⟨sgn a, [spF a], spE a⟩ = true := by
  obtain ⟨b1, b2, b3, b4, b5, b6⟩ := sp_bd hf h0
  have p2 := (sp_parts h0).2.1
  exact right_of (by simp) ⟨by simp, by simpa using p2, by simpa using b1, by simp only; omega, by simp only; omega⟩
theorem of_round {a : Nat} (ha : a < 18446744073709551616) (hf : finB a = true) (h0 : rung a ≠ 0) (m : Int) : rndW ⟨sgn a, [spF a], spE a⟩ m = a := by
  have e : vl [spF a] = spF a := by simp [vl]
  have hw := rung_of a ha
  unfold rndW
  rw [if_neg (by simp)]
  simp only [e, rSz_self hf h0]
  exact hw.symm
theorem of_fits {a : Nat} (hf : finB a = true) (h0 : rung a ≠ 0) : fitB ⟨sgn a, [spF a], spE a⟩ = true := by
  unfold fitB
  rw [of_right hf h0]
  have : lmb [spF a] 0 = spF a := rfl
  simp only [this, (sp_join hf h0).2]
  rfl
theorem nan_zero' : nanB 0 = false := by decide
theorem place_zero' : place 0 = 0 := by decide
theorem ord_nought {a : Nat} (ha : a < 18446744073709551616) (hf : finB a = true) (h0 : rung a = 0) : (FloatKind.f64.format.order a 0 == some .eq) = true ∧ (FloatKind.f64.format.order a 0 == some .gt) = false ∧ (FloatKind.f64.format.order a 0 == some .lt) = false := by
  have na := finB_nan hf
  have hp : place a = 0 := by unfold place; rw [h0]; split <;> rfl
  have e := ord_eq ha (show 0 < 18446744073709551616 by omega) na nan_zero' (by rw [place_zero']; exact hp)
  rw [e]; exact ⟨rfl, rfl, rfl⟩
theorem ord_some {a : Nat} (ha : a < 18446744073709551616) (hf : finB a = true) (h0 : rung a ≠ 0) : (FloatKind.f64.format.order a 0 == some .eq) = false ∧ (FloatKind.f64.format.order a 0 == some .gt) = (!sgn a) ∧ (FloatKind.f64.format.order a 0 == some .lt) = sgn a := by
  have na := finB_nan hf
  cases hs : sgn a
  · have hp : 0 < place a := by unfold place; rw [hs]; simp; omega
    have e := ord_gt ha (show 0 < 18446744073709551616 by omega) na nan_zero' (by rw [place_zero']; exact hp)
    rw [e]; exact ⟨rfl, rfl, rfl⟩
  · have hp : place a < 0 := by unfold place; rw [hs]; simp; omega
    have e := ord_lt ha (show 0 < 18446744073709551616 by omega) na nan_zero' (by rw [place_zero']; exact hp)
    rw [e]; exact ⟨rfl, rfl, rfl⟩
end Go.Proofs.YtokfkooffbihcaaDoor
