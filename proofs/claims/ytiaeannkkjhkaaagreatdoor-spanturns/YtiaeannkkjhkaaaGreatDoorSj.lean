/- That RoundSums answers true (the library's table lying as its initialiser lays it). -/
import Derived.Test.YtiaeannkkjhkaaaGreatDoorSi
import Derived.Test.YtiaeannkkjhkaaaGreatDoorWj
namespace Go.Proofs.YtiaeannkkjhkaaaGreatDoor
open Go.RowKit

theorem NR_same {o : Option Nat} {r s : Nat} (h : NR o r) (g : NR o s) : sameB r s = true := by
  unfold NR at h g
  cases o with
  | none => unfold sameB; rw [h.2, g.2]; rfl
  | some v => rw [h.2, g.2]; unfold sameB; cases hn : nanB v <;> simp
theorem NR_some {r s : Nat} (h : r < 18446744073709551616) (e : s = r) : NR (some r) s := ⟨by omega, e⟩
/-- Either way: told alike. -/
theorem radd_NR (a b : Nat) (m : Int) (ha : a < 18446744073709551616) (hb : b < 18446744073709551616) :
    ∃ o, (∀ w, Calls Tryz.prog 77 #[.float .f64 a, .float .f64 b, .int .i8 m] w fun e w' => ∃ r, e = .returned (.float .f64 r) ∧ NR o r ∧ Below w.heap.size w w') ∧
      (∀ w, Calls Tryz.prog 45 #[.float .f64 a, .float .f64 b, .int .i8 m] w fun e w' => ∃ r, e = .returned (.float .f64 r) ∧ NR o r ∧ Below w.heap.size w w') := by
  by_cases hf : finB a = true ∧ finB b = true
  · have hl := addV_lt m ha hb hf.1 hf.2
    refine ⟨some (addV a b m), fun w => (radd_gen a b m ha hb hf.1 hf.2 w).mono ?_, fun w => (dadd_gen a b m ha hb hf.1 hf.2 w).mono ?_⟩
    · rintro e w' ⟨rfl, rfl⟩; exact ⟨_, rfl, NR_some hl rfl, Below.refl _ _⟩
    · rintro e w' ⟨rfl, h⟩; exact ⟨_, rfl, NR_some hl rfl, h⟩
  · have hf' : finB a = false ∨ finB b = false := by
      cases h1 : finB a
      · exact Or.inl rfl
      · cases h2 : finB b
        · exact Or.inr rfl
        · exact absurd ⟨h1, h2⟩ hf
    refine ⟨floatBits .add .f64 a b, fun w => (radd_inf a b m ha hb hf' w).mono ?_, fun w => (dadd_inf a b m ha hb hf' w).mono ?_⟩
    · rintro e w' ⟨⟨r, rfl, hN⟩, h⟩; exact ⟨_, rfl, hN, h⟩
    · rintro e w' ⟨⟨r, rfl, hN⟩, h⟩; exact ⟨_, rfl, hN, h⟩
end Go.Proofs.YtiaeannkkjhkaaaGreatDoor
