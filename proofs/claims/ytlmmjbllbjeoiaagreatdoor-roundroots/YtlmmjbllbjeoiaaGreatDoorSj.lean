/- That RoundSums answers true (the library's table lying as its initialiser lays it). -/
import Derived.Test.YtlmmjbllbjeoiaaGreatDoorSi
import Derived.Test.YtlmmjbllbjeoiaaGreatDoorWj
namespace Go.Proofs.YtlmmjbllbjeoiaaGreatDoor
open Go.RowKit

theorem NR_same {o : Option Nat} {r s : Nat} (h : NR o r) (g : NR o s) : sameB r s = true := by
  unfold NR at h g
  cases o with
  | none => unfold sameB; rw [h.2, g.2]; rfl
  | some v => rw [h.2, g.2]; unfold sameB; cases hn : nanB v <;> simp
theorem NR_some {r s : Nat} (h : r < 18446744073709551616) (e : s = r) : NR (some r) s := ⟨by omega, e⟩
/-- Either way: told alike. -/
theorem radd_NR (a b : Nat) (m : Int) (ha : a < 18446744073709551616) (hb : b < 18446744073709551616) :
    ∃ o, (∀ w, Calls Tryz.prog 37 #[.float .f64 a, .float .f64 b, .int .i8 m] w fun e w' => ∃ r, e = .returned (.float .f64 r) ∧ NR o r ∧ Below w.heap.size w w') ∧
      (∀ w, Calls Tryz.prog 57 #[.float .f64 a, .float .f64 b, .int .i8 m] w fun e w' => ∃ r, e = .returned (.float .f64 r) ∧ NR o r ∧ Below w.heap.size w w') := by
  by_cases hf : finB a = true ∧ finB b = true
  · have hl := addV_lt m ha hb hf.1 hf.2
    refine ⟨some (addV a b m), fun w => (radd_gen a b m ha hb hf.1 hf.2 w).mono ?_, fun w => (dadd_gen a b m ha hb hf.1 hf.2 w).mono ?_⟩
    · rintro e w' ⟨rfl, rfl⟩; exact ⟨_, rfl, NR_some hl rfl, Below.refl _ _⟩
    · rintro e w' ⟨rfl, h⟩; exact ⟨_, rfl, NR_some hl rfl, h⟩
  · have hf' : finB a = false ∨ finB b = false := by
      cases h1 : finB a
      · exact Or.inl rfl
      · cases h2 : finB b
        · exact Or.inr rfl
        · exact absurd ⟨h1, h2⟩ hf
    refine ⟨floatBits .add .f64 a b, fun w => (radd_inf a b m ha hb hf' w).mono ?_, fun w => (dadd_inf a b m ha hb hf' w).mono ?_⟩
    · rintro e w' ⟨⟨r, rfl, hN⟩, h⟩; exact ⟨_, rfl, hN, h⟩
    · rintro e w' ⟨⟨r, rfl, hN⟩, h⟩; exact ⟨_, rfl, hN, h⟩
set_option maxHeartbeats 2000000 in
theorem sums_law (a b : Nat) (m : Int) (ha : a < 18446744073709551616) (hb : b < 18446744073709551616) (w : World) (hT : TabW w) :
    Calls Tryz.prog 22 #[.float .f64 a, .float .f64 b, .int .i8 m] w fun e w' => e = .returned (.bool true) ∧ Below w.heap.size w w' := by
  obtain ⟨o, p1, p2⟩ := radd_NR a b m ha hb
  obtain ⟨q, q1, q2⟩ := radd_NR a (negW b) m ha (negW_lt hb)
  have p3 := fun w => rsub_of a b m w (fun r w' => NR q r ∧ Below w.heap.size w w') (q1 w)
  have p4 := fun w => dsub_of a b m w (fun r w' => NR q r ∧ Below w.heap.size w w') (q2 w)
  go_enter Tryz.func22, Tryz.ntmps22
  go_wp2_with (first
    | (go_at_call 37; refine (p1 _).mono ?_; rintro e w1 ⟨r1, rfl, n1, b1⟩)
    | (go_at_call 57; refine (p2 _).mono ?_; rintro e w2 ⟨r2, rfl, n2, b2⟩)
    | (go_at_call 58; refine (p3 _).mono ?_; rintro e w3 ⟨r3, rfl, n3, b3⟩)
    | (go_at_call 59; refine (p4 _).mono ?_; rintro e w4 ⟨r4, rfl, n4, b4⟩)
    | (go_at_call_of 7 (Value.float FloatKind.f64 r1); refine (samef_any _ _ n1.1 n2.1 _).mono ?_; rw [NR_same n1 n2]; rintro e w' ⟨rfl, rfl⟩)
    | (go_at_call_of 7 (Value.float FloatKind.f64 r3); refine (samef_any _ _ n3.1 n4.1 _).mono ?_; rw [NR_same n3 n4]; rintro e w' ⟨rfl, rfl⟩)
    | (go_at_call 12; have B4 := ((b1.trans (b2.mono b1.size)).trans (b3.mono (b1.trans (b2.mono b1.size)).size)); have B5 := B4.trans (b4.mono B4.size); refine (rawake _ (tabW_below hT B5)).mono ?_; rintro e w5 ⟨rfl, b5⟩))
  go_ret
  exact ⟨rfl, B5.trans (b5.mono B5.size)⟩
end Go.Proofs.YtlmmjbllbjeoiaaGreatDoor
