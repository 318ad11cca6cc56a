/- The document's To of any float; NarrowTo, whatever float and way it is given: the walk. -/
import Derived.Test.YtekejddblgkcgaaDoorTo3
import Derived.Test.YtekejddblgkcgaaDoorVt
import Derived.Test.YtekejddblgkcgaaDoorVn
namespace Go.Proofs.YtekejddblgkcgaaDoor
open Go.RowKit

set_option maxHeartbeats 1000000 in
theorem rto_num (x : Nat) (m : Int) (hx : x < 18446744073709551616) (nx : nanB x = false) (w : World) :
    Calls Tryd.prog 6 #[.float .f64 x, .int .i8 m] w fun e w' => e = .returned (.float .f32 (toS x m)) ∧ Below w.heap.size w w' := by
  have hr : rung x ≤ 9218868437227405312 := by unfold nanB at nx; simpa using nx
  by_cases h0 : rung x = 0
  · have hT : toS x m = Ieee.single.word (sgn x) 0 := by unfold toS; rw [if_pos h0]
    obtain ⟨_, _, g3, g4⟩ := s_word (sgn x) 0 (by omega)
    have hc := narrow_num Tryd.underlying22 Tryd.underlying25 g3 g4
    rw [← conv_zero hx h0, ← hT] at hc
    have q0 : (FloatKind.f64.format.order x 0 == some .eq) = true := by
      rw [eq_num hx (by omega) nx (by decide), decide_eq_true_iff]
      unfold place
      rw [show sgn 0 = false from rfl, show rung 0 = 0 from rfl, h0]
      split <;> rfl
    have hf : finB x = true := by unfold finB; rw [h0]; rfl
    clear hT g3 g4 h0
    go_enter Tryd.func6, Tryd.ntmps6
    go_wp2_with (first | (go_at_call 26; refine (rfinite_any _ (by assumption) _).mono ?_; rintro e w' ⟨rfl, rfl⟩))
    go_ret
    exact ⟨rfl, Below.refl _ _⟩
  · by_cases hf : finB x = true
    · exact rto_fin x m hx hf h0 w
    · have hf' : finB x = false := by simpa using hf
      have hi : rung x = 9218868437227405312 := by unfold finB at hf; simp at hf; omega
      have hT : toS x m = Ieee.single.word (sgn x) 2139095040 := by unfold toS; rw [if_neg h0, if_neg hf]
      have hc := conv_top Tryd.underlying22 Tryd.underlying25 (sgn x)
      rw [← hT, ← hi, ← word_of hx] at hc
      clear hT hi h0 hf
      go_enter Tryd.func6, Tryd.ntmps6
      go_wp2_with (first | (go_at_call 26; refine (rfinite_any _ (by assumption) _).mono ?_; rintro e w' ⟨rfl, rfl⟩))
      go_ret
      exact ⟨rfl, Below.refl _ _⟩
set_option maxHeartbeats 1000000 in
theorem rto_nan (x : Nat) (m : Int) (hx : x < 18446744073709551616) (nx : nanB x = true) (w : World) :
    Calls Tryd.prog 6 #[.float .f64 x, .int .i8 m] w fun e w' => ∃ n, e = .returned (.float .f32 n) ∧ S.nanB n = true ∧ n < 4294967296 ∧ Below w.heap.size w w' := by
  have hf : finB x = false := by unfold finB; unfold nanB at nx; simp at nx ⊢; omega
  have hc := narrow_nan Tryd.underlying22 Tryd.underlying25 hx nx
  go_enter Tryd.func6, Tryd.ntmps6
  go_wp2_with (first | (go_at_call 26; refine (rfinite_any _ (by assumption) _).mono ?_; rintro e w' ⟨rfl, rfl⟩))
  go_ret
  exact ⟨_, rfl, (nsW_nan _ _).1, (nsW_nan _ _).2, (Below.refl _ _).drew⟩
/-- What the document's To answers, whatever float it is given. -/
theorem rto_any (x : Nat) (m : Int) (hx : x < 18446744073709551616) (w : World) :
    Calls Tryd.prog 6 #[.float .f64 x, .int .i8 m] w fun e w' => ∃ n, e = .returned (.float .f32 n) ∧ ToR x m n ∧ Below w.heap.size w w' := by
  cases nx : nanB x
  · exact (rto_num x m hx nx w).mono fun e w' h => by
      obtain ⟨rfl, hb⟩ := h
      exact ⟨_, rfl, ⟨(toS_ok x m).2.1, by rw [nx]; exact (toS_ok x m).1, fun _ => rfl⟩, hb⟩
  · exact (rto_nan x m hx nx w).mono fun e w' h => by
      obtain ⟨n, rfl, h1, h2, h3⟩ := h
      exact ⟨_, rfl, ⟨h2, by rw [nx]; exact h1, fun h => by rw [nx] at h; cases h⟩, h3⟩
theorem sSame_me (a : Nat) : sSame a a = true := by unfold sSame; simp
theorem sameB_my (a : Nat) : sameB a a = true := by unfold sameB; cases nanB a <;> simp
set_option maxHeartbeats 2000000 in
theorem law_to_num (x : Nat) (m : Int) (hx : x < 18446744073709551616) (nx : nanB x = false) (w : World) :
    Calls Tryd.prog 3 #[.float .f64 x, .int .i8 m] w fun e w' => e = .returned (.bool true) ∧ Below w.heap.size w w' := by
  obtain ⟨t1, t2, _⟩ := toS_ok x m
  obtain ⟨z1, z2, _⟩ := toS_ok x 0
  have A := fun w => n_to_all x m hx nx w
  have R0 := fun w => rto_num x 0 hx nx w
  have R := fun w => rto_num x m hx nx w
  have FT := fun w => n_fits_any x hx nx w
  have B := fun w => n_back_any _ t2 t1 w
  have hc1 := wide_num Tryd.underlying25 Tryd.underlying22 t2 t1
  have hc0 := wide_num Tryd.underlying25 Tryd.underlying22 z2 z1
  have b1 := (bk_parts t1).2.2.1
  have b0 := (bk_parts z1).2.2.1
  have S1 := fun w => l_bits_any _ _ t2 t2 w
  rw [sSame_me] at S1
  have S2 := fun w => samef_any _ _ b1 b1 w
  rw [sameB_my] at S2
  have S3 := fun w => samef_any _ _ b0 hx w
  generalize sameB (bk (toS x 0)) x = fb at *
  generalize bk (toS x m) = c1 at *
  generalize bk (toS x 0) = c0 at *
  generalize toS x m = T at *
  generalize toS x 0 = Z at *
  clear t1 t2 z1 z2 b1 b0
  go_enter Tryd.func3, Tryd.ntmps3
  go_wp2_with (first
    | (go_at_call 5; refine (A _).mono ?_; rintro e w' ⟨rfl, rfl⟩)
    | (go_at_call_of 6 (Value.int IntKind.i8 0); refine (R0 _).mono ?_; rintro e w1 ⟨rfl, q1⟩)
    | (go_at_call_of 6 (Value.int IntKind.i8 m); refine (R _).mono ?_; rintro e w2 ⟨rfl, q2⟩)
    | (go_at_call 7; refine (S1 _).mono ?_; rintro e w' ⟨rfl, rfl⟩)
    | (go_at_call 9; refine (B _).mono ?_; rintro e w' ⟨rfl, rfl⟩)
    | (go_at_call_of 8 (Value.float FloatKind.f64 c1); refine (S2 _).mono ?_; rintro e w' ⟨rfl, rfl⟩)
    | (go_at_call_of 8 (Value.float FloatKind.f64 x); refine (S3 _).mono ?_; rintro e w' ⟨rfl, rfl⟩)
    | (go_at_call 10; refine (FT _).mono ?_; rintro e w' ⟨rfl, rfl⟩)
    | (go_at_call 11; refine (n_awake _).mono ?_; rintro e w' ⟨rfl, rfl⟩))
  go_ret
  exact ⟨rfl, q1.trans (q2.mono q1.size)⟩
theorem nan_same {a b : Nat} (h : nanB a = true) (g : nanB b = true) : sameB a b = true := by unfold sameB; rw [h, g]; rfl
theorem s_nan_same {a b : Nat} (h : S.nanB a = true) (g : S.nanB b = true) : sSame a b = true := by unfold sSame; rw [h, g]; rfl
set_option maxHeartbeats 2000000 in
theorem law_to_nan (x : Nat) (m : Int) (hx : x < 18446744073709551616) (nx : nanB x = true) (w : World) :
    Calls Tryd.prog 3 #[.float .f64 x, .int .i8 m] w fun e w' => e = .returned (.bool true) ∧ Below w.heap.size w w' := by
  have WN := fun (b : Nat) (hb : b < 4294967296) (hn : S.nanB b = true) => wide_nan Tryd.underlying25 Tryd.underlying22 hb hn
  have R0 := fun w => rto_nan x 0 hx nx w
  have R := fun w => rto_nan x m hx nx w
  go_enter Tryd.func3, Tryd.ntmps3
  go_wp2_with (first
    | (go_at_call 5; refine (n_to_nan x m hx nx _).mono ?_; rintro e w0 ⟨f, rfl, f1, f2, q0⟩; have cf := WN f f2 f1)
    | (go_at_call_of 6 (Value.int IntKind.i8 0); refine (R0 _).mono ?_; rintro e w1 ⟨z, rfl, z1, z2, q1⟩; have cz := WN z z2 z1)
    | (go_at_call_of 6 (Value.int IntKind.i8 m); refine (R _).mono ?_; rintro e w2 ⟨g, rfl, g1, g2, q2⟩)
    | (go_at_call 7; refine (l_bits_any _ _ f2 g2 _).mono ?_; rw [s_nan_same f1 g1]; rintro e w3 ⟨rfl, rfl⟩)
    | (go_at_call 9; refine (n_back_nan _ f2 f1 _).mono ?_; rintro e w4 ⟨c, rfl, c1, c2, rfl⟩)
    | (go_at_call_of 8 (Value.float FloatKind.f64 c); refine (samef_any _ _ c2 (ncW_nan _ _).2 _).mono ?_; rw [nan_same c1 (ncW_nan _ _).1]; rintro e w5 ⟨rfl, rfl⟩)
    | (go_at_call_of 8 (Value.float FloatKind.f64 x); refine (samef_any _ _ (ncW_nan _ _).2 hx _).mono ?_; rw [nan_same (ncW_nan _ _).1 nx]; rintro e w6 ⟨rfl, rfl⟩)
    | (go_at_call 10; refine (n_fits_nan x hx nx _).mono ?_; rintro e w7 ⟨rfl, q7⟩)
    | (go_at_call 11; refine (n_awake _).mono ?_; rintro e w8 ⟨rfl, rfl⟩))
  go_ret
  have d0 := q0.trans (q1.mono q0.size)
  have d1 := (d0.trans (q2.mono d0.size)).drew.drew
  exact ⟨rfl, (d1.trans (q7.mono d1.size)).drew⟩
theorem law_to (x : Nat) (m : Int) (hx : x < 18446744073709551616) (w : World) (_hT : TabW w) :
    Calls Tryd.prog 3 #[.float .f64 x, .int .i8 m] w fun e w' => e = .returned (.bool true) ∧ Below w.heap.size w w' := by
  cases nx : nanB x
  · exact law_to_num x m hx nx w
  · exact law_to_nan x m hx nx w
end Go.Proofs.YtekejddblgkcgaaDoor
