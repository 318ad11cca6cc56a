/- Rounding a float to the nearest narrow float, of any size, in plain numbers; and the conversion, where it is not too great. -/
import Derived.Test.YtekejddblgkcgaaDoorZw
import Derived.Test.YtekejddblgkcgaaDoorXc
namespace Go.Proofs.YtekejddblgkcgaaDoor
open Go.RowKit

theorem s_word (s : Bool) (r : Nat) (hr : r ≤ 2139095040) : S.rung (Ieee.single.word s r) = r ∧ S.sgn (Ieee.single.word s r) = s ∧ Ieee.single.word s r < 4294967296 ∧ S.nanB (Ieee.single.word s r) = false := by
  have s1 : Ieee.single.signWeight = 2147483648 := by decide
  unfold Ieee.Format.word
  rw [s1]
  cases s
  · have e : S.rung r = r := by unfold S.rung; omega
    refine ⟨e, ?_, ?_, ?_⟩
    · unfold S.sgn; simp; omega
    · simp; omega
    · unfold S.nanB; simp [e]; omega
  · have e : S.rung (2147483648 + r) = r := by unfold S.rung; omega
    refine ⟨e, ?_, ?_, ?_⟩
    · unfold S.sgn; simp
    · simp; omega
    · unfold S.nanB; simp [e]; omega
/-- A conversion to a narrow float that is not too great. -/
theorem narrow_fit {P : Program} {src dst : TypeId} (hs : P.underlying src = some (.float .f64)) (hd : P.underlying dst = some (.float .f32)) {x : Nat} (hx : x < 18446744073709551616) (hf : finB x = true) (h0 : rung x ≠ 0) (hn : nwr (rung x) < 2139095040) (w : World) : (convert src dst (.float .f64 x)).run P w = .ok (.float .f32 (Ieee.single.word (sgn x) (nwr (rung x)))) w := by
  rw [conv_def .f32 x hs hd]
  obtain ⟨g1, g2, g3, g4⟩ := s_word (sgn x) (nwr (rung x)) (by omega)
  have gf : S.finB (Ieee.single.word (sgn x) (nwr (rung x))) = true := by unfold S.finB; rw [g1]; simpa using hn
  unfold Conv.floatToFloat
  rw [if_neg (by decide)]
  show (match Ieee.double.read x with | .nan _ _ => _ | .infinity s => _ | .number s m e => _ : Sem Value).run P w = _
  rw [read_fin hx hf]
  show (if (Ieee.single.read (Ieee.single.nearest _ _ _)).isInfinity = true then _ else _ : Sem Value).run P w = _
  rw [near_nwr _ h0, s_read_fin g3 gf, if_neg (by simp [Ieee.Datum.isInfinity])]
  show (pure (Value.float .f32 (Ieee.single.nearest _ _ _)) : Sem Value).run P w = _
  rw [near_nwr _ h0]
  rfl
/-- The nearest narrow float of a float that is no NaN. -/
def nrW (x : Nat) : Nat := Ieee.single.word (sgn x) (if rung x = 0 then 0 else if finB x then nwr (rung x) else 2139095040)
theorem nrW_size (x : Nat) : (if rung x = 0 then 0 else if finB x then nwr (rung x) else 2139095040) ≤ 2139095040 := by
  have : nwr (rung x) ≤ 2139095040 := by unfold nwr; omega
  (repeat' split) <;> omega
theorem nrW_ok (x : Nat) : S.nanB (nrW x) = false ∧ nrW x < 4294967296 := by
  obtain ⟨_, _, h3, h4⟩ := s_word (sgn x) _ (nrW_size x)
  exact ⟨h4, h3⟩
theorem tg_great {R : Nat} (h : 5183643170835005440 ≤ R) : nwr R = 2139095040 := by
  have h1 : nwr 5183643170835005440 = 2139095040 := by kernel_rfl
  have h2 := nwr_mono (R := 5183643170835005440) (by omega) h
  have h3 : nwr R ≤ 2139095040 := by unfold nwr; omega
  omega
theorem tg_less {R : Nat} (h0 : R ≠ 0) (h : R < 5183643170835005440) : nwr R < 2139095040 := by
  have h1 : nwr 5183643170835005439 = 2139095039 := by kernel_rfl
  have h2 := nwr_mono (Q := 5183643170835005439) h0 (by omega)
  omega
theorem nrW_great {x : Nat} (h : 5183643170835005440 ≤ rung x) : nrW x = Ieee.single.word (sgn x) 2139095040 := by
  unfold nrW
  rw [if_neg (by omega), tg_great h]
  split <;> rfl
theorem nrW_bk {b : Nat} (hb : b < 4294967296) (hn : S.nanB b = false) : nrW (bk b) = b := by
  obtain ⟨h1, h2, h3, _⟩ := bk_parts hn
  have hof := s_rung_of b hb
  have s1 : Ieee.single.signWeight = 2147483648 := by decide
  have hw : ∀ r, r = S.rung b → Ieee.single.word (S.sgn b) r = b := by
    intro r hr
    unfold Ieee.Format.word
    rw [s1, hr]
    cases hs : S.sgn b <;> rw [hs] at hof <;> simp at hof ⊢ <;> omega
  by_cases h0 : S.rung b = 0
  · unfold nrW
    rw [h1, h2, h0, wr_zero, if_pos rfl]
    exact hw 0 h0.symm
  · by_cases hf : S.finB b = true
    · have hf' : finB (bk b) = true := by rw [bk_fin hn]; exact hf
      have h0' : rung (bk b) ≠ 0 := by
        intro e
        rw [h1] at e
        exact h0 (by have := wr_lt_iff (r := 0) (q := S.rung b) (by omega) (s_nan_le hn); rw [wr_zero, e] at this; omega)
      have e1 := near_nwr (sgn (bk b)) h0'
      rw [narrow_bk hb hf] at e1
      unfold nrW
      rw [if_neg h0', if_pos hf']
      exact e1.symm
    · have hi : S.rung b = 2139095040 := by
        have := s_nan_le hn
        unfold S.finB at hf
        simp at hf
        omega
      have hf' : finB (bk b) = false := by rw [bk_fin hn]; simpa using hf
      unfold nrW
      rw [h1, h2]
      have : wr (S.rung b) = 9218868437227405312 := by rw [hi]; unfold wr; rw [if_pos rfl]
      rw [this, if_neg (by omega), hf', if_neg (by simp)]
      exact hw _ hi.symm
end Go.Proofs.YtekejddblgkcgaaDoor
