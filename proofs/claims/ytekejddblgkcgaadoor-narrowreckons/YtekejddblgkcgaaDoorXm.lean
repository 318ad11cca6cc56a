/- What To tells of a float that is not nought, by each way, in plain numbers: the narrow rung at or below its size, the one at or above it, the nearest one; and that none falls as the size rises. -/
import Derived.Test.YtekejddblgkcgaaDoorZw
import Derived.Test.YtekejddblgkcgaaDoorXf
namespace Go.Proofs.YtekejddblgkcgaaDoor
open Go.RowKit

/-- Towards nought; away from it. -/
def zS (R : Nat) : Nat := min (flr R) 2139095039
def exS (R : Nat) : Bool := decide (S.val (flr R) * 2 ^ gapS = val R)
def aS (R : Nat) : Nat := min (if exS R then flr R else flr R + 1) 2139095040
theorem wr_cmp {r R : Nat} (hr : r ≤ 2139095040) (hR : R < 9218868437227405312) : (wr r < R ↔ r < 2139095040 ∧ S.val r * 2 ^ gapS < val R) ∧ (R < wr r ↔ r = 2139095040 ∨ val R < S.val r * 2 ^ gapS) := by
  unfold wr
  by_cases e : r = 2139095040
  · rw [if_pos e]
    constructor
    · constructor
      · intro h; omega
      · intro h; omega
    · constructor
      · intro _; exact Or.inl e
      · intro _; omega
  · rw [if_neg e]
    have v1 := val_lt_iff (wd r) R
    have v2 := val_lt_iff R (wd r)
    rw [wd_val] at v1 v2
    generalize S.val r * 2 ^ gapS = t at *
    exact ⟨⟨fun h => ⟨by omega, v1.2 h⟩, fun h => v1.1 h.2⟩, ⟨fun h => Or.inr (v2.2 h), fun h => h.elim (fun h => absurd h e) v2.1⟩⟩
theorem mor_ex {R : Nat} (h0 : R ≠ 0) (h : mor R = true) : exS R = false := by
  obtain ⟨a, b⟩ := flr_between h0
  have m := mor_mid h0
  rw [h] at m
  unfold exS
  rw [decide_eq_false_iff_not]
  intro he
  rw [Nat.add_mul] at m
  generalize S.val (flr R + 1) * 2 ^ gapS = t at *
  generalize S.val (flr R) * 2 ^ gapS = u at *
  have c1 : ¬ u + t < 2 * val R := by omega
  have c2 : ¬ u + t = 2 * val R := by omega
  simp [c1, c2] at m
/-- From the nearest: is it above the size? below it? -/
theorem near_side {R : Nat} (h0 : R ≠ 0) (hR : R < 9218868437227405312) :
    (R < wr (nwr R) → nwr R - 1 = zS R ∧ nwr R ≠ 0 ∧ nwr R = aS R) ∧ (wr (nwr R) < R → nwr R + 1 = aS R ∧ nwr R < 2139095040 ∧ nwr R = zS R) ∧ (¬ R < wr (nwr R) → ¬ wr (nwr R) < R → nwr R = zS R ∧ nwr R = aS R) := by
  obtain ⟨a, b⟩ := flr_between h0
  have hn : nwr R = min (flr R + (mor R).toNat) 2139095040 := rfl
  have hle : nwr R ≤ 2139095040 := by omega
  obtain ⟨w1, w2⟩ := wr_cmp hle hR
  have hm := mor_ex h0
  rw [w1, w2]
  unfold zS aS
  by_cases hbig : 2139095040 ≤ flr R
  · have e : nwr R = 2139095040 := by omega
    have e2 : min (if exS R = true then flr R else flr R + 1) 2139095040 = 2139095040 := by split <;> omega
    rw [e, e2]
    refine ⟨fun _ => ⟨by omega, by omega, rfl⟩, fun h => by omega, fun h => absurd (Or.inl rfl) h⟩
  · cases hmo : mor R
    · rw [hmo] at hn
      have e : nwr R = flr R := by simp at hn; omega
      rw [e]
      have nb : ¬ val R < S.val (flr R) * 2 ^ gapS := by omega
      cases hx : exS R
      · have hx' : ¬ S.val (flr R) * 2 ^ gapS = val R := by unfold exS at hx; simpa using hx
        refine ⟨fun h => by rcases h with h | h <;> omega, fun _ => ⟨by simp; omega, by omega, by omega⟩, fun _ h => absurd ⟨by omega, by omega⟩ h⟩
      · have hx' : S.val (flr R) * 2 ^ gapS = val R := by unfold exS at hx; simpa using hx
        refine ⟨fun h => by rcases h with h | h <;> omega, fun h => by omega, fun _ _ => ⟨by omega, by simp; omega⟩⟩
    · have hx := hm hmo
      rw [hmo] at hn
      have e : nwr R = flr R + 1 := by simp at hn; omega
      rw [e, hx]
      refine ⟨fun _ => ⟨by omega, by omega, by simp; omega⟩, fun h => by omega, fun h _ => ?_⟩
      exact absurd (Or.inr b) h
theorem zS_le (R : Nat) : zS R ≤ 2139095039 := by unfold zS; omega
theorem aS_le (R : Nat) : aS R ≤ 2139095040 := by unfold aS; omega
theorem nwr_le (R : Nat) : nwr R ≤ 2139095040 := by unfold nwr; omega
theorem zS_mono {R Q : Nat} (h0 : R ≠ 0) (h : R ≤ Q) : zS R ≤ zS Q := by
  have := flr_mono h0 h
  unfold zS; omega
theorem aS_mono {R Q : Nat} (h0 : R ≠ 0) (h : R ≤ Q) : aS R ≤ aS Q := by
  have hf := flr_mono h0 h
  unfold aS
  by_cases he : flr R = flr Q
  · obtain ⟨a, _⟩ := flr_between h0
    have hv : val R ≤ val Q := by
      rcases Nat.lt_or_ge R Q with h1 | h1
      · exact Nat.le_of_lt (val_lt h1)
      · rw [show R = Q by omega]; exact Nat.le_refl _
    have key : exS Q = true → exS R = true := by
      unfold exS
      simp only [decide_eq_true_eq]
      rw [he] at a ⊢
      omega
    rw [he]
    cases h1 : exS R
    · cases h2 : exS Q
      · simp
      · rw [key h2] at h1; cases h1
    · cases h2 : exS Q <;> simp <;> omega
  · split <;> split <;> omega
/-- The ways by a size and its sign: towards nought, away from it, to the nearest. -/
def toSz (R : Nat) (s dn up : Bool) : Nat := if dn && !s || up && s then zS R else if dn && s || up && !s then aS R else nwr R
theorem toSz_le (R : Nat) (s dn up : Bool) : toSz R s dn up ≤ 2139095040 := by
  have := zS_le R
  have := aS_le R
  have := nwr_le R
  unfold toSz; (repeat' split) <;> omega
theorem toSz_mono {R Q : Nat} (h0 : R ≠ 0) (h : R ≤ Q) (s dn up : Bool) : toSz R s dn up ≤ toSz Q s dn up := by
  have := zS_mono h0 h
  have := aS_mono h0 h
  have := nwr_mono h0 h
  unfold toSz; (repeat' split) <;> omega
/-- To, as it steps from the nearest, is just that. -/
theorem toW_spec {x : Nat} (h0 : rung x ≠ 0) (hf : finB x = true) (dn up : Bool) (hex : (dn && up) = false) : toW x (Ieee.single.word (sgn x) (nwr (rung x))) dn up = Ieee.single.word (sgn x) (toSz (rung x) (sgn x) dn up) := by
  have hR : rung x < 9218868437227405312 := by simpa [finB] using hf
  obtain ⟨c1, c2, c3⟩ := near_side h0 hR
  have hle := nwr_le (rung x)
  obtain ⟨g1, g2, g3, g4⟩ := s_word (sgn x) (nwr (rung x)) hle
  obtain ⟨b1, b2, b3, b4⟩ := bk_parts g4
  rw [g1] at b1
  rw [g2] at b2
  obtain ⟨r, hr⟩ : ∃ r, nwr (rung x) = r := ⟨_, rfl⟩
  obtain ⟨u1, u2, u3⟩ := s_next_up g4
  obtain ⟨d1, d2, d3⟩ := s_next_dn g4
  have pl : place (bk (Ieee.single.word (sgn x) (nwr (rung x)))) = if sgn x then -((wr r : Nat) : Int) else ((wr r : Nat) : Int) := by unfold place; rw [b1, b2, hr]
  have px : place x = if sgn x then -((rung x : Nat) : Int) else ((rung x : Nat) : Int) := rfl
  have sp : S.place (Ieee.single.word (sgn x) (nwr (rung x))) = if sgn x then -((r : Nat) : Int) else ((r : Nat) : Int) := by unfold S.place; rw [g1, g2, hr]
  rw [sp] at u1 d1
  have rg : ∀ w, w < 4294967296 → (S.rung w : Int) = (S.place w).natAbs := fun w _ => by unfold S.place; split <;> omega
  have ru := rg _ u3
  have rd := rg _ d3
  rw [u1] at ru
  rw [d1] at rd
  unfold toW sCpy toSz
  rw [pl, px]
  rw [hr] at c1 c2 c3 hle
  have key1 : rung x < wr r → r - 1 = zS (rung x) ∧ r ≠ 0 ∧ r = aS (rung x) := c1
  have key2 : wr r < rung x → r + 1 = aS (rung x) ∧ r < 2139095040 ∧ r = zS (rung x) := c2
  have key3 : ¬ rung x < wr r → r = zS (rung x) := fun h => by
    by_cases h2 : wr r < rung x
    · exact (key2 h2).2.2
    · exact (c3 h h2).1
  have key4 : ¬ wr r < rung x → r = aS (rung x) := fun h => by
    by_cases h2 : rung x < wr r
    · exact (key1 h2).2.2
    · exact (c3 h2 h).2
  clear c1 c2 c3 pl px sp u1 d1 u2 d2 u3 d3 b1 b2 b3 b4 g1 g2 g3 g4 rg
  cases dn <;> cases up
  · simp [hr]
  · cases hs : sgn x <;> rw [hs] at ru rd
    · by_cases hc : wr r < rung x
      · have hk := key2 hc
        have e : S.rung (sNext (Ieee.single.word false (nwr (rung x))) true) = aS (rung x) := by simp only [Bool.false_eq_true, if_false] at ru; omega
        simp [hc, e]
      · have hk := key4 hc
        simp [hc, hr]
        rw [hk]
    · by_cases hc : rung x < wr r
      · have hk := key1 hc
        have e : S.rung (sNext (Ieee.single.word true (nwr (rung x))) true) = zS (rung x) := by simp only [if_true] at ru; omega
        simp [hc, e]
      · have hk := key3 hc
        simp [hc, hr]
        rw [hk]
  · cases hs : sgn x <;> rw [hs] at ru rd
    · by_cases hc : rung x < wr r
      · have hk := key1 hc
        have e : S.rung (sNext (Ieee.single.word false (nwr (rung x))) false) = zS (rung x) := by simp only [Bool.false_eq_true, if_false] at rd; omega
        simp [hc, e]
      · have hk := key3 hc
        simp [hc, hr]
        rw [hk]
    · by_cases hc : wr r < rung x
      · have hk := key2 hc
        have e : S.rung (sNext (Ieee.single.word true (nwr (rung x))) false) = aS (rung x) := by simp only [if_true] at rd; omega
        simp [hc, e]
      · have hk := key4 hc
        simp [hc, hr]
        rw [hk]
  · cases hex
end Go.Proofs.YtekejddblgkcgaaDoor
