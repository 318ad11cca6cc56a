/- Sums and differences of floats: where they are told, where they are infinite, where they are 0: no program in this text. -/
import Derived.Test.YtnjahgfcijckcaaGreatDoorSa
namespace Go.Proofs.YtnjahgfcijckcaaGreatDoor

theorem nearest_bd (s : Bool) (m : Nat) (p : Int) : ∃ q, q ≤ 9218868437227405312 ∧ Ieee.double.nearest s m p = Ieee.double.word s q := by
  unfold Ieee.Format.nearest
  split
  · exact ⟨0, by omega, rfl⟩
  · exact ⟨_, Nat.min_le_right _ _, rfl⟩
theorem nearest_ne {s : Bool} {m : Nat} {p : Int} (hm : m ≠ 0) (hp : -1074 ≤ p) : ∃ q, q ≠ 0 ∧ q ≤ 9218868437227405312 ∧ Ieee.double.nearest s m p = Ieee.double.word s q := by
  have s2 : Ieee.double.binade = 4503599627370496 := by decide
  have s3 : Ieee.double.infRung = 9218868437227405312 := by decide
  have s4 : Ieee.double.leastPlace = -1074 := by decide
  unfold Ieee.Format.nearest
  rw [if_neg hm]
  simp only [s2, s3, s4]
  refine ⟨_, ?_, Nat.min_le_right _ _, rfl⟩
  generalize hL : max (p + (m.log2 : Int) - (Ieee.double.fractionBits : Nat)) (-1074) = L
  by_cases h : L = -1074
  · have hd : (L - p).toNat = 0 := by omega
    have hk : Ieee.Toward.even.cut s (m <<< (p - L).toNat) (L - p).toNat = m <<< (p - L).toNat := by
      rw [hd]
      unfold Ieee.Toward.cut
      simp [Nat.mod_one]
    rw [hk, Nat.shiftLeft_eq]
    have h1 : 0 < m * 2 ^ (p - L).toNat := Nat.mul_pos (Nat.pos_of_ne_zero hm) (Nat.pow_pos (by omega))
    omega
  · have h1 : 1 ≤ (L - -1074).toNat := by omega
    generalize Ieee.Toward.even.cut s (m <<< (p - L).toNat) (L - p).toNat = k
    omega
theorem fin_rung {x : Nat} (h : finB x = true) : rung x < 9218868437227405312 := by unfold finB at h; simpa using h
/-- What is told of an operation: a number told, NaN where none is. -/
def NR (o : Option Nat) (r : Nat) : Prop := r < 18446744073709551616 ∧ (match o with | some v => r = v | none => nanB r = true)

theorem add_told {a b : Nat} (ha : a < 18446744073709551616) (hb : b < 18446744073709551616) (fa : finB a = true) (fb : finB b = true) :
    ∃ r, floatBits .add .f64 a b = some r ∧ r < 18446744073709551616 ∧ rung r ≤ 9218868437227405312 ∧ (rung r = 0 → sgn a = sgn b → rung a = 0 ∧ rung b = 0) := by
  unfold floatBits
  simp only [fmt64, Ieee.Format.add]
  rw [read_fin ha fa, read_fin hb fb, sum_val]
  simp only [Option.map_some, Ieee.Format.write]
  generalize hT : Ieee.signed (sgn a) (mg (rung a)) (up (rung a) - min (up (rung a)) (up (rung b))) + Ieee.signed (sgn b) (mg (rung b)) (up (rung b) - min (up (rung a)) (up (rung b))) = T
  generalize (if T = 0 then sgn a && sgn b else decide (T < 0)) = S
  by_cases h0 : T = 0
  · obtain ⟨q, hq, e⟩ := nearest_bd S T.natAbs (-1074 + (min (up (rung a)) (up (rung b)) : Nat))
    refine ⟨_, rfl, ?_, ?_, ?_⟩
    · rw [e]; exact word_lt64 S (by omega)
    · rw [e, (word_rung S (by omega)).1]; exact hq
    · intro _ hs
      have hm : ∀ r, mg r = 0 → r = 0 := fun r h => by unfold mg at h; split at h <;> omega
      have hp : ∀ m k : Nat, 0 ≤ ((m <<< k : Nat) : Int) := fun _ _ => Int.natCast_nonneg _
      have hz : ∀ m k : Nat, m <<< k = 0 → m = 0 := fun m k h => by
        rw [Nat.shiftLeft_eq] at h
        rcases Nat.mul_eq_zero.1 h with h | h
        · exact h
        · exact absurd h (Nat.ne_of_gt (Nat.pow_pos (by omega)))
      rw [h0] at hT
      replace h0 := hT
      unfold Ieee.signed at h0
      rw [← hs] at h0
      have h1 := hp (mg (rung a)) (up (rung a) - min (up (rung a)) (up (rung b)))
      have h2 := hp (mg (rung b)) (up (rung b) - min (up (rung a)) (up (rung b)))
      have h3 : mg (rung a) <<< (up (rung a) - min (up (rung a)) (up (rung b))) = 0 ∧ mg (rung b) <<< (up (rung b) - min (up (rung a)) (up (rung b))) = 0 := by
        cases hg : sgn a <;> rw [hg] at h0 <;> simp only [Bool.false_eq_true, if_false, if_true] at h0 <;> omega
      exact ⟨hm _ (hz _ _ h3.1), hm _ (hz _ _ h3.2)⟩
  · obtain ⟨q, hq0, hq, e⟩ := nearest_ne (s := S) (p := -1074 + ((min (up (rung a)) (up (rung b)) : Nat) : Int)) (Int.natAbs_ne_zero.2 h0) (by omega)
    refine ⟨_, rfl, ?_, ?_, ?_⟩
    · rw [e]; exact word_lt64 S (by omega)
    · rw [e, (word_rung S (by omega)).1]; exact hq
    · intro h; rw [e, (word_rung S (by omega)).1] at h; exact absurd h hq0
theorem neg_read {b : Nat} (hb : b < 18446744073709551616) : Ieee.double.read (negW b) = (Ieee.double.read b).opposite := by
  have hr := rung_lt b
  rcases word_two hb with ⟨e, hs⟩ | ⟨e, hs⟩
  · have h1 : rung (negW b) = rung b ∧ sgn (negW b) = true := by
      rw [e, negW_pos (rung_lt _), (rung_big (rung_lt _)).1, rung_rung]; exact ⟨rfl, (rung_big (rung_lt _)).2⟩
    rw [read_eq _ (negW_lt hb), read_eq _ hb, h1.1, h1.2, hs]
    split
    · rfl
    · split <;> rfl
  · have h1 : rung (negW b) = rung b ∧ sgn (negW b) = false := by
      have h2 : negW b = rung b := by rw [e, negW_neg (rung_lt _), (rung_big (rung_lt _)).1]
      rw [h2, rung_rung]; exact ⟨rfl, (rung_pos (rung_lt _)).2⟩
    rw [read_eq _ (negW_lt hb), read_eq _ hb, h1.1, h1.2, hs]
    split
    · rfl
    · split <;> rfl
theorem fsub_add {a b : Nat} (hb : b < 18446744073709551616) : floatBits .sub .f64 a b = floatBits .add .f64 a (negW b) := by
  unfold floatBits
  simp only [fmt64, Ieee.Format.sub, Ieee.Format.add]
  rw [neg_read hb]
theorem neg_fin {b : Nat} (hb : b < 18446744073709551616) : finB (negW b) = finB b := by
  rw [fin_place, fin_place]
  have h := (neg_place hb).1
  unfold negW
  rw [h, decide_eq_decide]; omega
theorem sub_told {a b : Nat} (ha : a < 18446744073709551616) (hb : b < 18446744073709551616) (fa : finB a = true) (fb : finB b = true) :
    ∃ r, floatBits .sub .f64 a b = some r ∧ r < 18446744073709551616 ∧ rung r ≤ 9218868437227405312 := by
  rw [fsub_add hb]
  obtain ⟨r, h1, h2, h3, _⟩ := add_told ha (negW_lt hb) fa ((neg_fin hb).trans fb)
  exact ⟨r, h1, h2, h3⟩
theorem add_inf_l {i b : Nat} (hi : i < 18446744073709551616) (hr : rung i = 9218868437227405312) (hb : b < 18446744073709551616) (fb : finB b = true) : floatBits .add .f64 i b = some i := by
  unfold floatBits
  simp only [fmt64, Ieee.Format.add]
  rw [read_eq i hi, if_neg (by omega), if_pos hr, read_fin hb fb]
  simp only [Ieee.Datum.sum, Option.map_some, Ieee.Format.write, Option.some.injEq]
  have h := word_of hi
  rw [hr] at h
  exact h.symm
theorem add_inf_r {i b : Nat} (hi : i < 18446744073709551616) (hr : rung i = 9218868437227405312) (hb : b < 18446744073709551616) (fb : finB b = true) : floatBits .add .f64 b i = some i := by
  unfold floatBits
  simp only [fmt64, Ieee.Format.add]
  rw [read_eq i hi, if_neg (by omega), if_pos hr, read_fin hb fb]
  simp only [Ieee.Datum.sum, Option.map_some, Ieee.Format.write, Option.some.injEq]
  have h := word_of hi
  rw [hr] at h
  exact h.symm
theorem neg_rung {b : Nat} (hb : b < 18446744073709551616) : rung (negW b) = rung b ∧ sgn (negW b) = !sgn b := by
  rcases word_two hb with ⟨e, hs⟩ | ⟨e, hs⟩
  · rw [hs, e, negW_pos (rung_lt _), (rung_big (rung_lt _)).1, rung_rung]; exact ⟨rfl, (rung_big (rung_lt _)).2⟩
  · have h2 : negW b = rung b := by rw [e, negW_neg (rung_lt _), (rung_big (rung_lt _)).1]
    rw [h2, rung_rung, hs]; exact ⟨rfl, (rung_pos (rung_lt _)).2⟩
/-- What is left of an infinite sum: an infinity of the other sign. -/
theorem rest_inf {i x y : Nat} (hi : i < 18446744073709551616) (hr : rung i = 9218868437227405312) (hx : x < 18446744073709551616) (fx : finB x = true) (hy : y < 18446744073709551616) (fy : finB y = true) :
    floatBits .sub .f64 i x = some i ∧ floatBits .sub .f64 y i = some (negW i) ∧ signF (negW i) = if sgn i then 1 else -1 := by
  refine ⟨?_, ?_, ?_⟩
  · rw [fsub_add hx]; exact add_inf_l hi hr (negW_lt hx) ((neg_fin hx).trans fx)
  · rw [fsub_add hi]; exact add_inf_r (negW_lt hi) ((neg_rung hi).1.trans hr) hy fy
  · obtain ⟨h1, h2⟩ := neg_rung hi
    unfold signF nanB place
    rw [h1, h2, hr]
    cases sgn i <;> rfl
theorem signF_bd (x : Nat) : -1 ≤ signF x ∧ signF x ≤ 1 := by unfold signF; (repeat' split) <;> omega
end Go.Proofs.YtnjahgfcijckcaaGreatDoor
