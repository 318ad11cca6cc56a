/- Sums of right dyads, as they are laid at the lesser power: no program in this text. -/
import Derived.Test.YtomohmjjaijlbaaGreatDoorZl
namespace Go.Proofs.YtomohmjjaijlbaaGreatDoor

/-- A size laid at the power low. -/
def atL (d : Dy) (low : Int) : Nat := vl d.mag * 2 ^ (d.exp - low).toNat
theorem sv_at (d : Dy) (low : Int) : sv d * 2 ^ (d.exp - low).toNat = if d.neg then -(atL d low : Int) else atL d low := by
  unfold sv atL
  rw [Int.natCast_mul, Int.natCast_pow]
  cases d.neg
  · rfl
  · simp only [if_true, Int.neg_mul]; rfl
theorem qd_at {d : Dy} {low : Int} (h1 : -65536 ≤ low) (h2 : low ≤ d.exp) : qd d = sv d * 2 ^ (d.exp - low).toNat * 2 ^ (low + 65536).toNat := by
  unfold qd
  rw [Int.mul_assoc, ← pow_add_int, show (d.exp + 65536).toNat = (d.exp - low).toNat + (low + 65536).toNat by omega]
theorem add_at {a b : Dy} (ha : rightB a = true) (hb : rightB b = true) {low : Int} (h1 : -65536 ≤ low) (h2 : low ≤ a.exp) (h3 : low ≤ b.exp) :
    addD a b = nrm (sv a * 2 ^ (a.exp - low).toNat + sv b * 2 ^ (b.exp - low).toNat) low := by
  unfold addD
  rw [ha, hb, qd_at h1 h2, qd_at h1 h3, ← Int.add_mul]
  simp only [Bool.and_self, if_true]
  have := nrm_shift (sv a * 2 ^ (a.exp - low).toNat + sv b * 2 ^ (b.exp - low).toNat) low (low + 65536).toNat
  rw [show low - ((low + 65536).toNat : Int) = -65536 by omega] at this
  exact this
theorem add_comm' (a b : Dy) : addD a b = addD b a := by unfold addD; rw [Bool.and_comm, Int.add_comm]
/-- With like signs. -/
theorem add_like {a b : Dy} (ha : rightB a = true) (hb : rightB b = true) {low : Int} (h1 : -65536 ≤ low) (h2 : low ≤ a.exp) (h3 : low ≤ b.exp) (hn : a.neg = b.neg) {zs : List Nat} (hz : vl zs = atL a low + atL b low) :
    normD ⟨a.neg, zs, low⟩ = addD a b := by
  rw [add_at ha hb h1 h2 h3, sv_at, sv_at]
  unfold normD sv
  simp only [hz, Int.natCast_add, ← hn]
  cases a.neg
  · rfl
  · simp only [if_true]; rw [Int.neg_add]
/-- With unlike ones, the first not the less. -/
theorem add_unlike {a b : Dy} (ha : rightB a = true) (hb : rightB b = true) {low : Int} (h1 : -65536 ≤ low) (h2 : low ≤ a.exp) (h3 : low ≤ b.exp) (hn : a.neg = !b.neg) {zs : List Nat} (hz : vl zs + atL b low = atL a low) :
    normD ⟨a.neg, zs, low⟩ = addD a b := by
  rw [add_at ha hb h1 h2 h3, sv_at, sv_at]
  unfold normD sv
  have hz' : (vl zs : Int) = (atL a low : Int) - (atL b low : Int) := by omega
  simp only [hz', hn]
  cases b.neg
  · simp only [Bool.not_false, if_true, Bool.false_eq_true, if_false]; congr 1; omega
  · simp only [Bool.not_true, if_true, Bool.false_eq_true, if_false]; congr 1
theorem add_zero_left {b : Dy} (hb : rightB b = true) (lb : Lm b.mag) : addD dy0 b = (b, 0) := by
  unfold addD
  rw [hb]
  simp only [show rightB dy0 = true from rfl, Bool.and_self, if_true]
  rw [show qd dy0 = 0 by unfold qd; rw [show sv dy0 = 0 from rfl, Int.zero_mul], Int.zero_add]
  exact qd_nrm lb hb
theorem right_nil {d : Dy} (h : rightB d = true) (h0 : d.mag.length = 0) : d = dy0 := by
  rcases right_cases h with h | ⟨h, _⟩
  · exact h
  · exact absurd h0 h
theorem right_ne {d : Dy} (h : rightB d = true) (h0 : d.mag.length ≠ 0) : vl d.mag ≠ 0 ∧ d.mag.getD 0 0 % 2 = 1 := by
  rcases right_cases h with rfl | ⟨h1, _, h3, h4, _⟩
  · simp [dy0] at h0
  · exact ⟨vl_ne_last h1 h4, h3⟩
theorem atL_bl {d : Dy} {low : Int} (h0 : vl d.mag ≠ 0) (h : low ≤ d.exp) : (bl (atL d low) : Int) = bl (vl d.mag) + d.exp - low := by
  unfold atL; rw [bl_mul_pow h0]; omega
theorem nrm_wide {m low : Int} (h1 : m.natAbs % 2 = 1) (h2 : 16384 < bl m.natAbs) : nrm m low = (dy0, 3) := by
  have hm : m ≠ 0 := by intro h; rw [h] at h1; simp at h1
  unfold nrm
  rw [if_neg hm, tz_odd h1, if_pos (Or.inl (by omega))]
theorem wide_core {A B E : Nat} (hA : A < 2 ^ E) (hB : 2 ^ (E + 64) ≤ B) : A < B ∧ ¬ A + B < 2 ^ E ∧ ¬ B - A < 2 ^ E := by
  rw [Nat.pow_add, p64] at hB
  have := Nat.two_pow_pos E
  generalize 2 ^ E = P at *
  omega
/-- Too far apart: the lesser one has the lowest bit, and the other one is too far above. -/
theorem add_wide {a b : Dy} (ha : rightB a = true) (hb : rightB b = true) (la : Lm a.mag) (lb : Lm b.mag) (na : a.mag.length ≠ 0) (nb : b.mag.length ≠ 0) {low : Int} (hl : low = min a.exp b.exp) (he : a.exp ≤ b.exp)
    (hw : 16448 < max ((bl (vl a.mag) : Int) + a.exp) ((bl (vl b.mag) : Int) + b.exp) - low) : addD a b = (dy0, 3) := by
  have xa := right_exp ha
  have xb := right_exp hb
  obtain ⟨a0, ao⟩ := right_ne ha na
  obtain ⟨b0, bo⟩ := right_ne hb nb
  have hba : bl (vl a.mag) ≤ 64 * 256 := bl_limbs la xa.2.2
  have hbb : bl (vl b.mag) ≤ 64 * 256 := bl_limbs lb xb.2.2
  have hlt : low < b.exp := by omega
  have hbB := atL_bl (d := b) (low := low) b0 (by omega)
  obtain ⟨E, hE⟩ : ∃ E, E = 16384 := ⟨_, rfl⟩
  have eA : atL a low = vl a.mag := by unfold atL; rw [show (a.exp - low).toNat = 0 by omega, Nat.pow_zero, Nat.mul_one]
  have hA : atL a low < 2 ^ E := by rw [eA]; exact bl_le_iff.1 (by omega)
  have hAo : atL a low % 2 = 1 := by rw [eA, vl_odd la na]; exact ao
  have hBe : atL b low % 2 = 0 := by
    unfold atL
    obtain ⟨d, hd⟩ : ∃ d, (b.exp - low).toNat = d + 1 := ⟨(b.exp - low).toNat - 1, by omega⟩
    rw [hd, Nat.pow_succ, ← Nat.mul_assoc, Nat.mul_mod_left]
  have hB0 : atL b low ≠ 0 := by intro h; rw [h, bl_zero] at hbB; omega
  have hB : 2 ^ (E + 64) ≤ atL b low := Nat.le_trans (Nat.pow_le_pow_right (by omega) (by omega)) (bl_spec hB0).1
  rw [add_at ha hb (show -65536 ≤ low by omega) (by omega) (by omega), sv_at, sv_at]
  generalize atL a low = A at *
  generalize atL b low = B at *
  obtain ⟨w1, w2, w3⟩ := wide_core hA hB
  have key : ∀ m : Int, (m.natAbs = A + B ∨ m.natAbs = B - A) → nrm m low = (dy0, 3) := by
    intro m hm
    apply nrm_wide
    · rcases hm with h | h <;> omega
    · apply Nat.lt_of_not_le
      intro hle
      have hlt := bl_le_iff.1 (show bl m.natAbs ≤ E by omega)
      rcases hm with h | h
      · rw [h] at hlt; exact w2 hlt
      · rw [h] at hlt; exact w3 hlt
  apply key
  clear hA hB w2 w3 key
  cases a.neg <;> cases b.neg <;> simp only [if_true, Bool.false_eq_true, if_false] <;> omega
end Go.Proofs.YtomohmjjaijlbaaGreatDoor
