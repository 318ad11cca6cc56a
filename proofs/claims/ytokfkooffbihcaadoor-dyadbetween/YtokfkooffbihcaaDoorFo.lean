/- Order, Same and Between as plain functions: an order of all floats that agrees with the comparisons; what lies between sums up. No condition but that a float is a word below 2^64. -/
import Derived.Test.YtokfkooffbihcaaDoorFm
namespace Go.Proofs.YtokfkooffbihcaaDoor
open Go.RowKit

/-- Where a float stands among all: twice its place, one more without a sign bit; all NaN behind. -/
def key (a : Nat) : Int := if nanB a then 36893488147419103232 else 2 * place a + (if sgn a then 0 else 1)

theorem ordF_key (a b : Nat) : ordF a b = if key a < key b then -1 else if key b < key a then 1 else 0 := by
  have h1 := place_bd a
  have h2 := place_bd b
  unfold ordF key ordS
  cases nanB a <;> cases nanB b <;> cases sgn a <;> cases sgn b <;> simp only [Bool.and_true, Bool.and_false, Bool.not_true, Bool.not_false, Bool.false_eq_true, if_true, if_false] <;> (repeat' split) <;> omega

theorem key_inj {a b : Nat} (ha : a < 18446744073709551616) (hb : b < 18446744073709551616) (na : nanB a = false) (h : key a = key b) : a = b := by
  have h1 := place_bd a
  have h2 := place_bd b
  have e1 := rung_of a ha
  have e2 := rung_of b hb
  unfold key at h
  rw [na] at h
  cases nb : nanB b
  · rw [nb] at h
    unfold place at h
    cases sa : sgn a <;> cases sb : sgn b <;> simp only [sa, sb, Bool.false_eq_true, if_true, if_false] at h e1 e2 <;> omega
  · rw [nb] at h
    cases sa : sgn a <;> simp only [sa, Bool.false_eq_true, if_true, if_false] at h <;> omega

theorem ordF_swap (a b : Nat) : ordF b a = -ordF a b := by
  rw [ordF_key, ordF_key]; (repeat' split) <;> omega
theorem ordF_cases (a b : Nat) : ordF a b = -1 ∨ ordF a b = 0 ∨ ordF a b = 1 := by
  rw [ordF_key]; (repeat' split) <;> simp
theorem ordF_trans (a b c : Nat) (h : ordF a b ≤ 0) (g : ordF b c ≤ 0) : ordF a c ≤ 0 := by
  rw [ordF_key] at *; (repeat' split at *) <;> omega
theorem ordF_trans0 (a b c : Nat) (h : ordF a b = 0) (g : ordF b c = 0) : ordF a c = 0 := by
  rw [ordF_key] at *; (repeat' split at *) <;> omega
theorem ord3 (a b : Nat) : (ordF a b ≤ -1 ∧ -1 ≤ ordF a b ∧ ordF b a ≤ 1 ∧ 1 ≤ ordF b a) ∨ (ordF a b ≤ 0 ∧ 0 ≤ ordF a b ∧ ordF b a ≤ 0 ∧ 0 ≤ ordF b a) ∨ (ordF a b ≤ 1 ∧ 1 ≤ ordF a b ∧ ordF b a ≤ -1 ∧ -1 ≤ ordF b a) := by
  have h := ordF_swap a b
  have g := ordF_cases a b
  omega
theorem ordF_same {a b : Nat} (ha : a < 18446744073709551616) (hb : b < 18446744073709551616) : sameB a b = decide (ordF a b = 0) := by
  have h1 := place_bd a
  have h2 := place_bd b
  rw [ordF_key]
  unfold sameB
  cases na : nanB a
  · by_cases e : a = b
    · subst e
      simp
    · have : key a ≠ key b := fun h => e (key_inj ha hb na h)
      simp only [Bool.false_eq_true, if_false]
      rw [decide_eq_decide]
      constructor
      · intro h; exact absurd h e
      · intro h; (repeat' split at h) <;> omega
  · unfold key
    rw [na]
    cases nb : nanB b
    · cases sb : sgn b <;> simp only [Bool.false_eq_true, if_true, if_false] <;> (repeat' split) <;> first | omega | simp
    · simp

theorem btwB_le {a b : Nat} (ha : a < 18446744073709551616) (hb : b < 18446744073709551616) : btwB a b = (FloatKind.f64.format.order a b == some .lt || FloatKind.f64.format.order a b == some .eq) := by
  unfold btwB
  cases na : nanB a
  · cases nb : nanB b
    · rw [lt_num ha hb na nb, eq_num ha hb na nb, Bool.eq_iff_iff]; simp; omega
    · rw [ord_nan ha hb (Or.inr nb)]; rfl
  · rw [ord_nan ha hb (Or.inl na)]; rfl
theorem btw_sum {a b c : Nat} (h1 : btwB a b = true) (h2 : btwB b c = true) : btwN a b + btwN b c = btwN a c ∧ 0 ≤ btwN a b ∧ 0 ≤ btwN b c ∧ btwN a c < 18446744073709551616 := by
  have p1 := place_bd a
  have p2 := place_bd c
  have h3 : btwB a c = true := by
    unfold btwB at *
    simp only [Bool.and_eq_true, Bool.not_eq_true', decide_eq_true_eq] at *
    exact ⟨⟨h1.1.1, h2.1.2⟩, by omega⟩
  have g1 : place a ≤ place b := by unfold btwB at h1; simp at h1; exact h1.2
  have g2 : place b ≤ place c := by unfold btwB at h2; simp at h2; exact h2.2
  unfold btwN
  rw [h1, h2, h3]
  simp only [if_true]
  omega
theorem btwN_no {a b : Nat} (h : btwB a b = false) : btwN a b = 0 := by unfold btwN; rw [h]; rfl

/-- The ways in which two floats stand to one another. -/
theorem cls {a b : Nat} (ha : a < 18446744073709551616) (hb : b < 18446744073709551616) :
    (nanB a = false ∧ nanB b = false ∧ place a < place b ∧ ordF a b = -1 ∧ btwB a b = true) ∨
    (nanB a = false ∧ nanB b = false ∧ place b < place a ∧ ordF a b = 1 ∧ btwB a b = false) ∨
    (nanB a = false ∧ nanB b = false ∧ place a = place b ∧ ordF a b = 0 ∧ btwB a b = true) ∨
    (nanB a = false ∧ nanB b = false ∧ place a = place b ∧ place a = 0 ∧ ordF a b = -1 ∧ btwB a b = true) ∨
    (nanB a = false ∧ nanB b = false ∧ place a = place b ∧ place a = 0 ∧ ordF a b = 1 ∧ btwB a b = true) ∨
    (nanB a = true ∧ nanB b = true ∧ ordF a b = 0 ∧ btwB a b = false) ∨
    (nanB a = true ∧ nanB b = false ∧ ordF a b = 1 ∧ btwB a b = false) ∨
    (nanB a = false ∧ nanB b = true ∧ ordF a b = -1 ∧ btwB a b = false) := by
  have e1 := rung_of a ha
  have e2 := rung_of b hb
  cases na : nanB a <;> cases nb : nanB b
  · by_cases h1 : place a < place b
    · left; exact ⟨rfl, rfl, h1, by unfold ordF; simp [na, nb, h1], by unfold btwB; simp [na, nb]; omega⟩
    · right
      by_cases h2 : place b < place a
      · left; exact ⟨rfl, rfl, h2, by unfold ordF; simp [na, nb, h1, h2], by unfold btwB; simp [na, nb]; omega⟩
      · right
        have h3 : place a = place b := by omega
        have hB : btwB a b = true := by unfold btwB; simp [na, nb]; omega
        have hz : sgn a ≠ sgn b → place a = 0 := by
          intro hs
          unfold place at h3 ⊢
          cases sa : sgn a <;> cases sb : sgn b <;> simp only [sa, sb, Bool.false_eq_true, if_true, if_false] at h3 hs ⊢ <;> first | omega | exact absurd rfl hs
        cases sa : sgn a <;> cases sb : sgn b
        · left; exact ⟨rfl, rfl, h3, by unfold ordF ordS; simp [na, nb, h1, h2, sa, sb], hB⟩
        · right; right; left; exact ⟨rfl, rfl, h3, hz (by simp [sa, sb]), by unfold ordF ordS; simp [na, nb, h1, h2, sa, sb], hB⟩
        · right; left; exact ⟨rfl, rfl, h3, hz (by simp [sa, sb]), by unfold ordF ordS; simp [na, nb, h1, h2, sa, sb], hB⟩
        · left; exact ⟨rfl, rfl, h3, by unfold ordF ordS; simp [na, nb, h1, h2, sa, sb], hB⟩
  all_goals
    have hB : btwB a b = false := by unfold btwB; simp [na, nb]
    have hO : ordF a b = if nanB a && nanB b then 0 else if nanB a then 1 else -1 := by unfold ordF; simp [na, nb]
    simp [na, nb] at hO
    simp [hB, hO]

end Go.Proofs.YtokfkooffbihcaaDoor
