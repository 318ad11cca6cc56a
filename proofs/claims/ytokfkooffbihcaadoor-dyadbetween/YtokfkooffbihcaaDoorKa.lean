/- Which of two right dyads is greater, as an order: no program in this text. -/
import Derived.Test.YtokfkooffbihcaaDoorHc
import Derived.Test.YtokfkooffbihcaaDoorHj
namespace Go.Proofs.YtokfkooffbihcaaDoor

theorem sgI_bd (x : Int) : -1 ≤ sgI x ∧ sgI x ≤ 1 := by unfold sgI; split <;> (try split) <;> omega
theorem sgI_turn (x y : Int) : sgI (y - x) = -sgI (x - y) := by unfold sgI; (repeat' split) <;> omega
theorem sgI_neg (x : Int) : sgI (-x) = -sgI x := by unfold sgI; (repeat' split) <;> omega
theorem sgI_le (x : Int) : sgI x ≤ 0 ↔ x ≤ 0 := by unfold sgI; (repeat' split) <;> omega
theorem sgI_lt (x : Int) : sgI x < 0 ↔ x < 0 := by unfold sgI; (repeat' split) <;> omega
theorem sgI_zero (x : Int) : sgI x = 0 ↔ x = 0 := by unfold sgI; (repeat' split) <;> omega
theorem sgI_cases (x : Int) : (x < 0 ∧ sgI x = -1) ∨ (x = 0 ∧ sgI x = 0) ∨ (0 < x ∧ sgI x = 1) := by unfold sgI; (repeat' split) <;> omega
theorem sgI_mul (x y : Int) : sgI (x * y) = sgI x * sgI y := by
  rcases sgI_cases x with ⟨hx, ex⟩ | ⟨hx, ex⟩ | ⟨hx, ex⟩ <;> rcases sgI_cases y with ⟨hy, ey⟩ | ⟨hy, ey⟩ | ⟨hy, ey⟩ <;> rw [ex, ey]
  · have := Int.mul_pos_of_neg_of_neg hx hy; unfold sgI; rw [if_neg (by omega), if_neg (by omega)]; rfl
  · rw [hy, Int.mul_zero]; rfl
  · have := Int.mul_neg_of_neg_of_pos hx hy; unfold sgI; rw [if_pos this]; rfl
  · rw [hx, Int.zero_mul]; rfl
  · rw [hx, Int.zero_mul]; rfl
  · rw [hx, Int.zero_mul]; rfl
  · have := Int.mul_neg_of_pos_of_neg hx hy; unfold sgI; rw [if_pos this]; rfl
  · rw [hy, Int.mul_zero]; rfl
  · have := Int.mul_pos hx hy; unfold sgI; rw [if_neg (by omega), if_neg (by omega)]; rfl
theorem sgD_qd {d : Dy} (h : rightB d = true) : sgD d = sgI (qd d) := by
  obtain ⟨e, hc⟩ := qd_sign h
  rw [e, sgI_mul]
  rcases hc with ⟨h1, _⟩ | ⟨h1, h2⟩ | ⟨h1, h2⟩
  · rw [h1]; exact (Int.zero_mul _).symm
  · have : sgI (sz d : Int) = 1 := by unfold sgI; rw [if_neg (by omega), if_neg (by omega)]
    rw [h1, this]; rfl
  · have : sgI (sz d : Int) = 1 := by unfold sgI; rw [if_neg (by omega), if_neg (by omega)]
    rw [h1, this]; rfl
theorem ord_same {x y : Dy} (rx : rightB x = true) (ry : rightB y = true) (lx : Lm x.mag) (ly : Lm y.mag) : (sgI (qd x - qd y) == 0) = eqB x y := by
  by_cases h : x = y
  · subst h
    rw [eqB_self, Int.sub_self]; rfl
  · have h1 : eqB x y = false := by
      cases hc : eqB x y
      · rfl
      · exact absurd (eqB_iff.1 hc) h
    rw [h1, beq_eq_false_iff_ne]
    intro h0
    have := (sgI_zero _).1 h0
    exact h (qd_inj lx ly rx ry (by omega))
theorem sub_val {x y : Dy} (rx : rightB x = true) (ry : rightB y = true) (h : (subD x y).2 = 0) : rightB (subD x y).1 = true ∧ qd (subD x y).1 = qd x - qd y := by
  rw [subD_right rx ry] at h ⊢
  exact nrm_q h
theorem subD_lm (x y : Dy) : Lm (subD x y).1.mag := by
  unfold subD
  split
  · exact nrm_lm _ _
  · intro v hv; simp [dy0] at hv
theorem ord_sub {x y : Dy} (rx : rightB x = true) (ry : rightB y = true) (h : (subD x y).2 = 0) : rightB (subD x y).1 = true ∧ sgD (subD x y).1 = sgI (qd x - qd y) := by
  obtain ⟨r, q⟩ := sub_val rx ry h
  exact ⟨r, by rw [sgD_qd r, q]⟩
theorem ord_add {x y z : Dy} (rx : rightB x = true) (ry : rightB y = true) (rz : rightB z = true) (h1 : (addD x z).2 = 0) (h2 : (addD y z).2 = 0) :
    rightB (addD x z).1 = true ∧ rightB (addD y z).1 = true ∧ sgI (qd (addD x z).1 - qd (addD y z).1) = sgI (qd x - qd y) := by
  obtain ⟨r1, q1⟩ := add_val rx rz h1
  obtain ⟨r2, q2⟩ := add_val ry rz h2
  exact ⟨r1, r2, by rw [q1, q2, Int.add_sub_add_right]⟩
theorem ord_mul {x y z : Dy} (rx : rightB x = true) (ry : rightB y = true) (rz : rightB z = true) (h1 : (mulD x z).2 = 0) (h2 : (mulD y z).2 = 0) :
    rightB (mulD x z).1 = true ∧ rightB (mulD y z).1 = true ∧ sgI (qd (mulD x z).1 - qd (mulD y z).1) = sgI (qd x - qd y) * sgD z := by
  obtain ⟨r1, q1⟩ := mul_val rx rz h1
  obtain ⟨r2, q2⟩ := mul_val ry rz h2
  refine ⟨r1, r2, ?_⟩
  rw [sgD_qd rz, ← sgI_mul, Int.sub_mul, ← q1, ← q2, ← Int.sub_mul, sg_mul]
theorem ord_low (x y z : Dy) : (sgI (qd x - qd y) ≤ 0 → sgI (qd y - qd z) ≤ 0 → sgI (qd x - qd z) ≤ 0) ∧ (sgI (qd x - qd y) < 0 → sgI (qd y - qd z) ≤ 0 → sgI (qd x - qd z) < 0) := by
  rw [sgI_le, sgI_le, sgI_le, sgI_lt, sgI_lt]
  omega
end Go.Proofs.YtokfkooffbihcaaDoor
