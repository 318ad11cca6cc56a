/- Right dyads are added and multiplied as numbers are: no program in this text. -/
import Derived.Test.YtjdhadpfhnmkhaaDoorDx
namespace Go.Proofs.YtjdhadpfhnmkhaaDoor

theorem addD_right {x y : Dy} (rx : rightB x = true) (ry : rightB y = true) : addD x y = nrm (qd x + qd y) (-65536) := by unfold addD; rw [rx, ry]; rfl
theorem subD_right {x y : Dy} (rx : rightB x = true) (ry : rightB y = true) : subD x y = nrm (qd x - qd y) (-65536) := by unfold subD; rw [rx, ry]; rfl
theorem mulD_right {x y : Dy} (rx : rightB x = true) (ry : rightB y = true) : mulD x y = nrm (qd x * qd y) (-131072) := by unfold mulD; rw [rx, ry]; rfl
theorem mul_comm' (x y : Dy) : mulD x y = mulD y x := by unfold mulD; rw [Bool.and_comm, Int.mul_comm]
theorem add_val {x y : Dy} (rx : rightB x = true) (ry : rightB y = true) (h : (addD x y).2 = 0) : rightB (addD x y).1 = true ∧ qd (addD x y).1 = qd x + qd y := by
  rw [addD_right rx ry] at h ⊢
  exact nrm_q h
theorem mul_val {x y : Dy} (rx : rightB x = true) (ry : rightB y = true) (h : (mulD x y).2 = 0) : rightB (mulD x y).1 = true ∧ qd (mulD x y).1 * 2 ^ 65536 = qd x * qd y := by
  rw [mulD_right rx ry] at h ⊢
  exact nrm_qp h
theorem addD_lm (x y : Dy) : Lm (addD x y).1.mag := by
  unfold addD
  split
  · exact nrm_lm _ _
  · intro v hv; simp [dy0] at hv
theorem mulD_lm (x y : Dy) : Lm (mulD x y).1.mag := by
  unfold mulD
  split
  · exact nrm_lm _ _
  · intro v hv; simp [dy0] at hv
theorem addD_err {x y : Dy} (rx : rightB x = true) (ry : rightB y = true) : (addD x y).2 = 0 ∨ (addD x y).2 = 3 := by rw [addD_right rx ry]; exact nrm_err _ _
theorem mulD_err {x y : Dy} (rx : rightB x = true) (ry : rightB y = true) : (mulD x y).2 = 0 ∨ (mulD x y).2 = 3 := by rw [mulD_right rx ry]; exact nrm_err _ _
theorem ring_back {x y : Dy} (rx : rightB x = true) (ry : rightB y = true) (lx : Lm x.mag) (h : (addD x y).2 = 0) : subD (addD x y).1 y = (x, 0) := by
  obtain ⟨r, q⟩ := add_val rx ry h
  rw [subD_right r ry, q, Int.add_sub_cancel]
  exact qd_nrm lx rx
theorem ring_add {x y z : Dy} (rx : rightB x = true) (ry : rightB y = true) (rz : rightB z = true) (h1 : (addD x y).2 = 0) (h2 : (addD y z).2 = 0) : addD (addD x y).1 z = addD x (addD y z).1 := by
  obtain ⟨r1, q1⟩ := add_val rx ry h1
  obtain ⟨r2, q2⟩ := add_val ry rz h2
  rw [addD_right r1 rz, addD_right rx r2, q1, q2, Int.add_assoc]
theorem ring_mul {x y z : Dy} (rx : rightB x = true) (ry : rightB y = true) (rz : rightB z = true) (h1 : (mulD x y).2 = 0) (h2 : (mulD y z).2 = 0) : mulD (mulD x y).1 z = mulD x (mulD y z).1 := by
  obtain ⟨r1, q1⟩ := mul_val rx ry h1
  obtain ⟨r2, q2⟩ := mul_val ry rz h2
  rw [mulD_right r1 rz, mulD_right rx r2]
  congr 1
  apply mul_cancel 65536
  rw [Int.mul_right_comm, q1, Int.mul_assoc, Int.mul_assoc, q2]
theorem ring_dist {x y z : Dy} (rx : rightB x = true) (ry : rightB y = true) (rz : rightB z = true) (h1 : (addD y z).2 = 0) (h2 : (mulD x y).2 = 0) (h3 : (mulD x z).2 = 0) : mulD x (addD y z).1 = addD (mulD x y).1 (mulD x z).1 := by
  obtain ⟨r1, q1⟩ := add_val ry rz h1
  obtain ⟨r2, q2⟩ := mul_val rx ry h2
  obtain ⟨r3, q3⟩ := mul_val rx rz h3
  rw [mulD_right rx r1, addD_right r2 r3, nrm_down, q1, Int.add_mul, q2, q3, Int.mul_add]
end Go.Proofs.YtjdhadpfhnmkhaaDoor
