/- The document's To of a finite float that is not nought. -/
import Derived.Test.YtekejddblgkcgaaDoorTo1
import Derived.Test.YtekejddblgkcgaaDoorXk
namespace Go.Proofs.YtekejddblgkcgaaDoor
open Go.RowKit

theorem cut_vals {F d : Nat} (hF : F < 9007199254740992) (h1 : 1 ≤ d) (h2 : d ≤ 60) : (F : Int) / 2 ^ d = ((F / 2 ^ d : Nat) : Int) ∧ IntKind.u64.wrap ((F : Int) - IntKind.u64.wrap ((F : Int) / 2 ^ d * 2 ^ d)) = ((F % 2 ^ d : Nat) : Int) ∧ IntKind.u64.wrap (2 ^ (d - 1)) = ((2 ^ (d - 1) : Nat) : Int) := by
  have e : (F : Int) / 2 ^ d = ((F / 2 ^ d : Nat) : Int) := by push_cast; rfl
  have hp : (2 : Nat) ^ (d - 1) ≤ 2 ^ 59 := Nat.pow_le_pow_right (by omega) (by omega)
  have hm := Nat.div_add_mod F (2 ^ d)
  rw [Nat.mul_comm] at hm
  have e2 : (F : Int) / 2 ^ d * 2 ^ d = ((F / 2 ^ d * 2 ^ d : Nat) : Int) := by rw [e]; push_cast; rfl
  have e3 : (2 : Int) ^ (d - 1) = ((2 ^ (d - 1) : Nat) : Int) := by push_cast; rfl
  refine ⟨e, ?_, ?_⟩
  · rw [e2]
    generalize F / 2 ^ d * 2 ^ d = t at *
    generalize F % 2 ^ d = r at *
    simp only [IntKind.wrap_u64]
    omega
  · rw [e3]
    generalize (2 : Nat) ^ (d - 1) = t at *
    simp only [IntKind.wrap_u64]
    omega
theorem bk_top (s : Bool) : bk (Ieee.single.word s 2139095040) = Ieee.double.word s 9218868437227405312 := by
  obtain ⟨g1, g2, _, _⟩ := s_word s 2139095040 (by omega)
  unfold bk wr
  rw [g1, g2, if_pos rfl]
theorem conv_top {P : Program} {src dst : TypeId} (hs : P.underlying src = some (.float .f64)) (hd : P.underlying dst = some (.float .f32)) (s : Bool) (w : World) : (convert src dst (.float .f64 (Ieee.double.word s 9218868437227405312))).run P w = .ok (.float .f32 (Ieee.single.word s 2139095040)) w := by
  obtain ⟨_, _, g3, g4⟩ := s_word s 2139095040 (by omega)
  have := narrow_num hs hd g3 g4 w
  rw [bk_top] at this
  exact this
theorem infm_any (w : World) : Calls Tryd.prog 48 #[.int .i64 (-1)] w fun e w' => e = .returned (.float .f64 18442240474082181120) ∧ w' = w := by
  have ff := run_ffrom
  go_enter Tryd.func48, Tryd.ntmps48
  go_wp2
  go_ret
  exact ⟨rfl, rfl⟩
/-- What is told of what is too great. -/
def endW (m : Int) (s : Bool) : Nat := Ieee.single.word s (if awB m s then 2139095040 else 2139095039)
theorem end_w {m : Int} {s : Bool} (a : Bool) (h : awB m s = a) : endW m s = Ieee.single.word s (if a then 2139095040 else 2139095039) := by unfold endW; rw [h]
theorem end_s {a b : Nat} (h : a = b) : Ending.returned (.float .f32 a) = Ending.returned (.float .f32 b) := by rw [h]
set_option maxHeartbeats 2000000 in
theorem ends_any (s : Bool) (m : Int) (w : World) :
    Calls Tryd.prog 28 #[.bool s, .int .i8 m] w fun e w' => e = .returned (.float .f32 (endW m s)) ∧ w' = w := by
  have i1 := conv_top Tryd.underlying22 Tryd.underlying25 false
  have i2 := conv_top Tryd.underlying22 Tryd.underlying25 true
  rw [show Ieee.double.word false 9218868437227405312 = 9218868437227405312 from rfl] at i1
  rw [show Ieee.double.word true 9218868437227405312 = 18442240474082181120 by decide] at i2
  have HA : Hid (awB m s = (decide (m ≠ 3) && (decide (m ≠ 1) || s) && (decide (m ≠ 2) || !s))) := (show _ = _ from rfl)
  by_cases m3 : m = 3
  · have k3 : (m != 3) = false := by simp [m3]
    have ha : Hid (awB m s = false) := (show awB m s = false by rw [HA.out]; simp [m3])
    clear m3 HA
    cases s
    · go_enter Tryd.func28, Tryd.ntmps28
      go_wp2
      go_ret
      exact ⟨end_s ((end_w _ ha.out).trans (by first | rfl | kernel_rfl)).symm, rfl⟩
    · go_enter Tryd.func28, Tryd.ntmps28
      go_wp2
      go_ret
      exact ⟨end_s ((end_w _ ha.out).trans (by first | rfl | kernel_rfl)).symm, rfl⟩
  · have k3 : (m != 3) = true := by simp [m3]
    by_cases m1 : m = 1
    · have k1 : (m != 1) = false := by simp [m1]
      have k2 : (m != 2) = true := by simp [m1]
      cases s
      · have ha : Hid (awB m false = false) := (show awB m false = false by rw [HA.out]; simp [m1])
        clear m1 m3 HA
        go_enter Tryd.func28, Tryd.ntmps28
        go_wp2
        go_ret
        exact ⟨end_s ((end_w _ ha.out).trans (by first | rfl | kernel_rfl)).symm, rfl⟩
      · have ha : Hid (awB m true = true) := (show awB m true = true by rw [HA.out]; simp [m1])
        clear m1 m3 HA
        go_enter Tryd.func28, Tryd.ntmps28
        go_wp2_with (first | (go_at_call 48; refine (infm_any _).mono ?_; rintro e w' ⟨rfl, rfl⟩))
        go_ret
        exact ⟨end_s ((end_w _ ha.out).trans (by first | rfl | kernel_rfl)).symm, rfl⟩
    · have k1 : (m != 1) = true := by simp [m1]
      by_cases m2 : m = 2
      · have k2 : (m != 2) = false := by simp [m2]
        cases s
        · have ha : Hid (awB m false = true) := (show awB m false = true by rw [HA.out]; simp [m2])
          clear m1 m2 m3 HA
          go_enter Tryd.func28, Tryd.ntmps28
          go_wp2_with (first | (go_at_call 48; refine (inf_any _).mono ?_; rintro e w' ⟨rfl, rfl⟩))
          go_ret
          exact ⟨end_s ((end_w _ ha.out).trans (by first | rfl | kernel_rfl)).symm, rfl⟩
        · have ha : Hid (awB m true = false) := (show awB m true = false by rw [HA.out]; simp [m2])
          clear m1 m2 m3 HA
          go_enter Tryd.func28, Tryd.ntmps28
          go_wp2
          go_ret
          exact ⟨end_s ((end_w _ ha.out).trans (by first | rfl | kernel_rfl)).symm, rfl⟩
      · have k2 : (m != 2) = true := by simp [m2]
        cases s
        · have ha : Hid (awB m false = true) := (show awB m false = true by rw [HA.out]; simp [m1, m2, m3])
          clear m1 m2 m3 HA
          go_enter Tryd.func28, Tryd.ntmps28
          go_wp2_with (first | (go_at_call 48; refine (inf_any _).mono ?_; rintro e w' ⟨rfl, rfl⟩))
          go_ret
          exact ⟨end_s ((end_w _ ha.out).trans (by first | rfl | kernel_rfl)).symm, rfl⟩
        · have ha : Hid (awB m true = true) := (show awB m true = true by rw [HA.out]; simp [m1, m2, m3])
          clear m1 m2 m3 HA
          go_enter Tryd.func28, Tryd.ntmps28
          go_wp2_with (first | (go_at_call 48; refine (infm_any _).mono ?_; rintro e w' ⟨rfl, rfl⟩))
          go_ret
          exact ⟨end_s ((end_w _ ha.out).trans (by first | rfl | kernel_rfl)).symm, rfl⟩
end Go.Proofs.YtekejddblgkcgaaDoor
