/- What span's least and greatest (of two), In, and Meet of what is not right, answer, call by call. -/
import Derived.Test.YtnjahgfcijckcaaGreatDoorZj
namespace Go.Proofs.YtnjahgfcijckcaaGreatDoor
open Go.RowKit

set_option maxHeartbeats 1000000 in
theorem sleast_one (x y B : Nat) (hx : x < 18446744073709551616) (hy : y < 18446744073709551616) (w : World) (h0 : w.cell? ⟨B, 0, none⟩ = some (.float .f64 y)) :
    Calls Tryz.prog 31 #[.float .f64 x, .slice (some ⟨B, 0, none⟩) 1 1] w fun e w' => e = .returned (.float .f64 (lsF x y)) ∧ w' = w := by
  obtain ⟨u, hu⟩ : ∃ u, lsF x y = u := ⟨_, rfl⟩
  have E1 : Hid (u = lsF x y) := hu.symm
  rw [hu]
  clear hu
  have co := order_any y x hy hx
  go_enter Tryz.func31, Tryz.ntmps31
  go_wp2
  go_loopg [0, 6, 9] 1 (fun g v _ c wr => ∃ k : Nat, k ≤ 1 ∧ g = 1 - k ∧ c = .int .i64 k ∧ wr = w ∧ v = .float .f64 (if k = 0 then x else u))
  case atStart => exact ⟨0, by omega, rfl, rfl, rfl, rfl⟩
  case round =>
    obtain ⟨k, hk, hg, rfl, rfl, rfl⟩ := hrel
    have HG : Hid (gk = 1 - k) := hg
    clear hg
    rcases (show k = 0 ∨ k = 1 by omega) with rfl | rfl
    · by_cases q : ordF y x < 0
      · have hv : u = y := by rw [E1.out]; unfold lsF; rw [if_pos q]
        go_wp2_with (go_at_call 55; refine (co _).mono ?_; rintro e w' ⟨rfl, rfl⟩)
        go_roundg 0
        case measure => rw [HG.out]; omega
        case rel => exact ⟨1, by omega, rfl, rfl, rfl, by rw [← hv]; rfl⟩
      · have hv : u = x := by rw [E1.out]; unfold lsF; rw [if_neg q]
        go_wp2_with (go_at_call 55; refine (co _).mono ?_; rintro e w' ⟨rfl, rfl⟩)
        go_roundg 0
        case measure => rw [HG.out]; omega
        case rel => exact ⟨1, by omega, rfl, rfl, rfl, by rw [← hv]; rfl⟩
    · go_wp2
      go_ret
      exact ⟨rfl, rfl⟩
set_option maxHeartbeats 1000000 in
theorem sgreatest_one (x y B : Nat) (hx : x < 18446744073709551616) (hy : y < 18446744073709551616) (w : World) (h0 : w.cell? ⟨B, 0, none⟩ = some (.float .f64 y)) :
    Calls Tryz.prog 30 #[.float .f64 x, .slice (some ⟨B, 0, none⟩) 1 1] w fun e w' => e = .returned (.float .f64 (grF x y)) ∧ w' = w := by
  obtain ⟨u, hu⟩ : ∃ u, grF x y = u := ⟨_, rfl⟩
  have E1 : Hid (u = grF x y) := hu.symm
  rw [hu]
  clear hu
  have co := order_any y x hy hx
  go_enter Tryz.func30, Tryz.ntmps30
  go_wp2
  go_loopg [0, 6, 9] 1 (fun g v _ c wr => ∃ k : Nat, k ≤ 1 ∧ g = 1 - k ∧ c = .int .i64 k ∧ wr = w ∧ v = .float .f64 (if k = 0 then x else u))
  case atStart => exact ⟨0, by omega, rfl, rfl, rfl, rfl⟩
  case round =>
    obtain ⟨k, hk, hg, rfl, rfl, rfl⟩ := hrel
    have HG : Hid (gk = 1 - k) := hg
    clear hg
    rcases (show k = 0 ∨ k = 1 by omega) with rfl | rfl
    · by_cases q : 0 < ordF y x
      · have hv : u = y := by rw [E1.out]; unfold grF; rw [if_pos q]
        go_wp2_with (go_at_call 55; refine (co _).mono ?_; rintro e w' ⟨rfl, rfl⟩)
        go_roundg 0
        case measure => rw [HG.out]; omega
        case rel => exact ⟨1, by omega, rfl, rfl, rfl, by rw [← hv]; rfl⟩
      · have hv : u = x := by rw [E1.out]; unfold grF; rw [if_neg q]
        go_wp2_with (go_at_call 55; refine (co _).mono ?_; rintro e w' ⟨rfl, rfl⟩)
        go_roundg 0
        case measure => rw [HG.out]; omega
        case rel => exact ⟨1, by omega, rfl, rfl, rfl, by rw [← hv]; rfl⟩
    · go_wp2
      go_ret
      exact ⟨rfl, rfl⟩
theorem old4' {w w1 : World} {o p q r : Obj} (hb : Below ((((w.alloc o).alloc p).alloc q).alloc r).heap.size ((((w.alloc o).alloc p).alloc q).alloc r) w1) : Below w.heap.size w w1 := old1 (old3 hb)
set_option maxHeartbeats 1600000 in
theorem sin_any (a b c d : Nat) (w : World) :
    Calls Tryz.prog 11 #[spV a b, spV c d] w fun e w' => e = .returned (.bool (sRt a b && sRt c d && leF c a && leF b d)) ∧ Below w.heap.size w w' := by
  have e1 : (FloatKind.f64.format.order c a == some .lt || FloatKind.f64.format.order c a == some .eq) = leF c a := rfl
  have e2 : (FloatKind.f64.format.order b d == some .lt || FloatKind.f64.format.order b d == some .eq) = leF b d := rfl
  obtain ⟨r, hr⟩ : ∃ r, (sRt a b && sRt c d) = r := ⟨_, rfl⟩
  rw [hr]
  cases r
  · go_enter Tryz.func11, Tryz.ntmps11
    go_wp2_with (go_at_call 29; refine (sall_two a b c d _ _ (by go_simp) (by go_simp) (by go_simp) (by go_simp) (by go_simp)).mono ?_; rw [hr]; rintro e w1 ⟨rfl, b1⟩)
    go_ret
    exact ⟨rfl, old3 b1⟩
  · cases q1 : leF c a <;> rw [q1] at e1 <;> cases q2 : leF b d <;> rw [q2] at e2 <;>
      (go_enter Tryz.func11, Tryz.ntmps11
       go_wp2_with (go_at_call 29; refine (sall_two a b c d _ _ (by go_simp) (by go_simp) (by go_simp) (by go_simp) (by go_simp)).mono ?_; rw [hr]; rintro e w1 ⟨rfl, b1⟩; obtain ⟨a0, a1, _⟩ := (((Bx.new _ _ _ _).alloc _).alloc _).below b1; obtain ⟨d0, d1, _⟩ := ((Bx.new1 _ _ _ _ _).alloc _).below b1)
       go_ret
       exact ⟨rfl, old3 b1⟩)
set_option maxHeartbeats 1600000 in
theorem smeet_not (a b c d : Nat) (hr : (sRt a b && sRt c d) = false) (w : World) :
    Calls Tryz.prog 6 #[spV a b, spV c d] w fun e w' => e = .returned (.tuple #[spV 0 0, .int .i64 2]) ∧ Below w.heap.size w w' := by
  have hst := run_storef Tryz.prog
  go_enter Tryz.func6, Tryz.ntmps6
  go_wp2_with (go_at_call 29; refine (sall_two a b c d _ _ (by go_simp) (by go_simp) (by go_simp) (by go_simp) (by go_simp)).mono ?_; rw [hr]; rintro e w1 ⟨rfl, b1⟩; obtain ⟨c0, c1, f0, f1, _⟩ := ((Bx.new2 _ _ _ _ _ _).alloc _).below b1)
  exact bodyPost_ret (v := .tuple #[spV 0 0, .int .i64 2]) (by simp [results, Tryz.results6, go_sem, c0, c1]) rfl ⟨rfl, set2 (old4' b1) (by omega) _ _⟩
end Go.Proofs.YtnjahgfcijckcaaGreatDoor
