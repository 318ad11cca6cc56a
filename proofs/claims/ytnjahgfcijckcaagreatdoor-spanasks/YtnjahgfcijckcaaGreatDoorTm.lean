/- What span's Meet and Hull (of two) answer of right spans, call by call. -/
import Derived.Test.YtnjahgfcijckcaaGreatDoorUi
namespace Go.Proofs.YtnjahgfcijckcaaGreatDoor
open Go.RowKit

set_option maxRecDepth 100000 in
set_option maxHeartbeats 40000000 in
theorem smeet_yes (a b c d g l : Nat) (k : Bool) (eg : Hid (g = grF a c)) (el : Hid (l = lsF b d)) (ok : (FloatKind.f64.format.order g l == some .gt) = k) (ha : a < 18446744073709551616) (hb : b < 18446744073709551616) (hc : c < 18446744073709551616) (hd : d < 18446744073709551616) (hr : (sRt a b && sRt c d) = true) (w : World) :
    Calls Tryz.prog 6 #[spV a b, spV c d] w fun e w' => e = .returned (.tuple #[if k then spV 0 0 else spV g l, .int .i64 (if k then 150 else 0)]) ∧ Below w.heap.size w w' := by
  have hst := run_storef Tryz.prog
  have cg := fun B w h => sgreatest_one a c B ha hc w h
  have cl := fun B w h => sleast_one b d B hb hd w h
  rw [← eg.out] at cg
  rw [← el.out] at cl
  clear eg el
  go_enter Tryz.func6, Tryz.ntmps6
  go_upto_region 3 with (go_at_call 29; refine (sall_two a b c d _ _ (by go_simp) (by go_simp) (by go_simp) (by go_simp) (by go_simp)).mono ?_; rw [hr]; rintro e W ⟨rfl, b1⟩)
  have A0 := ((((Bx.new w (.float .f64 a) (.float .f64 b) 24).alloc (.cells #[.float .f64 c, .float .f64 d] 24)).alloc (.cells #[.float .f64 0, .float .f64 0] 24)).alloc _).below b1
  have C0 := (((Bx.new1 w (.float .f64 c) (.float .f64 d) (.cells #[.float .f64 a, .float .f64 b] 24) 24).alloc (.cells #[.float .f64 0, .float .f64 0] 24)).alloc _).below b1
  have R0 := ((Bx.new2 w (.float .f64 0) (.float .f64 0) (.cells #[.float .f64 a, .float .f64 b] 24) (.cells #[.float .f64 c, .float .f64 d] 24) 24).alloc _).below b1
  have Z0 := old4' b1
  have zs := Z0.size
  clear b1
  obtain ⟨p1, hp1⟩ : ∃ p, w.heap.size = p := ⟨_, rfl⟩
  obtain ⟨p2, hp2⟩ : ∃ p, w.heap.size + 1 = p := ⟨_, rfl⟩
  obtain ⟨p3, hp3⟩ : ∃ p, w.heap.size + 1 + 1 = p := ⟨_, rfl⟩
  have hp13 : w.heap.size ≤ p3 := by omega
  rw [hp3] at R0 ⊢
  rw [hp2] at C0 ⊢
  rw [hp1] at A0
  rw [show (Value.pointer (some ⟨w.heap.size, 0, none⟩)) = Value.pointer (some ⟨p1, 0, none⟩) by rw [hp1]]
  clear hp1 hp2 hp3
  obtain ⟨N, hN⟩ : ∃ n, W.heap.size = n := ⟨_, rfl⟩
  have l1 := A0.2.2.2.2
  have l2 := C0.2.2.2.2
  have l3 := R0.2.2.2.2
  rw [hN] at l1 l2 l3
  have m1 : ¬ p1 = N := by omega
  have m2 : ¬ p1 = N + 1 := by omega
  have m3 : ¬ p1 = N + 1 + 1 := by omega
  have m4 : ¬ p2 = N := by omega
  have m5 : ¬ p2 = N + 1 := by omega
  have m6 : ¬ p2 = N + 1 + 1 := by omega
  have m7 : ¬ p3 = N := by omega
  have m8 : ¬ p3 = N + 1 := by omega
  have m9 : ¬ p3 = N + 1 + 1 := by omega
  have m10 : ¬ p1 = N + 2 := by omega
  have m11 : ¬ p2 = N + 2 := by omega
  have m12 : ¬ p3 = N + 2 := by omega
  clear l1 l2 l3
  have t1 : ∀ o q r, (((W.alloc o).alloc q).alloc r).cell? ⟨p1, 0, none⟩ = some (.float .f64 a) := fun o q r => (((A0.alloc o).alloc q).alloc r).1
  have t2 : ∀ o q r, (((W.alloc o).alloc q).alloc r).cell? ⟨p1, 1, none⟩ = some (.float .f64 b) := fun o q r => (((A0.alloc o).alloc q).alloc r).2.1
  have t3 : ∀ o q r, (((W.alloc o).alloc q).alloc r).cell? ⟨p2, 0, none⟩ = some (.float .f64 c) := fun o q r => (((C0.alloc o).alloc q).alloc r).1
  have t4 : ∀ o q r, (((W.alloc o).alloc q).alloc r).cell? ⟨p2, 1, none⟩ = some (.float .f64 d) := fun o q r => (((C0.alloc o).alloc q).alloc r).2.1
  have t5 : ∀ o q r, (((W.alloc o).alloc q).alloc r).cell? ⟨p3, 0, none⟩ = some (.float .f64 0) := fun o q r => (((R0.alloc o).alloc q).alloc r).1
  have t6 : ∀ o q r, (((W.alloc o).alloc q).alloc r).cell? ⟨p3, 1, none⟩ = some (.float .f64 0) := fun o q r => (((R0.alloc o).alloc q).alloc r).2.1
  have t7 : ∀ o q r, (((W.alloc o).alloc q).alloc r).frozen? ⟨p3, 0, none⟩ = false := fun o q r => (((R0.alloc o).alloc q).alloc r).2.2.1
  have t8 : ∀ o q r, (((W.alloc o).alloc q).alloc r).frozen? ⟨p3, 1, none⟩ = false := fun o q r => (((R0.alloc o).alloc q).alloc r).2.2.2.1
  obtain ⟨ka0, ka1, _⟩ := A0
  obtain ⟨kc0, kc1, _⟩ := C0
  obtain ⟨kr0, kr1, kr2, kr3, _⟩ := R0
  go_region_held3 (fun w' => w'.cell? ⟨p1, 0, none⟩ = some (.float .f64 a) ∧ w'.cell? ⟨p1, 1, none⟩ = some (.float .f64 b) ∧ w'.cell? ⟨p2, 0, none⟩ = some (.float .f64 c) ∧ w'.cell? ⟨p2, 1, none⟩ = some (.float .f64 d)) (go_keep)
    (first
      | (go_at_call 30; refine (cg _ _ (by go_simp)).mono ?_; rintro e w' ⟨rfl, rfl⟩)
      | (go_at_call 31; refine (cl _ _ (by go_simp)).mono ?_; rintro e w' ⟨rfl, rfl⟩))
  all_goals
    cases k
    · go_wp2
      exact bodyPost_ret (v := .tuple #[spV g l, .int .i64 0]) (by simp [results, Tryz.results6, go_sem, t5, t6]) rfl ⟨rfl, (by
        repeat' (first | with_reducible exact Z0 | with_reducible refine Below.drew ?_ | with_reducible refine Below.setCell ?_ ?_ _ | with_reducible refine Below.alloc ?_ ?_ _)
        all_goals first | exact hp13 | (simp [go_sem, hN]; omega))⟩
    · go_wp2
      exact bodyPost_ret (v := .tuple #[spV 0 0, .int .i64 150]) (by simp [results, Tryz.results6, go_sem, t5, t6]) rfl ⟨rfl, (by
        repeat' (first | with_reducible exact Z0 | with_reducible refine Below.drew ?_ | with_reducible refine Below.setCell ?_ ?_ _ | with_reducible refine Below.alloc ?_ ?_ _)
        all_goals first | exact hp13 | (simp [go_sem, hN]; omega))⟩
end Go.Proofs.YtnjahgfcijckcaaGreatDoor
