/- RoundEdges. -/
import Derived.Test.YtalkdjgmblabgaaGreatDoorJm
namespace Go.Proofs.YtalkdjgmblabgaaGreatDoor
open Go.RowKit

theorem odd_conv (w : World) : (convert 3 22 (.int .i64 1)).run Tryz.prog w = .ok (.float .f64 4607182418800017408) w ∧ (convert 3 22 (.int .i64 3)).run Tryz.prog w = .ok (.float .f64 4613937818241073152) w ∧ (convert 3 22 (.int .i64 5)).run Tryz.prog w = .ok (.float .f64 4617315517961601024) w ∧ (convert 3 22 (.int .i64 7)).run Tryz.prog w = .ok (.float .f64 4619567317775286272) w := by
  refine ⟨?_, ?_, ?_, ?_⟩ <;> kernel_rfl
theorem odd_mul : floatBits .mul .f64 4607182418800017408 4372995238176751616 = some 4372995238176751616 ∧ floatBits .mul .f64 4613937818241073152 4372995238176751616 = some 4379750637617807360 ∧ floatBits .mul .f64 4617315517961601024 4372995238176751616 = some 4383128337338335232 ∧ floatBits .mul .f64 4619567317775286272 4372995238176751616 = some 4385380137152020480 := by
  refine ⟨?_, ?_, ?_, ?_⟩ <;> kernel_rfl
theorem odd_add : floatBits .add .f64 4607182418800017408 4372995238176751616 = some 4607182418800017409 ∧ floatBits .add .f64 4607182418800017408 4379750637617807360 = some 4607182418800017411 ∧ floatBits .add .f64 4607182418800017408 4383128337338335232 = some 4607182418800017413 ∧ floatBits .add .f64 4607182418800017408 4385380137152020480 = some 4607182418800017415 := by
  refine ⟨?_, ?_, ?_, ?_⟩ <;> kernel_rfl
theorem w64 (x : Int) : -9223372036854775808 ≤ wrap64 x ∧ wrap64 x ≤ 9223372036854775807 := by unfold wrap64; omega
theorem edge_int (z : Int) (h1 : 0 ≤ z) (h2 : z < 40) (w : World) : Calls Tryz.prog 20 #[.int .i64 z] w (SomeF w) := by
  obtain ⟨n, rfl⟩ := Int.eq_ofNat_of_zero_le h1
  exact edge_some n (by omega) w
set_option maxRecDepth 100000 in
set_option maxHeartbeats 4000000 in
theorem edges_law (w : World) (hT : TabW w) :
    Calls Tryz.prog 6 #[] w fun e w' => e = .returned (.bool true) ∧ Below w.heap.size w w' := by
  have hu := run_negf
  obtain ⟨K1, K2, K3, K4⟩ : (∀ w, (convert 3 22 (.int .i64 1)).run Tryz.prog w = .ok (.float .f64 4607182418800017408) w) ∧ (∀ w, (convert 3 22 (.int .i64 3)).run Tryz.prog w = .ok (.float .f64 4613937818241073152) w) ∧ (∀ w, (convert 3 22 (.int .i64 5)).run Tryz.prog w = .ok (.float .f64 4617315517961601024) w) ∧ (∀ w, (convert 3 22 (.int .i64 7)).run Tryz.prog w = .ok (.float .f64 4619567317775286272) w) := ⟨fun w => (odd_conv w).1, fun w => (odd_conv w).2.1, fun w => (odd_conv w).2.2.1, fun w => (odd_conv w).2.2.2⟩
  have M1 := fun w => run_float_arith (P := Tryz.prog) w .mul 22 .f64 _ _ _ odd_mul.1
  have M2 := fun w => run_float_arith (P := Tryz.prog) w .mul 22 .f64 _ _ _ odd_mul.2.1
  have M3 := fun w => run_float_arith (P := Tryz.prog) w .mul 22 .f64 _ _ _ odd_mul.2.2.1
  have M4 := fun w => run_float_arith (P := Tryz.prog) w .mul 22 .f64 _ _ _ odd_mul.2.2.2
  have A1 := fun w => run_float_arith (P := Tryz.prog) w .add 22 .f64 _ _ _ odd_add.1
  have A2 := fun w => run_float_arith (P := Tryz.prog) w .add 22 .f64 _ _ _ odd_add.2.1
  have A3 := fun w => run_float_arith (P := Tryz.prog) w .add 22 .f64 _ _ _ odd_add.2.2.1
  have A4 := fun w => run_float_arith (P := Tryz.prog) w .add 22 .f64 _ _ _ odd_add.2.2.2
  go_enter Tryz.func6, Tryz.ntmps6
  go_wp2
  go_loopg [1] 6 (fun g k wr => ∃ n : Nat, n ≤ 6 ∧ g = 6 - n ∧ k = .int .i64 n ∧ Hid (Below w.heap.size w wr))
  case atStart => exact ⟨0, by omega, rfl, rfl, Below.refl _ _⟩
  case round =>
    obtain ⟨n, hn, hg, rfl, hB⟩ := hrel
    have HG1 : Hid (gk = 6 - n) := hg
    clear hg
    by_cases hlt : n < 6
    · have i1 : (n : Int) < 6 := by omega
      go_wp2
      go_loopg [3] 40 (fun g k wr => ∃ q : Nat, q ≤ 40 ∧ g = 40 - q ∧ k = .int .i64 q ∧ Hid (Below w.heap.size w wr))
      case atStart => exact ⟨0, by omega, rfl, rfl, hB⟩
      case round =>
        clear hB
        obtain ⟨q, hq, hg, rfl, hB⟩ := hrel
        have HG2 : Hid (gk = 40 - q) := hg
        clear hg
        by_cases hlq : q < 40
        · have i2 : (q : Int) < 40 := by omega
          have bz := hB.out
          have hT2 := tabW_below hT bz
          clear hB
          go_wp2_with (first
            | (go_at_call 20; refine (edge_int _ (by omega) (by omega) _).mono ?_; rintro e w' ⟨ra, rfl, hra, h'⟩; subst w')
            | (go_at_call 4; refine (roots_law _ _ _ (by assumption) (w64 _).1 (w64 _).2 _ hT2).mono ?_; rintro e w1 ⟨rfl, b1⟩; have bz := bz.trans (b1.mono bz.size); have hT2 := tabW_below hT2 b1))
          go_loopg [5] 60 (fun g k wr => ∃ j : Nat, j ≤ 60 ∧ g = 60 - j ∧ k = .int .i64 j ∧ Hid (Below w.heap.size w wr))
          case atStart => exact ⟨0, by omega, rfl, rfl, bz⟩
          case round =>
            clear bz hT2
            obtain ⟨j, hj, hg, rfl, hB⟩ := hrel
            have HG3 : Hid (gk = 60 - j) := hg
            clear hg
            by_cases hlj : j < 60 ∧ n < 4
            · have i3 : (j : Int) < 60 := by omega
              have i4 : (n : Int) < 4 := by omega
              have bz := hB.out
              have hT2 := tabW_below hT bz
              clear hB
              rcases (show (j : Int) % 4 = 0 ∨ (j : Int) % 4 = 1 ∨ (j : Int) % 4 = 2 ∨ (j : Int) % 4 = 3 by omega) with h4 | h4 | h4 | h4 <;> rcases (show (q : Int) % 3 = 0 ∨ (q : Int) % 3 = 1 ∨ (q : Int) % 3 = 2 by omega) with h3 | h3 | h3
              all_goals
                go_wp2_with (first
                  | (go_at_call 21; refine (Ldexp_ok _ _ (by first | decide | (have hh := HV.out ⟨by omega, by omega⟩; omega)) (by first | decide | (have hh := HV.out ⟨by omega, by omega⟩; omega)) (by omega) (by omega) (by first | omega | (have hh := HV.out ⟨by omega, by omega⟩; omega)) _).mono ?_; rintro e w' ⟨R, rfl, hR, HV, h'⟩; subst w')
                  | (go_at_call 3; refine (products_law _ _ _ (by first | assumption | exact negW_lt (by assumption)) (by assumption) _ hT2).mono ?_; rintro e w1 ⟨rfl, b1⟩; have bz := bz.trans (b1.mono bz.size); have hT2 := tabW_below hT2 b1)
                  | (go_at_call 4; refine (roots_law _ _ _ (by assumption) (by first | omega | exact (w64 _).1) (by first | omega | exact (w64 _).2) _ hT2).mono ?_; rintro e w1 ⟨rfl, b1⟩; have bz := bz.trans (b1.mono bz.size); have hT2 := tabW_below hT2 b1))
                go_roundg (60 - (j + 1))
                case measure => rw [HG3.out]; omega
                case rel => exact ⟨j + 1, by omega, rfl, by go_num, bz⟩
            · have i3 : (decide ((j : Int) < 60) && decide ((n : Int) < 4)) = false := by
                rw [Bool.and_eq_false_iff]
                by_cases h : j < 60
                · right; exact decide_eq_false (by omega)
                · left; exact decide_eq_false (by omega)
              have bz := hB.out
              clear hB
              by_cases h60 : j < 60
              · have i5 : (j : Int) < 60 := by omega
                have i6 : ¬ (n : Int) < 4 := by omega
                clear i3
                go_wp2
                go_loopg [8] 40 (fun g k wr => ∃ j : Nat, j ≤ 40 ∧ g = 40 - j ∧ k = .int .i64 j ∧ Hid (Below w.heap.size w wr))
                case atStart => exact ⟨0, by omega, rfl, rfl, bz⟩
                case round =>
                  clear bz
                  obtain ⟨t, ht, hg, rfl, hB⟩ := hrel
                  have HG4 : Hid (gk = 40 - t) := hg
                  clear hg
                  by_cases hlt4 : t < 40
                  · have i7 : (t : Int) < 40 := by omega
                    have bz := hB.out
                    have hT2 := tabW_below hT bz
                    clear hB
                    go_wp2_with (first
                      | (go_at_call 20; refine (edge_int _ (by omega) (by omega) _).mono ?_; rintro e w' ⟨rb, rfl, hrb, h'⟩; subst w')
                      | (go_at_call 22; refine (sums_law _ _ _ (by assumption) (by assumption) _ hT2).mono ?_; rintro e w1 ⟨rfl, b1⟩; have bz := bz.trans (b1.mono bz.size); have hT2 := tabW_below hT2 b1)
                      | (go_at_call 3; refine (products_law _ _ _ (by assumption) (by assumption) _ hT2).mono ?_; rintro e w1 ⟨rfl, b1⟩; have bz := bz.trans (b1.mono bz.size); have hT2 := tabW_below hT2 b1)
                      | (go_at_call 5; refine (fuses_law _ _ _ _ (by assumption) (by assumption) (by assumption) _ hT2).mono ?_; rintro e w1 ⟨rfl, b1⟩; have bz := bz.trans (b1.mono bz.size); have hT2 := tabW_below hT2 b1))
                    go_roundg (40 - (t + 1))
                    case measure => rw [HG4.out]; omega
                    case rel => exact ⟨t + 1, by omega, rfl, by go_num, bz⟩
                  · have i7 : ¬ (t : Int) < 40 := by omega
                    go_wp2
                    go_roundg (40 - (q + 1))
                    case measure => rw [HG2.out]; omega
                    case rel => exact ⟨q + 1, by omega, rfl, by go_num, hB⟩
              · have i5 : ¬ (j : Int) < 60 := by omega
                clear i3
                go_wp2
                go_loopg [8] 40 (fun g k wr => ∃ j : Nat, j ≤ 40 ∧ g = 40 - j ∧ k = .int .i64 j ∧ Hid (Below w.heap.size w wr))
                case atStart => exact ⟨0, by omega, rfl, rfl, bz⟩
                case round =>
                  clear bz
                  obtain ⟨t, ht, hg, rfl, hB⟩ := hrel
                  have HG4 : Hid (gk = 40 - t) := hg
                  clear hg
                  by_cases hlt4 : t < 40
                  · have i7 : (t : Int) < 40 := by omega
                    have bz := hB.out
                    have hT2 := tabW_below hT bz
                    clear hB
                    go_wp2_with (first
                      | (go_at_call 20; refine (edge_int _ (by omega) (by omega) _).mono ?_; rintro e w' ⟨rb, rfl, hrb, h'⟩; subst w')
                      | (go_at_call 22; refine (sums_law _ _ _ (by assumption) (by assumption) _ hT2).mono ?_; rintro e w1 ⟨rfl, b1⟩; have bz := bz.trans (b1.mono bz.size); have hT2 := tabW_below hT2 b1)
                      | (go_at_call 3; refine (products_law _ _ _ (by assumption) (by assumption) _ hT2).mono ?_; rintro e w1 ⟨rfl, b1⟩; have bz := bz.trans (b1.mono bz.size); have hT2 := tabW_below hT2 b1)
                      | (go_at_call 5; refine (fuses_law _ _ _ _ (by assumption) (by assumption) (by assumption) _ hT2).mono ?_; rintro e w1 ⟨rfl, b1⟩; have bz := bz.trans (b1.mono bz.size); have hT2 := tabW_below hT2 b1))
                    go_roundg (40 - (t + 1))
                    case measure => rw [HG4.out]; omega
                    case rel => exact ⟨t + 1, by omega, rfl, by go_num, bz⟩
                  · have i7 : ¬ (t : Int) < 40 := by omega
                    go_wp2
                    go_roundg (40 - (q + 1))
                    case measure => rw [HG2.out]; omega
                    case rel => exact ⟨q + 1, by omega, rfl, by go_num, hB⟩
        · have i2 : ¬ (q : Int) < 40 := by omega
          go_wp2
          go_roundg (6 - (n + 1))
          case measure => rw [HG1.out]; omega
          case rel => exact ⟨n + 1, by omega, rfl, by go_num, hB⟩
    · have i1 : ¬ (n : Int) < 6 := by omega
      have bz := hB.out
      have hT2 := tabW_below hT bz
      clear hB
      go_wp2_with (go_at_call 12; refine (rawake _ hT2).mono ?_; rintro e w1 ⟨rfl, b1⟩)
      go_ret
      exact ⟨rfl, bz.trans (b1.mono bz.size)⟩
end Go.Proofs.YtalkdjgmblabgaaGreatDoor
