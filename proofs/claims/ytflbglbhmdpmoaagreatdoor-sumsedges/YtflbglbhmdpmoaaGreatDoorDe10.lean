/- SumsEdges' walk. -/
import Derived.Test.YtflbglbhmdpmoaaGreatDoorDe9
namespace Go.Proofs.YtflbglbhmdpmoaaGreatDoor
open Go.RowKit
set_option maxRecDepth 100000 in
set_option maxHeartbeats 4000000 in
theorem sedges_law (w : World) (hT : TabW w) :
    Calls Tryz.prog 5 #[] w fun e w' => e = .returned (.bool true) ∧ Below w.heap.size w w' := by
  have hu := run_negf
  have d1 : ∀ W, Calls Tryz.prog 7 #[.slice (some ⟨W.heap.size, 0, none⟩) 1 1, .slice none 0 0] (W.alloc (.cells #[.float .f64 4607182418800017408] 26)) fun e w' => ∃ r, e = .returned (.tuple #[.float .f64 r, .int .i64 4]) ∧ Below W.heap.size W w' := fun W => by
    refine (dot_shape 1 0 _ _ 1 0 _ (by omega)).mono ?_
    rintro e w' ⟨rfl, b⟩
    exact ⟨0, rfl, ((Below.refl _ _).alloc (Nat.le_refl _) _).trans (b.mono (by simp))⟩
  have d2 : ∀ W m, TabW W → Calls Tryz.prog 9 #[.slice (some ⟨W.heap.size, 0, none⟩) 1 1, .slice none 0 0, .int .i8 m] (W.alloc (.cells #[.float .f64 9221120237041090561] 26)) fun e w' => ∃ r, e = .returned (.tuple #[.float .f64 r, .int .i64 4]) ∧ Below W.heap.size W w' := fun W m h => by
    have := dotx_any [9221120237041090561] [] (some ⟨W.heap.size, 0, none⟩) none 1 0 m (W.alloc (.cells #[.float .f64 9221120237041090561] 26)) (tabW_alloc h _) (one_row W _ _) (Or.inl rfl) (fw_one (by decide)) fw_nil (by decide) (by decide)
    refine Calls.mono this ?_
    rintro e w' ⟨rfl, b⟩
    exact ⟨0, rfl, ((Below.refl _ _).alloc (Nat.le_refl _) _).trans (b.mono (by simp))⟩
  have d3 : ∀ W m, TabW W → Calls Tryz.prog 15 #[.slice (some ⟨W.heap.size, 0, none⟩) 1 1, .int .i8 m] (W.alloc (.cells #[.float .f64 9218868437227405312] 26)) fun e w' => ∃ r, e = .returned (.tuple #[.float .f64 r, .int .i64 5]) ∧ Below W.heap.size W w' := fun W m h => by
    have := exact_any [9218868437227405312] (some ⟨W.heap.size, 0, none⟩) 1 m (W.alloc (.cells #[.float .f64 9218868437227405312] 26)) (tabW_alloc h _) (one_row W _ _) (fw_one (by decide)) (by decide)
    rw [show [9218868437227405312].all finB = false by kernel_rfl] at this
    refine Calls.mono this ?_
    rintro e w' ⟨rfl, b⟩
    exact ⟨0, rfl, ((Below.refl _ _).alloc (Nat.le_refl _) _).trans (b.mono (by simp))⟩
  have d4 : ∀ W, TabW W → Calls Tryz.prog 17 #[.slice (some ⟨W.heap.size, 0, none⟩) 2 2] (W.alloc (.cells #[.float .f64 9218868437227405311, .float .f64 9218868437227405311] 26)) fun e w' => ∃ r s, e = .returned (.tuple #[.float .f64 r, .float .f64 s, .int .i64 6]) ∧ Below W.heap.size W w' := fun W h => by
    have := snear_any [9218868437227405311, 9218868437227405311] (some ⟨W.heap.size, 0, none⟩) 2 (W.alloc (.cells #[.float .f64 9218868437227405311, .float .f64 9218868437227405311] 26)) (tabW_alloc h _) (twf_row W _ _ _) (fun x hx => by simp at hx; subst hx; decide) (by decide)
    rw [near_big] at this
    refine Calls.mono this ?_
    rintro e w' ⟨rfl, _, _, b⟩
    exact ⟨0, 0, rfl, ((Below.refl _ _).alloc (Nat.le_refl _) _).trans (b.mono (by simp))⟩
  have hi := inf_any
  go_enter Tryz.func5, Tryz.ntmps5
  go_wp2
  go_loopg [1] 40 (fun g s1 wr => ∃ i : Nat, i ≤ 40 ∧ g = 40 - i ∧ s1 = .int .i64 i ∧ Hid (Below w.heap.size w wr))
  case atStart => exact ⟨0, by omega, rfl, rfl, Below.refl _ _⟩
  case round =>
    obtain ⟨i, hi', hg, rfl, hB⟩ := hrel
    have HG1 : Hid (gk = 40 - i) := hg
    clear hg
    by_cases hlt : i < 40
    · have i1 : (i : Int) < 40 := by omega
      go_wp2
      go_loopg [2] 40 (fun g s2 wr => ∃ j : Nat, j ≤ 40 ∧ g = 40 - j ∧ s2 = .int .i64 j ∧ Hid (Below w.heap.size w wr))
      case atStart => exact ⟨0, by omega, rfl, rfl, hB⟩
      case round =>
        clear hB
        obtain ⟨j, hj, hg, rfl, hB⟩ := hrel
        have HG2 : Hid (gk = 40 - j) := hg
        clear hg
        by_cases hlj : j < 40
        · have i2 : (j : Int) < 40 := by omega
          have bz := hB.out
          have hTr := tabW_below hT bz
          clear hB
          have e1 := edge_in (i : Int) (by omega) (by omega)
          have e2 := edge_in (j : Int) (by omega) (by omega)
          have e3 := edge_in ((3 * (i : Int) + 5 * (j : Int)).tmod 40) (by rw [Int.tmod_eq_emod_of_nonneg (by omega)]; omega) (by rw [Int.tmod_eq_emod_of_nonneg (by omega)]; omega)
          go_upto_region 8 with (first
            | (go_at_call_of 26 (Value.int IntKind.i64 (i : Int)); refine (e1 _).mono ?_; rintro e w' ⟨ra, rfl, ha, h'⟩; subst w')
            | (go_at_call_of 26 (Value.int IntKind.i64 (j : Int)); refine (e2 _).mono ?_; rintro e w' ⟨rb, rfl, hb, h'⟩; subst w')
            | (go_at_call 26; refine (edge_in _ (by omega) (by omega) _).mono ?_; rintro e w' ⟨rc, rfl, hc, h'⟩; subst w'))
          clear e1 e2 e3
          go_upto_region 9 with (fail)
          have hn := negW_lt ha
          have hu2 := hu ra
          clear hu
          generalize negW ra = na at *
          have hL := five_fw ha hb hc hn hb
          have hK := five_fw hc ha hb hc hn
          have r0 := five_row wr ra rb rc na rb 26
          have hTa := tabW_alloc hTr (.cells #[.float .f64 ra, .float .f64 rb, .float .f64 rc, .float .f64 na, .float .f64 rb] 26)
          have ba : Below w.heap.size w (wr.alloc (.cells #[.float .f64 ra, .float .f64 rb, .float .f64 rc, .float .f64 na, .float .f64 rb] 26)) := bz.alloc bz.size _
          generalize hw0 : wr.alloc (.cells #[.float .f64 ra, .float .f64 rb, .float .f64 rc, .float .f64 na, .float .f64 rb] 26) = w0 at *
          generalize wr.heap.size = A at *
          clear hw0
          have c1 := fun W h => two_law ra rb ha hb W h
          have c2 : ∀ W, TabW W → GRow W (some ⟨A, 0, none⟩) [ra, rb, rc, na, rb] → Calls Tryz.prog 28 #[.slice (some ⟨A, 0, none⟩) 5 5] W fun e w' => e = .returned (.bool true) ∧ Below W.heap.size W w' := fun W h1 h2 => plain_law [ra, rb, rc, na, rb] (some ⟨A, 0, none⟩) 5 W h1 h2 hL (by simp) (by omega)
          have c3 : ∀ W m, TabW W → GRow W (some ⟨A, 0, none⟩) [ra, rb, rc, na, rb] → Calls Tryz.prog 29 #[.slice (some ⟨A, 0, none⟩) 5 5, .int .i8 m] W fun e w' => e = .returned (.bool true) ∧ Below W.heap.size W w' := fun W m h1 h2 => exact_law [ra, rb, rc, na, rb] m (some ⟨A, 0, none⟩) 5 W h1 h2 hL (by simp) (by omega)
          have c4 : ∀ W m, TabW W → GRow W (some ⟨A, 0, none⟩) [ra, rb, rc, na, rb] → Calls Tryz.prog 3 #[.slice (some ⟨A, 0, none⟩) 5 5, .slice (some ⟨W.heap.size, 0, none⟩) 5 5, .int .i8 m] (W.alloc (.cells #[.float .f64 rc, .float .f64 ra, .float .f64 rb, .float .f64 rc, .float .f64 na] 26)) fun e w' => e = .returned (.bool true) ∧ Below W.heap.size W w' := fun W m h1 h2 => by
            have q := (Below.refl W.heap.size W).alloc (Nat.le_refl _) (.cells #[.float .f64 rc, .float .f64 ra, .float .f64 rb, .float .f64 rc, .float .f64 na] 26)
            refine Calls.mono (dots_law [ra, rb, rc, na, rb] [rc, ra, rb, rc, na] m (some ⟨A, 0, none⟩) (some ⟨W.heap.size, 0, none⟩) 5 5 (W.alloc (.cells #[.float .f64 rc, .float .f64 ra, .float .f64 rb, .float .f64 rc, .float .f64 na] 26)) (tabW_alloc h1 _) (h2.below q) (five_row W _ _ _ _ _ _) hL hK (by simp) (by simp) (by omega) (by omega)) ?_
            rintro e w' ⟨rfl, b⟩
            exact ⟨rfl, q.trans (b.mono (by simp))⟩
          clear hL hK
          have m1 : (i : Int).tmod 4 = ((i % 4 : Nat) : Int) := by rw [Int.tmod_eq_emod_of_nonneg (by omega)]; omega
          have m2 : (j : Int).tmod 4 = ((j % 4 : Nat) : Int) := by rw [Int.tmod_eq_emod_of_nonneg (by omega)]; omega
          have m3 : i % 4 < 4 := Nat.mod_lt _ (by omega)
          have m4 : j % 4 < 4 := Nat.mod_lt _ (by omega)
          go_upto_region 10 with (first
            | (go_at_call 27; refine (c1 _ hTa).mono ?_; rintro e w1 ⟨rfl, b1⟩; have T1 := tabW_below hTa b1; have r1 := r0.below b1; have B1 := ba.trans (b1.mono ba.size))
            | (go_at_call 28; refine (c2 _ T1 r1).mono ?_; rintro e w2 ⟨rfl, b2⟩; have T2 := tabW_below T1 b2; have r2 := r1.below b2; have B2 := B1.trans (b2.mono B1.size))
            | (go_at_call 29; refine (c3 _ _ T2 r2).mono ?_; rintro e w3 ⟨rfl, b3⟩; have T3 := tabW_below T2 b3; have r3 := r2.below b3; have B3 := B2.trans (b3.mono B2.size))
            | (go_at_call 3; refine (c4 _ _ T3 r3).mono ?_; rintro e w4 ⟨rfl, b4⟩; have B4 := B3.trans (b4.mono B3.size)))
          clear c1 c2 c3 c4 T1 T2 T3 r0 r1 r2 r3 b1 b2 b3 b4 B1 B2 B3 hTa ba hu2
          go_wp2
          go_roundg (40 - (j + 1))
          case measure => rw [HG2.out]; omega
          case rel => exact ⟨j + 1, by omega, rfl, by go_num, (show Below _ _ _ from B4)⟩
        · have ej : j = 40 := by omega
          subst ej
          have bz := hB.out
          clear hB
          go_wp2
          go_roundg (40 - (i + 1))
          case measure => rw [HG1.out]; omega
          case rel => exact ⟨i + 1, by omega, rfl, by go_num, (show Below _ _ _ from bz)⟩
    · have ei : i = 40 := by omega
      subst ei
      have bz := hB.out
      have hTr := tabW_below hT bz
      clear hB
      have hn := nan_tld
      go_wp2_with (first
        | (go_at_call 7; refine (d1 _).mono ?_; rintro e w1 ⟨r1, rfl, b1⟩; have B1 := bz.trans (b1.mono bz.size); have T1 := tabW_below hTr b1)
        | (go_at_call 30; refine (hn _).mono ?_; rintro e w' ⟨rfl, h'⟩; subst w')
        | (go_at_call 9; refine (d2 _ _ T1).mono ?_; rintro e w2 ⟨r2, rfl, b2⟩; have B2 := B1.trans (b2.mono B1.size); have T2 := tabW_below T1 b2)
        | (go_at_call 31; refine (hi _).mono ?_; rintro e w' ⟨rfl, h'⟩; subst w')
        | (go_at_call 15; refine (d3 _ _ T2).mono ?_; rintro e w3 ⟨r3, rfl, b3⟩; have B3 := B2.trans (b3.mono B2.size); have T3 := tabW_below T2 b3)
        | (go_at_call 17; refine (d4 _ T3).mono ?_; rintro e w4 ⟨r4, s4, rfl, b4⟩; have B4 := B3.trans (b4.mono B3.size); have T4 := tabW_below T3 b4)
        | (go_at_call 12; refine (uawake _ T4).mono ?_; rintro e w7 ⟨rfl, b7⟩; have B7 := B4.trans (b7.mono B4.size)))
      go_ret
      exact ⟨rfl, B7⟩
end Go.Proofs.YtflbglbhmdpmoaaGreatDoor
