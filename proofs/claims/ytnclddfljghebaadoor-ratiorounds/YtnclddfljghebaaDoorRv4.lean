/- The document's Whole and Int. -/
import Derived.Test.YtnclddfljghebaaDoorRv3
namespace Go.Proofs.YtnclddfljghebaaDoor
open Go.RowKit

set_option maxHeartbeats 1000000 in
theorem whole7_any (n : Int) (n1 : -9223372036854775808 ≤ n) (n2 : n < 9223372036854775808) (w : World) :
    Calls Tryd.prog 28 #[.int .i64 n] w (GaveFr w (decide (n < 0)) n.natAbs 1) := by
  have RB := B3q.new w (.bool false) (.slice none 0 0) (.slice none 0 0) 52
  have hb0 : Below w.heap.size w (w.alloc (.cells #[.bool false, .slice none 0 0, .slice none 0 0] 52)) := (Below.refl _ _).alloc (Nat.le_refl _) _
  obtain ⟨z, ez⟩ : ∃ z, n.natAbs = z := ⟨_, rfl⟩
  rw [ez]
  have cz := fun W => natOf_any z (by omega) W
  have co := fun W => one7_any W
  go_enter Tryd.func28, Tryd.ntmps28
  go_upto_region 1 with fail
  generalize w.alloc (.cells #[.bool false, .slice none 0 0, .slice none 0 0] 52) = W0 at *
  by_cases h0 : n < 0
  · have u1 : IntKind.u64.wrap n = n + 18446744073709551616 := by rw [IntKind.wrap_u64]; omega
    have u2 : IntKind.u64.wrap (-(n + 18446744073709551616)) = (z : Int) := by rw [IntKind.wrap_u64]; omega
    have hd : decide (n < 0) = true := decide_eq_true h0
    rw [hd]
    clear hd
    go_wp2_with (first
      | (go_at_call 53; refine (cz _).mono ?_; rintro e w1 ⟨ao1, ac1, rfl, k1, _, b1⟩; have RB1 := RB.below b1; have hb1 := hb0.trans (b1.mono hb0.size))
      | (go_at_call 44; refine (co _).mono ?_; rintro e w2 ⟨bo1, bc1, rfl, k2, _, b2⟩; have RB2 := RB1.below b2; obtain ⟨r0, r1, r2, p0, p1, p2, _, _⟩ := id RB2; have hb2 := hb1.trans (b2.mono hb1.size); have k12 := k1.below b2))
    exact bodyPost_ret (v := .agg #[.bool true, .slice ao1 (lo z).length ac1, .slice bo1 (lo 1).length bc1]) (by simp [results, Tryd.results28, go_sem, r0, r1, r2]) rfl ⟨ao1, ac1, bo1, bc1, by rw [decide_eq_true h0], ls_ns ((ns_ls k12).threeB RB2 _ _ _), ls_ns ((ns_ls k2).threeB RB2 _ _ _), below_three hb2 (Nat.le_refl _) _ _ _⟩
  · have u1 : IntKind.u64.wrap n = (z : Int) := by rw [IntKind.wrap_u64]; omega
    have hd : decide (n < 0) = false := decide_eq_false h0
    rw [hd]
    clear hd
    go_wp2_with (first
      | (go_at_call 53; refine (cz _).mono ?_; rintro e w1 ⟨ao1, ac1, rfl, k1, _, b1⟩; have RB1 := RB.below b1; have hb1 := hb0.trans (b1.mono hb0.size))
      | (go_at_call 44; refine (co _).mono ?_; rintro e w2 ⟨bo1, bc1, rfl, k2, _, b2⟩; have RB2 := RB1.below b2; obtain ⟨r0, r1, r2, p0, p1, p2, _, _⟩ := id RB2; have hb2 := hb1.trans (b2.mono hb1.size); have k12 := k1.below b2))
    exact bodyPost_ret (v := .agg #[.bool false, .slice ao1 (lo z).length ac1, .slice bo1 (lo 1).length bc1]) (by simp [results, Tryd.results28, go_sem, r0, r1, r2]) rfl ⟨ao1, ac1, bo1, bc1, by rw [decide_eq_false (show ¬ n < 0 by omega)], ls_ns ((ns_ls k12).threeB RB2 _ _ _), ls_ns ((ns_ls k2).threeB RB2 _ _ _), below_three hb2 (Nat.le_refl _) _ _ _⟩
theorem nm_whole {s : Bool} {z : Nat} (hz : z < 18446744073709551616) (h0 : z = 0 → s = false) : (nmA s z 1).1 = some (s, z, 1) := by
  have hl : nl z ≤ 256 := Nat.le_trans (nl_le (v := z) (n := 1) (by omega)) (by omega)
  obtain ⟨a, _⟩ := nmA_ls (n := s) (N := z) (D := 1) (by omega)
  have e : lsA s z 1 = (s, z, 1) := by
    unfold lsA
    by_cases c : z = 0
    · rw [if_pos c, h0 c, c]
    · rw [if_neg c, Nat.gcd_one_right, Nat.div_one, Nat.div_one]
  rw [e] at a
  exact a ⟨hl, (by show nl 1 ≤ 256; decide)⟩
set_option maxHeartbeats 1000000 in
theorem int7_any (n : Int) (n1 : -9223372036854775808 ≤ n) (n2 : n < 9223372036854775808) (w : World) :
    Calls Tryd.prog 11 #[.int .i64 n] w (GaveI w (decide (n < 0)) n.natAbs 1) := by
  have RB := B3q.new w (.bool false) (.slice none 0 0) (.slice none 0 0) 24
  have hb0 : Below w.heap.size w (w.alloc (.cells #[.bool false, .slice none 0 0, .slice none 0 0] 24)) := (Below.refl _ _).alloc (Nat.le_refl _) _
  have cw := fun W => whole7_any n n1 n2 W
  have hw := nm_whole (s := decide (n < 0)) (z := n.natAbs) (by omega) (fun h => by rw [decide_eq_false (by omega)])
  have hl1 : (lo n.natAbs).length ≤ 1099511627776 := by
    rw [lo_length]
    exact Nat.le_trans (nl_le (v := n.natAbs) (n := 1) (by omega)) (by omega)
  have ct := fun W ao bo ac bc (h1 : NS W ao ac (lo n.natAbs)) (h2 : NS W bo bc (lo 1)) => told7_any (decide (n < 0)) n.natAbs 1 ao bo ac bc W h1 h2 hl1 (by rw [lo1]; simp) (by omega)
  generalize nmA (decide (n < 0)) n.natAbs 1 = q at *
  obtain ⟨o, er⟩ := q
  simp only at hw ct
  subst hw
  unfold GaveR at ct
  generalize decide (n < 0) = s at *
  generalize n.natAbs = z at *
  go_enter Tryd.func11, Tryd.ntmps11
  go_upto_region 1 with fail
  generalize w.alloc (.cells #[.bool false, .slice none 0 0, .slice none 0 0] 24) = W0 at *
  go_upto_region 2 with (first
    | (go_at_call 28; refine (cw _).mono ?_; rintro e w1 ⟨ao1, ac1, bo1, bc1, rfl, k1, k2, b1⟩; have RB1 := RB.below b1; have hb1 := hb0.trans (b1.mono hb0.size))
    | (go_at_call 27; refine (ct _ _ _ _ _ k1 k2).mono ?_; rintro e w2 ⟨ao2, ac2, bo2, bc2, rfl, m1, m2, b2⟩; have RB2 := RB1.below b2; have hb2 := hb1.trans (b2.mono hb1.size)))
  have b3 := (Below.refl w2.heap.size w2).alloc (Nat.le_refl _) (.cells #[.bool s, .slice ao2 (nl z) ac2, .slice bo2 (nl 1) bc2] 24)
  have RB3 := RB2.below b3
  have XB := B3q.new w2 (.bool s) (.slice ao2 (nl z) ac2) (.slice bo2 (nl 1) bc2) 24
  have hb3 := hb2.trans (b3.mono hb2.size)
  have m13 := m1.below b3
  have m23 := m2.below b3
  generalize w2.alloc (.cells #[.bool s, .slice ao2 (nl z) ac2, .slice bo2 (nl 1) bc2] 24) = W3 at *
  generalize w2.heap.size = g at *
  obtain ⟨r0, r1, r2, p0, p1, p2, _, _⟩ := id RB3
  obtain ⟨x0, x1, x2, _, _, _, _, _⟩ := id XB
  go_wp2
  exact bodyPost_ret (v := .agg #[.bool s, .slice ao2 (nl z) ac2, .slice bo2 (nl 1) bc2]) (by simp [results, Tryd.results11, go_sem, r0, r1, r2]) rfl ⟨ao2, ac2, bo2, bc2, rfl, m13.threeB RB3 _ _ _, m23.threeB RB3 _ _ _, below_three hb3 (Nat.le_refl _) _ _ _⟩
end Go.Proofs.YtnclddfljghebaaDoor
