/- What girderref00's Cut answers of a number above 0, downwards. -/
import Derived.Test.YtggdjbdamaeikaaGreatDoorZt
namespace Go.Proofs.YtggdjbdamaeikaaGreatDoor
open Go.RowKit

/-- What is kept of a number's limbs at the power last and above. -/
def cutL (xs : List Nat) (ex last : Int) : List Nat := if last ≤ ex then xs else lo (vl xs / 2 ^ (last - ex).toNat)
set_option maxHeartbeats 1000000 in
theorem cut00_any (xs : List Nat) (ex last : Int) (ao : Option Addr) (cap : Nat) (w : World) (hr : NS w ao cap xs) (hL : Lm xs) (hn : xs.length ≤ 1000000) (h0 : vl xs ≠ 0) (e1 : -65536 ≤ ex) (e2 : ex ≤ 65536) (l1 : -65536 ≤ last) (l2 : last ≤ 65536000) :
    Calls Tryz.prog 86 #[.agg #[.bool false, .slice ao xs.length cap, .int .i64 ex], .int .i64 last, .bool false] w fun e w' => ∃ o c, e = .returned (.agg #[.bool false, .slice o (cutL xs ex last).length c, .int .i64 (max ex last)]) ∧ NS w' o c (cutL xs ex last) ∧ Below w.heap.size w w' := by
  have hZ := fun W (h : NS W ao cap xs) => zero_any ⟨false, xs, ex⟩ ao cap W h hL (by simp only; omega)
  have hz : (vl xs == 0) = false := by simpa using h0
  simp only [hz] at hZ
  have hl0 : xs.length ≠ 0 := fun h => h0 (by rw [List.eq_nil_of_length_eq_zero h]; rfl)
  by_cases hc : last ≤ ex
  · have hC : cutL xs ex last = xs := by unfold cutL; rw [if_pos hc]
    have hm : max ex last = ex := by omega
    rw [hC, hm]
    clear hz hL h0
    go_enter Tryz.func86, Tryz.ntmps86
    go_wp2_with (go_at_call 55; refine (hZ _ (hr.below (((Below.refl _ _).alloc (Nat.le_refl _) _).alloc (by simp) _))).mono ?_; rintro e w1 ⟨rfl, b1⟩; obtain ⟨⟨c0, c1, c2⟩, ⟨d0, d1, d2⟩, ⟨f0, f1, f2⟩, _⟩ := box2 b1)
    refine bodyPost_ret (v := .agg #[.bool false, .slice ao xs.length cap, .int .i64 ex]) (by simp [results, Tryz.results86, go_sem, d0, d1, d2]) rfl ⟨ao, cap, rfl, ?_, box2_end b1 _ _ _⟩
    have h1 := hr.below (box2_old b1)
    have hne : ∀ x off, ao = some ⟨x, off, none⟩ → xs.length ≠ 0 → x ≠ w.heap.size + 1 := fun x off e h0 => by have : x < w.heap.size := row_blk hr.1 e h0; omega
    exact ⟨((h1.1.setCell _ hne).setCell _ hne).setCell _ hne, h1.2⟩
  · have hC : cutL xs ex last = lo (vl xs / 2 ^ (last - ex).toNat) := by unfold cutL; rw [if_neg hc]
    have hm : max ex last = last := by omega
    have hD := fun W (h : NS W ao cap xs) => natDown_any xs ao cap (last - ex).toNat W h hL (by omega) (by omega)
    rw [show (((last - ex).toNat : Nat) : Int) = last - ex by omega] at hD
    rw [hC, hm]
    generalize (vl xs % 2 ^ (last - ex).toNat != 0) = l at hD
    generalize lo (vl xs / 2 ^ (last - ex).toNat) = ys at *
    have hng : ¬ ex ≥ last := by omega
    clear hz hL h0 hC
    cases l
    all_goals
      go_enter Tryz.func86, Tryz.ntmps86
      go_wp2_with (first
        | (go_at_call 55; refine (hZ _ (hr.below (((Below.refl _ _).alloc (Nat.le_refl _) _).alloc (by simp) _))).mono ?_; rintro e w1 ⟨rfl, b1⟩; obtain ⟨⟨c0, c1, c2⟩, ⟨d0, d1, d2⟩, ⟨f0, f1, f2⟩, _⟩ := box2 b1)
        | (go_at_call 111; refine (hD _ (hr.below (box2_old b1))).mono ?_; rintro e w2 ⟨o, c, rfl, h2, g2, b2⟩; have b3 := b1.trans (b2.mono b1.size); clear c0 c1 c2 d0 d1 d2 f0 f1 f2; obtain ⟨⟨c0, c1, c2⟩, ⟨d0, d1, d2⟩, ⟨f0, f1, f2⟩, _⟩ := box2 b3))
      refine bodyPost_ret (v := .agg #[.bool false, .slice o ys.length c, .int .i64 last]) (by simp [results, Tryz.results86, go_sem, d0, d1, d2]) rfl ⟨o, c, rfl, ?_, box2_end b3 _ _ _⟩
      have hs1 := b1.size
      simp at hs1
      have hne : ∀ x off, o = some ⟨x, off, none⟩ → ys.length ≠ 0 → x ≠ w.heap.size + 1 := fun x off e _ => by have h : w1.heap.size ≤ x := g2 _ e; omega
      exact ⟨((h2.1.setCell _ hne).setCell _ hne).setCell _ hne, h2.2⟩
end Go.Proofs.YtggdjbdamaeikaaGreatDoor
