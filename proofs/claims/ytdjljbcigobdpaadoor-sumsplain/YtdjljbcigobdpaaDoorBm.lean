/- That the fixed answers of 'awake' (layer 6) are so. -/
import Derived.Test.YtdjljbcigobdpaaDoorBl
namespace Go.Proofs.YtdjljbcigobdpaaDoor
open Go.RowKit

theorem NR_is {v r : Nat} (h : NR (some v) r) : r = v := h.2
theorem lA_naive (b : Nat) (w : World) (hr : GRow w (some ⟨b, 0, none⟩) lA) :
    Calls Tryd.prog 6 #[.slice (some ⟨b, 0, none⟩) 3 3] w fun e w' => e = .returned (.float .f64 0) ∧ Below w.heap.size w w' := by
  refine (naive_any lA (some ⟨b, 0, none⟩) 3 w hr lA_fw (by decide)).mono ?_
  rintro e w' ⟨r, rfl, h, hb⟩
  rw [show naiveO lA = some 0 by kernel_rfl] at h
  exact ⟨by rw [NR_is h], hb⟩
theorem lA_kept (b : Nat) (w : World) (hr : GRow w (some ⟨b, 0, none⟩) lA) :
    Calls Tryd.prog 10 #[.slice (some ⟨b, 0, none⟩) 3 3] w fun e w' => e = .returned (.float .f64 4607182418800017408) ∧ Below w.heap.size w w' := by
  refine (kept_any lA (some ⟨b, 0, none⟩) 3 w hr lA_fw (by decide)).mono ?_
  rintro e w' ⟨r, rfl, h, hb⟩
  rw [show keptO lA = some 4607182418800017408 by kernel_rfl] at h
  exact ⟨by rw [NR_is h], hb⟩
theorem lA_pair (b : Nat) (w : World) (hr : GRow w (some ⟨b, 0, none⟩) lA) :
    Calls Tryd.prog 8 #[.slice (some ⟨b, 0, none⟩) 3 3] w fun e w' => e = .returned (.float .f64 4607182418800017408) ∧ Below w.heap.size w w' := by
  refine (pair_any 3 lA (some ⟨b, 0, none⟩) 3 w (by decide) hr lA_fw (by decide) (by decide)).mono ?_
  rintro e w' ⟨r, rfl, h, hb⟩
  rw [show pairF 3 lA = some 4607182418800017408 by kernel_rfl] at h
  exact ⟨by rw [NR_is h], hb⟩
theorem aw6_two (w : World) : Calls Tryd.prog 19 #[.float .f64 4845873199050653696, .float .f64 4613937818241073152] w fun e w' => e = .returned (.tuple #[.float .f64 4845873199050653698, .float .f64 13830554455654793216]) ∧ w' = w :=
  twosum_lit _ _ 4845873199050653698 4616189618054758400 4845873199050653696 0 13830554455654793216 13830554455654793216 (by kernel_rfl) (by kernel_rfl) (by kernel_rfl) (by kernel_rfl) (by kernel_rfl) (by kernel_rfl) w
set_option maxRecDepth 100000 in
set_option maxHeartbeats 1000000 in
theorem uawake (w : World) (hT : TabW w) :
    Calls Tryd.prog 12 #[] w fun e w' => e = .returned (.bool true) ∧ Below w.heap.size w w' := by
  have q1 : (FloatKind.f64.format.order 0 0 == some .eq) = true := by kernel_rfl
  have q2 : (FloatKind.f64.format.order 4607182418800017408 4607182418800017408 == some .eq) = true := by kernel_rfl
  have q3 : (FloatKind.f64.format.order 4845873199050653698 4845873199050653698 == some .eq) = true := by kernel_rfl
  have q4 : (FloatKind.f64.format.order 13830554455654793216 13830554455654793216 == some .eq) = true := by kernel_rfl
  have q5 : (FloatKind.f64.format.order 4387068987012284416 4387068987012284416 == some .eq) = true := by kernel_rfl
  go_enter Tryd.func12, Tryd.ntmps12
  go_wp2_with (first
    | (go_at_call 18; refine (exact_lit _ _ (tabW_alloc hT _) (three_row _ _ _ _ _)).mono ?_; rintro e w2 ⟨rfl, b2⟩; have g2 := (three_row w 4607182418800017408 4877398396442247168 14100770433297022976 _).below b2; have o2 : Below w.heap.size w w2 := ((Below.refl _ _).alloc (Nat.le_refl _) _).trans (b2.mono (by go_simp)))
    | (go_at_call 19; refine (aw6_two _).mono ?_; rintro e w3 ⟨rfl, h3⟩; subst w3)
    | (go_at_call 20; refine (near_lit _ _ (three_row _ _ _ _ _)).mono ?_; rintro e w4 ⟨rfl, b4⟩; have o4 : Below w2.heap.size w2 w4 := ((Below.refl _ _).alloc (Nat.le_refl _) _).trans (b4.mono (by go_simp)); have g4 := g2.below o4)
    | (go_at_call 6; refine (lA_naive _ _ g4).mono ?_; rintro e w5 ⟨rfl, b5⟩; have g5 := g4.below b5)
    | (go_at_call 8; refine (lA_pair _ _ g5).mono ?_; rintro e w6 ⟨rfl, b6⟩; have g6 := g5.below b6)
    | (go_at_call 10; refine (lA_kept _ _ g6).mono ?_; rintro e w7 ⟨rfl, b7⟩))
  go_ret
  exact ⟨rfl, o2.trans ((o4.trans ((b5.trans ((b6.trans (b7.mono b6.size)).mono b5.size)).mono o4.size)).mono o2.size)⟩
end Go.Proofs.YtdjljbcigobdpaaDoor
