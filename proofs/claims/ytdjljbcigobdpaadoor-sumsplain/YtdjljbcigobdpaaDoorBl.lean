/- That the fixed answers of 'awake' (layer 6) are so. -/
import Derived.Test.YtdjljbcigobdpaaDoorBj
import Derived.Test.YtdjljbcigobdpaaDoorBk
namespace Go.Proofs.YtdjljbcigobdpaaDoor
open Go.RowKit

theorem lA_of : ofD 4607182418800017408 = (⟨false, [1], 0⟩, 0) ∧ ofD 4877398396442247168 = (⟨false, [1], 60⟩, 0) ∧ ofD 14100770433297022976 = (⟨true, [1], 60⟩, 0) := ⟨by kernel_rfl, by kernel_rfl, by kernel_rfl⟩
theorem lA_add : addD dy0 ⟨false, [1], 0⟩ = (⟨false, [1], 0⟩, 0) ∧ addD ⟨false, [1], 0⟩ ⟨false, [1], 60⟩ = (⟨false, [1152921504606846977], 0⟩, 0) ∧ addD ⟨false, [1152921504606846977], 0⟩ ⟨true, [1], 60⟩ = (⟨false, [1], 0⟩, 0) := ⟨lA_a1, lA_a2, lA_a3⟩
theorem lA_fw : FW lA := by intro x hx; simp [lA] at hx; omega
set_option maxRecDepth 100000 in
set_option maxHeartbeats 1000000 in
theorem exact_lit (b : Nat) (w : World) (hT : TabW w) (hr : GRow w (some ⟨b, 0, none⟩) lA) :
    Calls Tryd.prog 18 #[.slice (some ⟨b, 0, none⟩) 3 3, .int .i8 0] w fun e w' => e = .returned (.tuple #[.float .f64 4607182418800017408, .int .i64 0]) ∧ Below w.heap.size w w' := by
  have hR : rndW (lT lA.length) 0 = 4607182418800017408 := by kernel_rfl
  have ca := fun w h => allfin_any lA (some ⟨b, 0, none⟩) 3 w h lA_fw (by decide)
  rw [show lA.all finB = true by kernel_rfl] at ca
  have ci := fun B w h1 h2 h3 => innone_any lA (some ⟨b, 0, none⟩) 3 B 0 lD lT w h1 h2 lA_fw (by decide) h3
    (fun k hk => by
      have h3 : k < 3 := hk
      obtain ⟨o1, o2, o3⟩ := lA_of
      rcases (show k = 0 ∨ k = 1 ∨ k = 2 by omega) with rfl | rfl | rfl
      · exact ⟨o1, fun y hy => by simp [lD] at hy; omega⟩
      · exact ⟨o2, fun y hy => by simp [lD] at hy; omega⟩
      · exact ⟨o3, fun y hy => by simp [lD] at hy; omega⟩) rfl
    (fun k hk => by
      have h3 : k < 3 := hk
      obtain ⟨o1, o2, o3⟩ := lA_add
      rcases (show k = 0 ∨ k = 1 ∨ k = 2 by omega) with rfl | rfl | rfl
      · exact o1
      · exact o2
      · exact o3)
    (fun k hk => by
      have h3 : k ≤ 3 := hk
      rcases (show k = 0 ∨ k = 1 ∨ k = 2 ∨ k = 3 by omega) with rfl | rfl | rfl | rfl <;> intro y hy <;> simp [lT, dy0] at hy <;> omega) (by kernel_rfl)
  rw [hR] at ci
  have el : lA.length = 3 := rfl
  rw [el] at ca ci
  clear hR el
  generalize lA = l at *
  go_enter Tryd.func18, Tryd.ntmps18
  go_wp2_with (first
    | (go_at_call 22; refine (ca _ (hr.below ((Below.refl _ _).alloc (Nat.le_refl _) _))).mono ?_; rintro e w' ⟨rfl, rfl⟩)
    | (go_at_call 23; refine (ci _ _ (tabW_alloc hT _) (hr.below ((Below.refl _ _).alloc (Nat.le_refl _) _)) (by go_simp)).mono ?_; rintro e w2 ⟨rfl, b2⟩))
  exact bodyPost_ret (v := .tuple #[.float .f64 4607182418800017408, .int .i64 0]) (by simp [results, Tryd.results18, go_sem]) rfl ⟨rfl, ((Below.refl _ _).alloc (Nat.le_refl _) _).trans (b2.mono (by go_simp))⟩
end Go.Proofs.YtdjljbcigobdpaaDoor
