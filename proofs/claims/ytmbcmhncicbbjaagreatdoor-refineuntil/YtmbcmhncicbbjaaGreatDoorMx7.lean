/- What the kit's SameMatrix, the law's of, is and awake answer. -/
import Derived.Test.YtmbcmhncicbbjaaGreatDoorXm4
import Derived.Test.YtmbcmhncicbbjaaGreatDoorA1
namespace Go.Proofs.YtmbcmhncicbbjaaGreatDoor
open Go.RowKit

set_option maxHeartbeats 1000000 in
theorem ksame_any (r c : Int) (xs : List Nat) (r2 c2 : Int) (ys : List Nat) (ao bo : Option Addr) (cap cap2 : Nat) (w : World) (hr : GRow w ao xs) (hs : GRow w bo ys) (hF : FW xs) (hG : FW ys) (hn : xs.length ≤ 1125899906842624) (hm : ys.length ≤ 1125899906842624) :
    Calls Tryz.prog 35 #[mxV r c ao xs.length cap, mxV r2 c2 bo ys.length cap2] w fun e w' => e = .returned (.bool (sameM r c xs r2 c2 ys)) ∧ Below w.heap.size w w' := by
  have cs := fun w h1 h2 => sreals_any xs ys ao bo cap cap2 w h1 h2 hF hG hn hm
  have hb : ∀ o p, Below w.heap.size w ((w.alloc o).alloc p) := fun o p => old_two (Below.refl _ _)
  unfold sameM alikeM
  by_cases h1 : r = r2
  · rw [decide_eq_true h1]
    have b1 : (r == r2) = true := by simp [h1]
    clear h1
    by_cases h2 : c = c2
    · rw [decide_eq_true h2, Bool.true_and, Bool.true_and]
      have b2 : (c == c2) = true := by simp [h2]
      clear h2
      generalize sameL xs ys = q at *
      go_enter Tryz.func35, Tryz.ntmps35
      go_wp2_with (go_at_call 12; refine (cs _ (hr.below (hb _ _)) (hs.below (hb _ _))).mono ?_; rintro e w1 ⟨rfl, h1⟩)
      go_ret
      exact ⟨rfl, old_two h1⟩
    · rw [decide_eq_false h2, Bool.true_and, Bool.false_and]
      have b2 : (c == c2) = false := by simp [h2]
      clear h2
      go_enter Tryz.func35, Tryz.ntmps35
      go_wp2
      go_ret
      exact ⟨rfl, hb _ _⟩
  · rw [decide_eq_false h1, Bool.false_and, Bool.false_and]
    have b1 : (r == r2) = false := by simp [h1]
    clear h1
    go_enter Tryz.func35, Tryz.ntmps35
    go_wp2
    go_ret
    exact ⟨rfl, hb _ _⟩
theorem sameM_yes {r c : Int} {xs ys : List Nat} (h : sameL xs ys = true) : sameM r c xs r c ys = true := by
  unfold sameM alikeM
  rw [h]
  simp
theorem LN_some {vs rs : List Nat} (h : LN (vs.map some) rs) : rs = vs := by
  obtain ⟨h1, h2⟩ := h
  rw [List.length_map] at h1 h2
  refine List.ext_getElem h1 fun i hi hj => ?_
  have := (h2 i hj).2
  rw [List.getD_eq_getElem?_getD, List.getElem?_map, List.getElem?_eq_getElem hj, getD_at hi] at this
  exact this
theorem aw_mlA : mlA 2 2 [4607182418800017408, 4611686018427387904, 4613937818241073152, 4616189618054758400] 2 2 [4617315517961601024, 4618441417868443648, 4619567317775286272, 4620693217682128896] = ⟨2, 2, [4626041242239631360, 4626885667169763328, 4631248529308778496, 4632233691727265792].map some, 0⟩ := by kernel_rfl
theorem aw_apA : apA 2 2 [4607182418800017408, 4611686018427387904, 4613937818241073152, 4616189618054758400] [4617315517961601024, 4618441417868443648] = ([4625478292286210048, 4630685579355357184].map some, 0) := by kernel_rfl
theorem fw_lit (xs : List Nat) (h : xs.all (fun x => Nat.blt x 18446744073709551616) = true) : FW xs := fun x hx => by
  have := List.all_eq_true.1 h x hx
  simpa using this
theorem aw_rl (ao bo : Option Addr) (cap cap2 : Nat) (w : World) (g1 : GRow w ao [4625478292286210048, 4630685579355357184]) (g2 : GRow w bo [4625478292286210048, 4630685579355357184]) :
    Calls Tryz.prog 12 #[.slice ao 2 cap, .slice bo 2 cap2] w fun e w' => e = .returned (.bool true) ∧ Below w.heap.size w w' := by
  have h := sreals_any [4625478292286210048, 4630685579355357184] [4625478292286210048, 4630685579355357184] ao bo cap cap2 w g1 g2 (fw_lit _ (by decide)) (fw_lit _ (by decide)) (by simp) (by simp)
  rw [show sameL [4625478292286210048, 4630685579355357184] [4625478292286210048, 4630685579355357184] = true by kernel_rfl] at h
  exact h
end Go.Proofs.YtmbcmhncicbbjaaGreatDoor
