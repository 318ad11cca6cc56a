/- What the kit's SameMatrix, the law's of, is and awake answer. -/
import Derived.Test.YtfhejejfeffdcaaDoorXm4
import Derived.Test.YtfhejejfeffdcaaDoorA1
namespace Go.Proofs.YtfhejejfeffdcaaDoor
open Go.RowKit

theorem sameM_yes {r c : Int} {xs ys : List Nat} (h : sameL xs ys = true) : sameM r c xs r c ys = true := by
  unfold sameM alikeM
  rw [h]
  simp
theorem LN_some {vs rs : List Nat} (h : LN (vs.map some) rs) : rs = vs := by
  obtain ⟨h1, h2⟩ := h
  rw [List.length_map] at h1 h2
  refine List.ext_getElem h1 fun i hi hj => ?_
  have := (h2 i hj).2
  rw [List.getD_eq_getElem?_getD, List.getElem?_map, List.getElem?_eq_getElem hj, getD_at hi] at this
  exact this
theorem aw_mlA : mlA 2 2 [4607182418800017408, 4611686018427387904, 4613937818241073152, 4616189618054758400] 2 2 [4617315517961601024, 4618441417868443648, 4619567317775286272, 4620693217682128896] = ⟨2, 2, [4626041242239631360, 4626885667169763328, 4631248529308778496, 4632233691727265792].map some, 0⟩ := by kernel_rfl
theorem aw_apA : apA 2 2 [4607182418800017408, 4611686018427387904, 4613937818241073152, 4616189618054758400] [4617315517961601024, 4618441417868443648] = ([4625478292286210048, 4630685579355357184].map some, 0) := by kernel_rfl
theorem fw_lit (xs : List Nat) (h : xs.all (fun x => Nat.blt x 18446744073709551616) = true) : FW xs := fun x hx => by
  have := List.all_eq_true.1 h x hx
  simpa using this
end Go.Proofs.YtfhejejfeffdcaaDoor
