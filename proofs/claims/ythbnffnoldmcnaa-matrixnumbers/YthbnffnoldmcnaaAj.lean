/- What awake of layer 9 answers. -/
import Derived.Test.YthbnffnoldmcnaaAd
import Derived.Test.YthbnffnoldmcnaaAi
namespace Go.Proofs.Ythbnffnoldmcnaa
open Go.RowKit

/-- A list that was written out, in new memory. -/
theorem lit_row (w : World) (cs : Array Value) (xs : List Nat) (t : TypeId) (h : cs.toList = fv xs) : GRow (w.alloc (.cells cs t)) (some ⟨w.heap.size, 0, none⟩) xs := by
  refine Or.inr ⟨w.heap.size, 0, rfl, fun j hj => ?_⟩
  have hc := cell_of_row (w.alloc (.cells cs t)) w.heap.size j cs t (0, 0) (heap_alloc_new _ _)
  rw [Nat.zero_add, hc]
  have : cs.toList[j]? = some (.float .f64 (xs.getD j 0)) := by rw [h]; exact fv_at hj
  simpa using this
theorem below_al (w : World) (o : Obj) : Below w.heap.size w (w.alloc o) := (Below.refl _ _).alloc (Nat.le_refl _) _
theorem LN_two {a b : Nat} {rs : List Nat} (h : LN [some a, some b] rs) : rs = [a, b] := by
  obtain ⟨h1, h2⟩ := h
  match rs, h1 with
  | [x, y], _ =>
    have e1 : x = a := (h2 0 (by simp)).2
    have e2 : y = b := (h2 1 (by simp)).2
    rw [e1, e2]
theorem aw_axpy : tab 2 (axO 4611686018427387904 [4607182418800017408, 4611686018427387904] [4613937818241073152, 4616189618054758400]) = [some 4617315517961601024, some 4620693217682128896] := by kernel_rfl
theorem aw_dot : dotF [4607182418800017408, 4611686018427387904] [4613937818241073152, 4616189618054758400] = some 4622382067542392832 := by kernel_rfl
theorem aw_most : msL [4613937818241073152, 13839561654909534208, 4616189618054758400] 3 = (1, 4616189618054758400) := by kernel_rfl
theorem aw_norm : nrO [4613937818241073152, 13839561654909534208] 2 = some 4619567317775286272 := by kernel_rfl
theorem fw2 {a b : Nat} (ha : a < 18446744073709551616) (hb : b < 18446744073709551616) : FW [a, b] := fun x hx => by
  simp at hx; rcases hx with rfl | rfl <;> assumption
theorem aw_sr (ao bo : Option Addr) (cap : Nat) (w : World) (g1 : GRow w ao [4617315517961601024, 4620693217682128896]) (g2 : GRow w bo [4617315517961601024, 4620693217682128896]) :
    Calls Try.prog 39 #[.slice ao 2 cap, .slice bo 2 2] w fun e w' => e = .returned (.bool true) ∧ Below w.heap.size w w' := by
  have h := sreals_any [4617315517961601024, 4620693217682128896] [4617315517961601024, 4620693217682128896] ao bo cap 2 w g1 g2 (fw2 (by omega) (by omega)) (fw2 (by omega) (by omega)) (by simp) (by simp)
  exact h
theorem aw_nm (ao : Option Addr) (w : World) (g1 : GRow w ao [4613937818241073152, 13839561654909534208]) :
    Calls Try.prog 56 #[.slice ao 2 2] w fun e w' => e = .returned (.float .f64 4619567317775286272) ∧ Below w.heap.size w w' := by
  have h := vnorm_any [4613937818241073152, 13839561654909534208] ao 2 w g1 (fw2 (by omega) (by omega)) (by simp)
  refine Calls.mono h ?_
  rintro e w' ⟨r, rfl, h2, h3⟩
  have e1 : nrO [4613937818241073152, 13839561654909534208] [4613937818241073152, 13839561654909534208].length = some 4619567317775286272 := aw_norm
  rw [e1] at h2
  have e2 : r = 4619567317775286272 := h2.2
  subst e2
  exact ⟨rfl, h3⟩
theorem aw_sm (ao bo : Option Addr) (w : World) (g1 : GRow w ao [0]) (g2 : GRow w bo [9223372036854775808]) :
    Calls Try.prog 61 #[.slice ao 1 1, .slice bo 1 1] w fun e w' => e = .returned (.bool false) ∧ Below w.heap.size w w' := by
  have h := vsame_any [0] [9223372036854775808] ao bo 1 1 w g1 g2 (fun x hx => by simp at hx; omega) (fun x hx => by simp at hx; omega) (by simp) (by simp)
  exact h
set_option maxHeartbeats 400000 in
theorem aw_cs (w : World) : Calls Try.prog 14 #[.float .f64 0, .float .f64 13830554455654793216] w fun e w' => e = .returned (.float .f64 9223372036854775808) ∧ w' = w := by
  have f0 := run_fbits 0
  have f1 := run_fbits 13830554455654793216
  have ff := run_ffrom
  go_enter Try.func14, Try.ntmps14
  go_wp2
  go_ret
  exact ⟨rfl, rfl⟩
theorem row_at {w : World} {cs : Array Value} {xs : List Nat} {t : TypeId} {n : Nat} (hn : w.heap.size = n) (h : cs.toList = fv xs) : GRow (w.alloc (.cells cs t)) (some ⟨n, 0, none⟩) xs := by
  subst hn; exact lit_row w cs xs t h
theorem row_on {w : World} {ao : Option Addr} {xs : List Nat} (h : GRow w ao xs) (o : Obj) : GRow (w.alloc o) ao xs := h.below (below_al w o)
end Go.Proofs.Ythbnffnoldmcnaa
