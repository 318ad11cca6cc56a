/- What awake of layer 9 answers. -/
import Derived.Test.YtojdlheblnjoiaaAd
import Derived.Test.YtojdlheblnjoiaaAi
namespace Go.Proofs.Ytojdlheblnjoiaa
open Go.RowKit

/-- A list that was written out, in new memory. -/
theorem lit_row (w : World) (cs : Array Value) (xs : List Nat) (t : TypeId) (h : cs.toList = fv xs) : GRow (w.alloc (.cells cs t)) (some ⟨w.heap.size, 0, none⟩) xs := by
  refine Or.inr ⟨w.heap.size, 0, rfl, fun j hj => ?_⟩
  have hc := cell_of_row (w.alloc (.cells cs t)) w.heap.size j cs t (0, 0) (heap_alloc_new _ _)
  rw [Nat.zero_add, hc]
  have : cs.toList[j]? = some (.float .f64 (xs.getD j 0)) := by rw [h]; exact fv_at hj
  simpa using this
theorem below_al (w : World) (o : Obj) : Below w.heap.size w (w.alloc o) := (Below.refl _ _).alloc (Nat.le_refl _) _
theorem LN_two {a b : Nat} {rs : List Nat} (h : LN [some a, some b] rs) : rs = [a, b] := by
  obtain ⟨h1, h2⟩ := h
  match rs, h1 with
  | [x, y], _ =>
    have e1 : x = a := (h2 0 (by simp)).2
    have e2 : y = b := (h2 1 (by simp)).2
    rw [e1, e2]
theorem aw_axpy : tab 2 (axO 4611686018427387904 [4607182418800017408, 4611686018427387904] [4613937818241073152, 4616189618054758400]) = [some 4617315517961601024, some 4620693217682128896] := by kernel_rfl
theorem aw_dot : dotF [4607182418800017408, 4611686018427387904] [4613937818241073152, 4616189618054758400] = some 4622382067542392832 := by kernel_rfl
theorem aw_most : msL [4613937818241073152, 13839561654909534208, 4616189618054758400] 3 = (1, 4616189618054758400) := by kernel_rfl
theorem aw_norm : nrO [4613937818241073152, 13839561654909534208] 2 = some 4619567317775286272 := by kernel_rfl
theorem fw2 {a b : Nat} (ha : a < 18446744073709551616) (hb : b < 18446744073709551616) : FW [a, b] := fun x hx => by
  simp at hx; rcases hx with rfl | rfl <;> assumption
theorem aw_ax (ao bo : Option Addr) (w : World) (g1 : GRow w ao [4607182418800017408, 4611686018427387904]) (g2 : GRow w bo [4613937818241073152, 4616189618054758400]) :
    Calls Try.prog 12 #[.float .f64 4611686018427387904, .slice ao 2 2, .slice bo 2 2] w fun e w' => ∃ ao cap, e = .returned (.tuple #[.slice ao 2 cap, .int .i64 0]) ∧ GRow w' ao [4617315517961601024, 4620693217682128896] ∧ Below w.heap.size w w' := by
  have h := vaxpy_any 4611686018427387904 [4607182418800017408, 4611686018427387904] [4613937818241073152, 4616189618054758400] ao bo 2 2 w (by omega) g1 g2 (fw2 (by omega) (by omega)) (fw2 (by omega) (by omega)) (by simp) (by simp)
  refine Calls.mono h ?_
  rintro e w' ⟨v, rfl, co, cap, rs, rfl, h2, h3, _, _, h6⟩
  have e1 : ifFit 2 2 (tab 2 (axO 4611686018427387904 [4607182418800017408, 4611686018427387904] [4613937818241073152, 4616189618054758400])) = [some 4617315517961601024, some 4620693217682128896] := aw_axpy
  have e2 : rs = [4617315517961601024, 4620693217682128896] := LN_two (by rw [← e1]; exact h2)
  subst e2
  exact ⟨co, cap, rfl, h3, h6⟩
theorem aw_dt (ao bo : Option Addr) (w : World) (g1 : GRow w ao [4607182418800017408, 4611686018427387904]) (g2 : GRow w bo [4613937818241073152, 4616189618054758400]) :
    Calls Try.prog 14 #[.slice ao 2 2, .slice bo 2 2] w fun e w' => e = .returned (.tuple #[.float .f64 4622382067542392832, .int .i64 0]) ∧ Below w.heap.size w w' := by
  have h := vdot_any [4607182418800017408, 4611686018427387904] [4613937818241073152, 4616189618054758400] ao bo 2 2 w g1 g2 (fw2 (by omega) (by omega)) (fw2 (by omega) (by omega)) (by simp) (by simp)
  refine Calls.mono h ?_
  rintro e w' ⟨r, rfl, h2, h3⟩
  rw [aw_dot] at h2
  have e2 : r = 4622382067542392832 := h2.2
  subst e2
  exact ⟨rfl, h3⟩
theorem aw_ms (ao : Option Addr) (w : World) (g1 : GRow w ao [4613937818241073152, 13839561654909534208, 4616189618054758400]) :
    Calls Try.prog 20 #[.slice ao 3 3] w fun e w' => e = .returned (.tuple #[.int .i64 1, .float .f64 4616189618054758400]) ∧ Below w.heap.size w w' := by
  have h := vmost_any [4613937818241073152, 13839561654909534208, 4616189618054758400] ao 3 w g1 (fun x hx => by simp at hx; omega) (by simp)
  refine Calls.mono h ?_
  rintro e w' ⟨rfl, rfl⟩
  have e1 : msL [4613937818241073152, 13839561654909534208, 4616189618054758400] [4613937818241073152, 13839561654909534208, 4616189618054758400].length = (1, 4616189618054758400) := aw_most
  rw [e1]
  exact ⟨rfl, Below.refl _ _⟩
theorem aw_sr (ao bo : Option Addr) (cap : Nat) (w : World) (g1 : GRow w ao [4617315517961601024, 4620693217682128896]) (g2 : GRow w bo [4617315517961601024, 4620693217682128896]) :
    Calls Try.prog 11 #[.slice ao 2 cap, .slice bo 2 2] w fun e w' => e = .returned (.bool true) ∧ Below w.heap.size w w' := by
  have h := sreals_any [4617315517961601024, 4620693217682128896] [4617315517961601024, 4620693217682128896] ao bo cap 2 w g1 g2 (fw2 (by omega) (by omega)) (fw2 (by omega) (by omega)) (by simp) (by simp)
  exact h
theorem aw_nm (ao : Option Addr) (w : World) (g1 : GRow w ao [4613937818241073152, 13839561654909534208]) :
    Calls Try.prog 24 #[.slice ao 2 2] w fun e w' => e = .returned (.float .f64 4619567317775286272) ∧ Below w.heap.size w w' := by
  have h := vnorm_any [4613937818241073152, 13839561654909534208] ao 2 w g1 (fw2 (by omega) (by omega)) (by simp)
  refine Calls.mono h ?_
  rintro e w' ⟨r, rfl, h2, h3⟩
  have e1 : nrO [4613937818241073152, 13839561654909534208] [4613937818241073152, 13839561654909534208].length = some 4619567317775286272 := aw_norm
  rw [e1] at h2
  have e2 : r = 4619567317775286272 := h2.2
  subst e2
  exact ⟨rfl, h3⟩
theorem aw_sm (ao bo : Option Addr) (w : World) (g1 : GRow w ao [0]) (g2 : GRow w bo [9223372036854775808]) :
    Calls Try.prog 22 #[.slice ao 1 1, .slice bo 1 1] w fun e w' => e = .returned (.bool false) ∧ Below w.heap.size w w' := by
  have h := vsame_any [0] [9223372036854775808] ao bo 1 1 w g1 g2 (fun x hx => by simp at hx; omega) (fun x hx => by simp at hx; omega) (by simp) (by simp)
  exact h
set_option maxHeartbeats 400000 in
theorem aw_cs (w : World) : Calls Try.prog 42 #[.float .f64 0, .float .f64 13830554455654793216] w fun e w' => e = .returned (.float .f64 9223372036854775808) ∧ w' = w := by
  have f0 := run_fbits 0
  have f1 := run_fbits 13830554455654793216
  have ff := run_ffrom
  go_enter Try.func42, Try.ntmps42
  go_wp2
  go_ret
  exact ⟨rfl, rfl⟩
theorem row_at {w : World} {cs : Array Value} {xs : List Nat} {t : TypeId} {n : Nat} (hn : w.heap.size = n) (h : cs.toList = fv xs) : GRow (w.alloc (.cells cs t)) (some ⟨n, 0, none⟩) xs := by
  subst hn; exact lit_row w cs xs t h
theorem row_on {w : World} {ao : Option Addr} {xs : List Nat} (h : GRow w ao xs) (o : Obj) : GRow (w.alloc o) ao xs := h.below (below_al w o)
set_option maxRecDepth 100000 in
set_option maxHeartbeats 2000000 in
theorem vawake (w : World) : Calls Try.prog 19 #[] w fun e w' => e = .returned (.bool true) ∧ Below w.heap.size w w' := by
  have HB0 : Below w.heap.size w w := Below.refl _ _
  go_enter Try.func19, Try.ntmps19
  go_wp2_with (first
    | (go_at_call 12; refine (aw_ax _ _ _ (row_on (row_at rfl rfl) _) (row_at (by simp) rfl)).mono ?_; rintro e w1 ⟨co, cap, rfl, hx, b1⟩; have B1 := ((HB0.alloc (Nat.le_refl _) _).alloc (by simp) _).trans (b1.mono (by simp; omega)); have r1 := (row_on (row_at (w := w) (xs := [4607182418800017408, 4611686018427387904]) rfl rfl) _).below b1; have r2 := (row_at (xs := [4613937818241073152, 4616189618054758400]) (n := w.heap.size + 1) (by simp) rfl).below b1)
    | (go_at_call 14; refine (aw_dt _ _ _ r1 r2).mono ?_; rintro e w2 ⟨rfl, b2⟩; have B2 := B1.trans (b2.mono B1.size); have hx2 := hx.below b2)
    | (go_at_call 20; refine (aw_ms _ _ (row_at rfl rfl)).mono ?_; rintro e w3 ⟨rfl, b3⟩; have B3 := (B2.alloc B2.size _).trans (b3.mono (by have := B2.size; simp; omega)); have hx3 := (row_on hx2 _).below b3)
    | (go_at_call 11; refine (aw_sr _ _ _ _ (row_on hx3 _) (row_at rfl rfl)).mono ?_; rintro e w4 ⟨rfl, b4⟩; have B4 := (B3.alloc B3.size _).trans (b4.mono (by have := B3.size; simp; omega)))
    | (go_at_call 24; refine (aw_nm _ _ (row_at rfl rfl)).mono ?_; rintro e w5 ⟨rfl, b5⟩; have B5 := (B4.alloc B4.size _).trans (b5.mono (by have := B4.size; simp; omega)))
    | (go_at_call 42; refine (aw_cs _).mono ?_; rintro e w' ⟨rfl, h'⟩; subst w')
    | (go_at_call 22; refine (aw_sm _ _ _ (row_on (row_at rfl rfl) _) (row_at (by simp) rfl)).mono ?_; rintro e w6 ⟨rfl, b6⟩; have B6 := ((B5.alloc B5.size _).alloc (by have := B5.size; simp; omega) _).trans (b6.mono (by have := B5.size; simp; omega))))
  go_ret
  exact ⟨rfl, B6⟩
end Go.Proofs.Ytojdlheblnjoiaa
