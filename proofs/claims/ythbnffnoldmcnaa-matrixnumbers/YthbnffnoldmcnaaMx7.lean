/- What the kit's SameMatrix, the law's of, is and awake answer. -/
import Derived.Test.YthbnffnoldmcnaaMx6
import Derived.Test.YthbnffnoldmcnaaAj
namespace Go.Proofs.Ythbnffnoldmcnaa
open Go.RowKit

set_option maxHeartbeats 1000000 in
theorem ksame_any (r c : Int) (xs : List Nat) (r2 c2 : Int) (ys : List Nat) (ao bo : Option Addr) (cap cap2 : Nat) (w : World) (hr : GRow w ao xs) (hs : GRow w bo ys) (hF : FW xs) (hG : FW ys) (hn : xs.length ≤ 1125899906842624) (hm : ys.length ≤ 1125899906842624) :
    Calls Try.prog 42 #[mxV r c ao xs.length cap, mxV r2 c2 bo ys.length cap2] w fun e w' => e = .returned (.bool (sameM r c xs r2 c2 ys)) ∧ Below w.heap.size w w' := by
  have cs := fun w h1 h2 => sreals_any xs ys ao bo cap cap2 w h1 h2 hF hG hn hm
  have hb : ∀ o p, Below w.heap.size w ((w.alloc o).alloc p) := fun o p => old_two (Below.refl _ _)
  unfold sameM alikeM
  by_cases h1 : r = r2
  · rw [decide_eq_true h1]
    have b1 : (r == r2) = true := by simp [h1]
    clear h1
    by_cases h2 : c = c2
    · rw [decide_eq_true h2, Bool.true_and, Bool.true_and]
      have b2 : (c == c2) = true := by simp [h2]
      clear h2
      generalize sameL xs ys = q at *
      go_enter Try.func42, Try.ntmps42
      go_wp2_with (go_at_call 39; refine (cs _ (hr.below (hb _ _)) (hs.below (hb _ _))).mono ?_; rintro e w1 ⟨rfl, h1⟩)
      go_ret
      exact ⟨rfl, old_two h1⟩
    · rw [decide_eq_false h2, Bool.true_and, Bool.false_and]
      have b2 : (c == c2) = false := by simp [h2]
      clear h2
      go_enter Try.func42, Try.ntmps42
      go_wp2
      go_ret
      exact ⟨rfl, hb _ _⟩
  · rw [decide_eq_false h1, Bool.false_and, Bool.false_and]
    have b1 : (r == r2) = false := by simp [h1]
    clear h1
    go_enter Try.func42, Try.ntmps42
    go_wp2
    go_ret
    exact ⟨rfl, hb _ _⟩
theorem sameM_yes {r c : Int} {xs ys : List Nat} (h : sameL xs ys = true) : sameM r c xs r c ys = true := by
  unfold sameM alikeM
  rw [h]
  simp
set_option maxHeartbeats 400000 in
theorem lis_any (r c q : Int) (xs ys : List Nat) (ao bo : Option Addr) (cap cap2 : Nat) (w : World) (hr : GRow w ao xs) (hs : GRow w bo ys) (hF : FW xs) (hG : FW ys) (hn : xs.length ≤ 1125899906842624) (hm : ys.length ≤ 1125899906842624) (h : sameL xs ys = true) :
    Calls Try.prog 11 #[mxV r c ao xs.length cap, .int .i64 q, mxV r c bo ys.length cap2, .int .i64 q] w fun e w' => e = .returned (.bool true) ∧ Below w.heap.size w w' := by
  have cs := fun w h1 h2 => ksame_any r c xs r c ys ao bo cap cap2 w h1 h2 hF hG hn hm
  rw [sameM_yes h] at cs
  have hb : ∀ o p, Below w.heap.size w ((w.alloc o).alloc p) := fun o p => old_two (Below.refl _ _)
  have b1 : (q == q) = true := by simp
  go_enter Try.func11, Try.ntmps11
  go_wp2_with (go_at_call 42; refine (cs _ (hr.below (hb _ _)) (hs.below (hb _ _))).mono ?_; rintro e w1 ⟨rfl, h1⟩)
  go_ret
  exact ⟨rfl, old_two h1⟩
/-- Two answers that are told alike are alike. -/
theorem lis_LN (r c q : Int) {os : List (Option Nat)} {xs ys : List Nat} (hx : LN os xs) (hy : LN os ys) (ao bo : Option Addr) (cap cap2 : Nat) (w : World) (hr : GRow w ao xs) (hs : GRow w bo ys) (hl : os.length ≤ 2304) :
    Calls Try.prog 11 #[mxV r c ao xs.length cap, .int .i64 q, mxV r c bo ys.length cap2, .int .i64 q] w fun e w' => e = .returned (.bool true) ∧ Below w.heap.size w w' :=
  lis_any r c q xs ys ao bo cap cap2 w hr hs hx.fw hy.fw (by rw [hx.1]; omega) (by rw [hy.1]; omega) (hx.same hy)
set_option maxHeartbeats 400000 in
theorem lof_any (r c : Int) (ao : Option Addr) (n cap : Nat) (w : World) : Calls Try.prog 12 #[.int .i64 r, .int .i64 c, .slice ao n cap] w fun e w' => e = .returned (mxV r c ao n cap) ∧ Below w.heap.size w w' := by
  go_enter Try.func12, Try.ntmps12
  go_wp2
  exact bodyPost_ret (v := mxV r c ao n cap) (by simp [results, Try.results12, go_sem]) rfl ⟨rfl, below_one _ _⟩
theorem LN_some {vs rs : List Nat} (h : LN (vs.map some) rs) : rs = vs := by
  obtain ⟨h1, h2⟩ := h
  rw [List.length_map] at h1 h2
  refine List.ext_getElem h1 fun i hi hj => ?_
  have := (h2 i hj).2
  rw [List.getD_eq_getElem?_getD, List.getElem?_map, List.getElem?_eq_getElem hj, getD_at hi] at this
  exact this
theorem aw_mlA : mlA 2 2 [4607182418800017408, 4611686018427387904, 4613937818241073152, 4616189618054758400] 2 2 [4617315517961601024, 4618441417868443648, 4619567317775286272, 4620693217682128896] = ⟨2, 2, [4626041242239631360, 4626885667169763328, 4631248529308778496, 4632233691727265792].map some, 0⟩ := by kernel_rfl
theorem aw_apA : apA 2 2 [4607182418800017408, 4611686018427387904, 4613937818241073152, 4616189618054758400] [4617315517961601024, 4618441417868443648] = ([4625478292286210048, 4630685579355357184].map some, 0) := by kernel_rfl
theorem fw_lit (xs : List Nat) (h : xs.all (fun x => Nat.blt x 18446744073709551616) = true) : FW xs := fun x hx => by
  have := List.all_eq_true.1 h x hx
  simpa using this
theorem aw_mm (ao bo : Option Addr) (w : World) (g1 : GRow w ao [4607182418800017408, 4611686018427387904, 4613937818241073152, 4616189618054758400]) (g2 : GRow w bo [4617315517961601024, 4618441417868443648, 4619567317775286272, 4620693217682128896]) :
    Calls Try.prog 13 #[mxV 2 2 ao 4 4, mxV 2 2 bo 4 4] w fun e w' => ∃ zo zc, e = .returned (.tuple #[mxV 2 2 zo 4 zc, .int .i64 0]) ∧ GRow w' zo [4626041242239631360, 4626885667169763328, 4631248529308778496, 4632233691727265792] ∧ Below w.heap.size w w' := by
  have h := mmul_any 2 2 [4607182418800017408, 4611686018427387904, 4613937818241073152, 4616189618054758400] 2 2 [4617315517961601024, 4618441417868443648, 4619567317775286272, 4620693217682128896] ao bo 4 4 w g1 g2 (fw_lit _ (by decide)) (fw_lit _ (by decide))
  rw [aw_mlA] at h
  refine Calls.mono h ?_
  rintro e w' ⟨_, rfl, zo, zc, zs, rfl, h2, h3, _, _, h6⟩
  have e2 := LN_some h2
  subst e2
  exact ⟨zo, zc, rfl, h3, h6⟩
theorem aw_ma (ao bo : Option Addr) (w : World) (g1 : GRow w ao [4607182418800017408, 4611686018427387904, 4613937818241073152, 4616189618054758400]) (g2 : GRow w bo [4617315517961601024, 4618441417868443648]) :
    Calls Try.prog 37 #[mxV 2 2 ao 4 4, .slice bo 2 2] w fun e w' => ∃ zo zc, e = .returned (.tuple #[.slice zo 2 zc, .int .i64 0]) ∧ GRow w' zo [4625478292286210048, 4630685579355357184] ∧ Below w.heap.size w w' := by
  have h := mapply_any 2 2 [4607182418800017408, 4611686018427387904, 4613937818241073152, 4616189618054758400] [4617315517961601024, 4618441417868443648] ao bo 4 2 w g1 g2 (fw_lit _ (by decide)) (fw_lit _ (by decide))
  rw [aw_apA] at h
  refine Calls.mono h ?_
  rintro e w' ⟨_, rfl, zo, zc, zs, rfl, h2, h3, _, _, h6⟩
  have e2 := LN_some h2
  subst e2
  exact ⟨zo, zc, rfl, h3, h6⟩
set_option maxRecDepth 100000 in
theorem aw_is (ao bo : Option Addr) (cap cap2 : Nat) (w : World) (g1 : GRow w ao [4626041242239631360, 4626885667169763328, 4631248529308778496, 4632233691727265792]) (g2 : GRow w bo [4626041242239631360, 4626885667169763328, 4631248529308778496, 4632233691727265792]) :
    Calls Try.prog 11 #[mxV 2 2 ao 4 cap, .int .i64 0, mxV 2 2 bo 4 cap2, .int .i64 0] w fun e w' => e = .returned (.bool true) ∧ Below w.heap.size w w' :=
  lis_any 2 2 0 [4626041242239631360, 4626885667169763328, 4631248529308778496, 4632233691727265792] [4626041242239631360, 4626885667169763328, 4631248529308778496, 4632233691727265792] ao bo cap cap2 w g1 g2 (fw_lit _ (by decide)) (fw_lit _ (by decide)) (by simp) (by simp) (by kernel_rfl)
theorem aw_rl (ao bo : Option Addr) (cap cap2 : Nat) (w : World) (g1 : GRow w ao [4625478292286210048, 4630685579355357184]) (g2 : GRow w bo [4625478292286210048, 4630685579355357184]) :
    Calls Try.prog 39 #[.slice ao 2 cap, .slice bo 2 cap2] w fun e w' => e = .returned (.bool true) ∧ Below w.heap.size w w' := by
  have h := sreals_any [4625478292286210048, 4630685579355357184] [4625478292286210048, 4630685579355357184] ao bo cap cap2 w g1 g2 (fw_lit _ (by decide)) (fw_lit _ (by decide)) (by simp) (by simp)
  rw [show sameL [4625478292286210048, 4630685579355357184] [4625478292286210048, 4630685579355357184] = true by kernel_rfl] at h
  exact h
set_option maxRecDepth 100000 in
set_option maxHeartbeats 2000000 in
theorem mawake (w : World) : Calls Try.prog 20 #[] w fun e w' => e = .returned (.bool true) ∧ Below w.heap.size w w' := by
  have HB : Below w.heap.size w w := Below.refl _ _
  go_enter Try.func20, Try.ntmps20
  go_upto_region 1 with fail
  go_upto_region 2 with (first
    | (go_at_call 13; refine (aw_mm _ _ _ gA gB).mono ?_; rintro e w3 ⟨zo, zc, rfl, gP, b3⟩; have B3' := B2.trans (b3.mono B2.size); have gP' := fun o => row_on gP o)
    | (go_at_call_of 12 (Value.slice (some ⟨w.heap.size, 0, none⟩) 4 4); refine (lof_any _ _ _ _ _ _).mono ?_; rintro e w1 ⟨rfl, b1⟩; have gA0 := (row_at (w := w) (xs := [4607182418800017408, 4611686018427387904, 4613937818241073152, 4616189618054758400]) (t := 31) rfl rfl).below b1; have B1 := (HB.alloc (Nat.le_refl _) _).trans (b1.mono (by simp)))
    | (go_at_call 12; refine (lof_any _ _ _ _ _ _).mono ?_; rintro e w2 ⟨rfl, b2⟩; have gB := (row_at (w := w1) (xs := [4617315517961601024, 4618441417868443648, 4619567317775286272, 4620693217682128896]) (t := 31) rfl rfl).below b2; have gA := (row_on gA0 _).below b2; have B2 := (B1.alloc B1.size _).trans (b2.mono (by have := B1.size; simp; omega))))
  have M0 := B3.new w3 (.int .i64 2) (.int .i64 2) (.slice zo 4 zc) 24
  have gP1 := gP' (.cells #[.int .i64 2, .int .i64 2, .slice zo 4 zc] 24)
  have BP := B3'.alloc B3'.size (.cells #[.int .i64 2, .int .i64 2, .slice zo 4 zc] 24)
  clear gP' gP gA gB gA0 b1 b2 b3 B1 B2 B3'
  generalize w3.alloc (.cells #[.int .i64 2, .int .i64 2, .slice zo 4 zc] 24) = wP at *
  generalize w3.heap.size = P at *
  clear HB
  go_upto_region 3 with (first
    | (go_at_call 37; refine (aw_ma _ _ _ (row_on gA _) (row_at rfl rfl)).mono ?_; rintro e wY ⟨yo, yc, rfl, gY, b2⟩; have B2 := (B1.alloc B1.size _).trans (b2.mono (by have := B1.size; simp; omega)); have M2 := (M1.alloc _).below b2; have gP3 := (row_on gP2 _).below b2)
    | (go_at_call 12; refine (lof_any _ _ _ _ _ _).mono ?_; rintro e wO ⟨rfl, b1⟩; have gA := (row_at (w := wP) (xs := [4607182418800017408, 4611686018427387904, 4613937818241073152, 4616189618054758400]) (t := 31) rfl rfl).below b1; have B1 := (BP.alloc BP.size _).trans (b1.mono (by have := BP.size; simp; omega)); have M1 := (M0.alloc _).below b1; have gP2 := (row_on gP1 _).below b1))
  have m0 := M2.1
  have m1 := M2.2.1
  have m2 := M2.2.2.1
  clear M0 M1 gA gP1 gP2 b1 b2 B1 BP
  go_region_held3 (fun w' => w'.cell? ⟨P, 0, none⟩ = some (.int .i64 2) ∧ w'.cell? ⟨P, 1, none⟩ = some (.int .i64 2) ∧ w'.cell? ⟨P, 2, none⟩ = some (.slice zo 4 zc)) (go_keep) (first
    | (go_at_call 11; refine (aw_is _ _ _ _ _ gP4 gL).mono ?_; rintro e w4 ⟨rfl, b4⟩; have B4 := B3'.trans (b4.mono B3'.size); have gY4 := gY3.below b4; have M4 := M3.below b4; have q0 := M4.1; have q1 := M4.2.1; have q2 := M4.2.2.1)
    | (go_at_call 39; refine (aw_rl _ _ _ _ _ (row_on gY4 _) (row_at rfl rfl)).mono ?_; rintro e w5 ⟨rfl, b5⟩; have M5 := (M4.alloc _).below b5; have q0 := M5.1; have q1 := M5.2.1; have q2 := M5.2.2.1; have B5 := (B4.alloc B4.size _).trans (b5.mono (by have := B4.size; simp; omega)))
    | (go_at_call 12; refine (lof_any _ _ _ _ _ _).mono ?_; rintro e w3 ⟨rfl, b3⟩; replace b3 := undrew b3; have gL := (row_at (w := wY) (xs := [4626041242239631360, 4626885667169763328, 4631248529308778496, 4632233691727265792]) (t := 31) rfl rfl).below b3; have B3' := (B2.alloc B2.size _).trans (b3.mono (by have := B2.size; simp; omega)); have M3 := (M2.alloc _).below b3; have q0 := M3.1; have q1 := M3.2.1; have q2 := M3.2.2.1; have gP4 := (row_on (w := wY) gP3 _).below b3; have gY3 := (row_on (w := wY) gY _).below b3))
  all_goals
    go_wp2
    go_ret
    exact ⟨rfl, B5⟩
end Go.Proofs.Ythbnffnoldmcnaa
