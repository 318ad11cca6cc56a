/- MatrixNumbers: its walk. -/
import Derived.Test.YthbnffnoldmcnaaMx12
import Derived.Test.YthbnffnoldmcnaaMx17
import Derived.Test.YthbnffnoldmcnaaMx18
namespace Go.Proofs.Ythbnffnoldmcnaa
open Go.RowKit

theorem nm_mk1 : mkA 49 1 = ⟨0, 0, [], 2⟩ := by kernel_rfl
theorem nm_mk2 : mkA 1 (-1) = ⟨0, 0, [], 2⟩ := by kernel_rfl
theorem nm_mk3 : mkA 2 0 = ⟨2, 0, [], 0⟩ := by kernel_rfl
theorem nm_id : idA 49 = ⟨0, 0, [], 2⟩ := by kernel_rfl
theorem nm_mk0 : ∃ os, mkA 48 48 = ⟨48, 48, os, 0⟩ ∧ os.length = 2304 := ⟨_, rfl, tabM_len _ _ _⟩
theorem nm_m1 : mlA 1 3 [4845873199050653696, 4607182418800017408, 14069245235905429504] 3 1 [4607182418800017408, 4607182418800017408, 4607182418800017408] = ⟨1, 1, [some 0], 0⟩ := by kernel_rfl
theorem nm_m2 : mlA 1 3 [4845873199050653696, 14069245235905429504, 4607182418800017408] 3 1 [4607182418800017408, 4607182418800017408, 4607182418800017408] = ⟨1, 1, [some 4607182418800017408], 0⟩ := by kernel_rfl
theorem nm_m3 : mlA 1 1 [9223372036854775808] 1 1 [4607182418800017408] = ⟨1, 1, [some 0], 0⟩ := by kernel_rfl
theorem nm_m4 : mlA 1 1 [0] 1 1 [9218868437227405312] = ⟨1, 1, [none], 0⟩ := by kernel_rfl
theorem nm_m5 : mlA 2 0 [] 0 3 [] = ⟨2, 3, [some 0, some 0, some 0, some 0, some 0, some 0], 0⟩ := by kernel_rfl
theorem nm_n1 : nmA 1 2 [4845873199050653696, 4607182418800017408] = (4845873199050653697, 0) := by kernel_rfl
theorem nm_n2 : nmA 1 2 [4607182418800017408, 9221120237041090561] = (0, 5) := by kernel_rfl
theorem nm_n3 : nmA 2 2 [4607182418800017408] = (0, 4) := by kernel_rfl
theorem nm_s : symM 2 2 [4607182418800017408, 0, 9223372036854775808, 4607182418800017408] = false := by kernel_rfl
theorem nm_r : rightM 2 2 3 = false := by kernel_rfl
theorem LN_lit {os : List (Option Nat)} {rs : List Nat} (h1 : rs.length = os.length) (h2 : (List.range os.length).all (fun i => Nat.blt (rs.getD i 0) 18446744073709551616 && match os.getD i none with | some v => Nat.beq (rs.getD i 0) v | none => nanB (rs.getD i 0)) = true) : LN os rs := by
  refine ⟨h1, fun i hi => ?_⟩
  have := List.all_eq_true.1 h2 i (List.mem_range.2 hi)
  simp only [Bool.and_eq_true] at this
  obtain ⟨g1, g2⟩ := this
  refine ⟨by simpa using g1, ?_⟩
  cases hq : os.getD i none with
  | none => rw [hq] at g2; exact g2
  | some v => rw [hq] at g2; exact Nat.eq_of_beq_eq_true g2
set_option maxHeartbeats 400000 in
theorem nm_nan (w : World) : Calls Try.prog 17 #[] w fun e w' => e = .returned (.float .f64 9221120237041090561) ∧ w' = w := by
  have ff := run_ffrom
  go_enter Try.func17, Try.ntmps17
  go_wp2
  go_ret
  exact ⟨rfl, rfl⟩
set_option maxHeartbeats 400000 in
theorem nm_inf (w : World) : Calls Try.prog 15 #[.int .i64 1] w fun e w' => e = .returned (.float .f64 9218868437227405312) ∧ w' = w := by
  have ff := run_ffrom
  go_enter Try.func15, Try.ntmps15
  go_wp2
  go_ret
  exact ⟨rfl, rfl⟩
theorem row_lt {w : World} {ao : Option Addr} {xs : List Nat} (h : GRow w ao xs) (hx : 0 < xs.length) : ∀ q, ao = some q → q.block < w.heap.size := by
  rcases h with h | ⟨b, off, rfl, hc⟩
  · omega
  · intro q e
    cases e
    exact World.block_lt_of_cell? w _ (hc 0 hx)
theorem GRow.off3 {w : World} {ao : Option Addr} {xs : List Nat} {b : Nat} (h : GRow w ao xs) (hn : ∀ q, ao = some q → q.block ≠ b) (x y z : Value) : GRow (((w.setCell ⟨b, 0, none⟩ x).setCell ⟨b, 1, none⟩ y).setCell ⟨b, 2, none⟩ z) ao xs := by
  rcases h with h | ⟨c, off, rfl, hc⟩
  · exact Or.inl h
  · have hcb : c ≠ b := hn _ rfl
    have hne : ∀ o p, (⟨c, o, none⟩ : Addr) ≠ ⟨b, p, none⟩ := fun o p e => by cases e; exact hcb rfl
    have hne' : ∀ o p, (⟨b, p, none⟩ : Addr) ≠ ⟨c, o, none⟩ := fun o p e => by cases e; exact hcb rfl
    refine Or.inr ⟨c, off, rfl, fun j hj => ?_⟩
    exact (World.cell?_setCell_other _ _ _ z (by first | exact hne _ _ | exact hne' _ _)).trans ((World.cell?_setCell_other _ _ _ y (by first | exact hne _ _ | exact hne' _ _)).trans ((World.cell?_setCell_other _ _ _ x (by first | exact hne _ _ | exact hne' _ _)).trans (hc j hj)))
/-- What is done of multiplying a row of three by the column of ones, whatever the order. -/
structure MulS (W : World) (xs : List Nat) (os : List (Option Nat)) (oo : Option Addr) (L : Array Bool) (w' : World) (v0 v1 v2 v3 v4 v5 v6 v7 v9 : Value) (g P : Nat) (zo : Option Addr) (zc : Nat) (zs : List Nat) : Prop where
  bel : Below W.heap.size W w'
  d0 : On L 0 → v0 = .slice (some ⟨g, 0, none⟩) 3 3
  r0 : On L 0 → ¬ On L 3 → GRow w' (some ⟨g, 0, none⟩) xs
  d1 : On L 1 → v1 = mxV 1 3 (some ⟨g, 0, none⟩) 3 3
  d2 : On L 2 → v2 = mxV 3 1 oo 3 3
  d3 : On L 3 → v3 = .tuple #[mxV 1 1 zo zs.length zc, .int .i64 0]
  r3 : On L 3 → LN os zs ∧ GRow w' zo zs ∧ ∀ q, zo = some q → q.block < w'.heap.size
  d4 : On L 4 → v4 = .tuple #[mxV 1 1 zo zs.length zc, .int .i64 0]
  d5 : On L 5 → v5 = mxV 1 1 zo zs.length zc
  d6 : On L 6 → v6 = .int .i64 0
  d7 : On L 7 → v7 = .pointer (some ⟨P, 0, none⟩)
  r7 : On L 7 → (∃ x y z, B3 w' P x y z) ∧ W.heap.size ≤ P ∧ (On L 3 → ∀ q, zo = some q → q.block ≠ P)
  d8 : On L 8 → B3 w' P (.int .i64 1) (.int .i64 1) (.slice zo zs.length zc)
  d9 : On L 9 → v9 = .int .i64 0
  c1 : On L 1 → On L 0
  c3 : On L 3 → On L 0 ∧ On L 1 ∧ On L 2
  c4 : On L 4 → On L 0 ∧ On L 1 ∧ On L 2 ∧ On L 3
  c5 : On L 5 → On L 0 ∧ On L 1 ∧ On L 2 ∧ On L 3 ∧ On L 4
  c6 : On L 6 → On L 0 ∧ On L 1 ∧ On L 2 ∧ On L 3 ∧ On L 4
  c8 : On L 8 → On L 0 ∧ On L 1 ∧ On L 2 ∧ On L 3 ∧ On L 4 ∧ On L 5 ∧ On L 7
  c9 : On L 9 → On L 0 ∧ On L 1 ∧ On L 2 ∧ On L 3 ∧ On L 4 ∧ On L 6
theorem nm_mul {xs : List Nat} {os : List (Option Nat)} (h : mlA 1 3 xs 3 1 [4607182418800017408, 4607182418800017408, 4607182418800017408] = ⟨1, 1, os, 0⟩) (hl : xs.length = 3) (hF : FW xs) (ao bo : Option Addr) (w : World) (g1 : GRow w ao xs) (g2 : GRow w bo [4607182418800017408, 4607182418800017408, 4607182418800017408]) :
    Calls Try.prog 13 #[mxV 1 3 ao 3 3, mxV 3 1 bo 3 3] w fun e w' => ∃ zo zc zs, e = .returned (.tuple #[mxV 1 1 zo zs.length zc, .int .i64 0]) ∧ GvL w os zo zc zs w' := by
  have h2 := mmul_any 1 3 xs 3 1 [4607182418800017408, 4607182418800017408, 4607182418800017408] ao bo 3 3 w g1 g2 hF (fw_lit _ (by decide))
  rw [h, hl] at h2
  refine Calls.mono h2 ?_
  rintro e w' ⟨_, rfl, zo, zc, zs, rfl, hz⟩
  exact ⟨zo, zc, zs, rfl, hz⟩
theorem nm_mul1 {x y : Nat} {os : List (Option Nat)} (h : mlA 1 1 [x] 1 1 [y] = ⟨1, 1, os, 0⟩) (hF : FW [x]) (hG : FW [y]) (ao bo : Option Addr) (w : World) (g1 : GRow w ao [x]) (g2 : GRow w bo [y]) :
    Calls Try.prog 13 #[mxV 1 1 ao 1 1, mxV 1 1 bo 1 1] w fun e w' => ∃ zo zc zs, e = .returned (.tuple #[mxV 1 1 zo zs.length zc, .int .i64 0]) ∧ GvL w os zo zc zs w' := by
  have h2 := mmul_any 1 1 [x] 1 1 [y] ao bo 1 1 w g1 g2 hF hG
  rw [h] at h2
  refine Calls.mono h2 ?_
  rintro e w' ⟨_, rfl, zo, zc, zs, rfl, hz⟩
  exact ⟨zo, zc, zs, rfl, hz⟩
theorem nm_mul0 (w : World) :
    Calls Try.prog 13 #[mxV 2 0 none 0 0, mxV 0 3 none 0 0] w fun e w' => ∃ zo zc zs, e = .returned (.tuple #[mxV 2 3 zo zs.length zc, .int .i64 0]) ∧ GvL w [some 0, some 0, some 0, some 0, some 0, some 0] zo zc zs w' := by
  have h2 := mmul_any 2 0 [] 0 3 [] none none 0 0 w (Or.inl rfl) (Or.inl rfl) (fw_lit _ (by decide)) (fw_lit _ (by decide))
  rw [nm_m5] at h2
  refine Calls.mono h2 ?_
  rintro e w' ⟨_, rfl, zo, zc, zs, rfl, hz⟩
  exact ⟨zo, zc, zs, rfl, hz⟩
theorem nm_norm (r c : Int) {xs : List Nat} {n v : Nat} {q : Int} (h : nmA r c xs = (v, q)) (hl : xs.length = n) (hF : FW xs) (hn : n ≤ 1000) (g : Nat) (w : World) (gr : GRow w (some ⟨g, 0, none⟩) xs) :
    Calls Try.prog 16 #[mxV r c (some ⟨g, 0, none⟩) n n] w fun e w' => e = .returned (.tuple #[.float .f64 v, .int .i64 q]) ∧ Below w.heap.size w w' := by
  have h2 := mnorm_any r c xs (some ⟨g, 0, none⟩) n w gr hF (Or.inr ⟨g, 0, rfl⟩) (by omega) (by omega)
  rw [h, hl] at h2
  exact h2
theorem nm_sym (ao : Option Addr) (w : World) (g : GRow w ao [4607182418800017408, 0, 9223372036854775808, 4607182418800017408]) :
    Calls Try.prog 18 #[mxV 2 2 ao 4 4] w fun e w' => e = .returned (.bool false) ∧ Below w.heap.size w w' := by
  have h := msym_any 2 2 [4607182418800017408, 0, 9223372036854775808, 4607182418800017408] ao 4 w g (fw_lit _ (by decide)) (by decide)
  rw [nm_s] at h
  exact h
theorem nm_right (ao : Option Addr) (w : World) :
    Calls Try.prog 19 #[mxV 2 2 ao 3 3] w fun e w' => e = .returned (.bool false) ∧ Below w.heap.size w w' := by
  have h := mright_any 2 2 ao 3 3 w
  rw [nm_r] at h
  exact h
/-- What is done of the five tests, whatever the order. -/
structure OneS (W : World) (k7 : Nat) (o7 : Option Addr) (l7 : List Nat) (k8 : Nat) (o8 : Option Addr) (l8 : List Nat) (k9 : Nat) (o9 : Option Addr) (l9 : List Nat) (k10 : Nat) (o10 : Option Addr) (l10 : List Nat) (k13 : Nat) (o13 : Option Addr) (l13 : List Nat) (L : Array Bool) (w' : World) (v0 v1 v2 v3 v4 v5 v6 v7 v8 v9 v10 v11 v12 v13 v14 v15 v16 v17 v18 v19 v20 v21 v22 v23 v24 v25 v26 v27 v28 v29 v30 v31 v32 v33 v34 : Value) (g2' g8' g15' g23' g30' : Nat) : Prop where
  bel : Below W.heap.size W w'
  d0 : On L 0 → v0 = (mxV 1 1 o7 l7.length k7)
  d1 : On L 1 → v1 = (.int .i64 0)
  d2 : On L 2 → v2 = (.slice (some ⟨g2', 0, none⟩) 1 1)
  d3 : On L 3 → v3 = (mxV 1 1 (some ⟨g2', 0, none⟩) 1 1)
  d4 : On L 4 → v4 = (.bool true)
  d5 : On L 5 → v5 = (.bool true)
  d6 : On L 6 → v6 = (mxV 1 1 o8 l8.length k8)
  d7 : On L 7 → v7 = (.int .i64 0)
  d8 : On L 8 → v8 = (.slice (some ⟨g8', 0, none⟩) 1 1)
  d9 : On L 9 → v9 = (mxV 1 1 (some ⟨g8', 0, none⟩) 1 1)
  d10 : On L 10 → v10 = (.bool true)
  d11 : On L 11 → v11 = (.bool true)
  d12 : On L 12 → v12 = (.bool true)
  d13 : On L 13 → v13 = (mxV 1 1 o9 l9.length k9)
  d14 : On L 14 → v14 = (.int .i64 0)
  d15 : On L 15 → v15 = (.slice (some ⟨g15', 0, none⟩) 1 1)
  d16 : On L 16 → v16 = (mxV 1 1 (some ⟨g15', 0, none⟩) 1 1)
  d17 : On L 17 → v17 = (.bool true)
  d18 : On L 18 → v18 = (.bool true)
  d19 : On L 19 → v19 = (.bool true)
  d20 : On L 20 → v20 = (mxV 1 1 o10 l10.length k10)
  d21 : On L 21 → v21 = (.int .i64 0)
  d22 : On L 22 → v22 = (.float .f64 9221120237041090561)
  d23 : On L 23 → v23 = (.slice (some ⟨g23', 0, none⟩) 1 1)
  d24 : On L 24 → v24 = (mxV 1 1 (some ⟨g23', 0, none⟩) 1 1)
  d25 : On L 25 → v25 = (.bool true)
  d26 : On L 26 → v26 = (.bool true)
  d27 : On L 27 → v27 = (.bool true)
  d28 : On L 28 → v28 = (mxV 2 3 o13 l13.length k13)
  d29 : On L 29 → v29 = (.int .i64 0)
  d30 : On L 30 → v30 = (.slice (some ⟨g30', 0, none⟩) 6 6)
  d31 : On L 31 → v31 = (mxV 2 3 (some ⟨g30', 0, none⟩) 6 6)
  d32 : On L 32 → v32 = (.bool true)
  d33 : On L 33 → v33 = (.bool true)
  d34 : On L 34 → v34 = (.bool true)
  r2 : On L 2 → GRow w' (some ⟨g2', 0, none⟩) [0]
  c2 : On L 3 → On L 2
  r8 : On L 8 → GRow w' (some ⟨g8', 0, none⟩) [4607182418800017408]
  c8 : On L 9 → On L 8
  r15 : On L 15 → GRow w' (some ⟨g15', 0, none⟩) [0]
  c15 : On L 16 → On L 15
  r23 : On L 23 → GRow w' (some ⟨g23', 0, none⟩) [9221120237041090561]
  c23 : On L 24 → On L 23
  r30 : On L 30 → GRow w' (some ⟨g30', 0, none⟩) [0, 0, 0, 0, 0, 0]
  c30 : On L 31 → On L 30
theorem nm_is (r c q : Int) {os : List (Option Nat)} {xs ys : List Nat} {n : Nat} (hx : LN os xs) (hy : LN os ys) (hl : ys.length = n) (ao bo : Option Addr) (cap cap2 : Nat) (w : World) (hr : GRow w ao xs) (hs : GRow w bo ys) (ho : os.length ≤ 2304) :
    Calls Try.prog 11 #[mxV r c ao xs.length cap, .int .i64 q, mxV r c bo n cap2, .int .i64 q] w fun e w' => e = .returned (.bool true) ∧ Below w.heap.size w w' := by
  subst hl
  exact lis_LN r c q hx hy ao bo cap cap2 w hr hs ho
theorem one_0 {W w' : World} {k7 : Nat} {o7 : Option Addr} {l7 : List Nat} {k8 : Nat} {o8 : Option Addr} {l8 : List Nat} {k9 : Nat} {o9 : Option Addr} {l9 : List Nat} {k10 : Nat} {o10 : Option Addr} {l10 : List Nat} {k13 : Nat} {o13 : Option Addr} {l13 : List Nat} {L : Array Bool} {v0 v1 v2 v3 v4 v5 v6 v7 v8 v9 v10 v11 v12 v13 v14 v15 v16 v17 v18 v19 v20 v21 v22 v23 v24 v25 v26 v27 v28 v29 v30 v31 v32 v33 v34 : Value} {g2' g8' g15' g23' g30' : Nat} (hS : OneS W k7 o7 l7 k8 o8 l8 k9 o9 l9 k10 o10 l10 k13 o13 l13 L w' v0 v1 v2 v3 v4 v5 v6 v7 v8 v9 v10 v11 v12 v13 v14 v15 v16 v17 v18 v19 v20 v21 v22 v23 v24 v25 v26 v27 v28 v29 v30 v31 v32 v33 v34 g2' g8' g15' g23' g30') (ho : ∀ k, On (L.setIfInBounds 0 true) k ↔ k = 0 ∨ On L k) : OneS W k7 o7 l7 k8 o8 l8 k9 o9 l9 k10 o10 l10 k13 o13 l13 (L.setIfInBounds 0 true) w' (mxV 1 1 o7 l7.length k7) v1 v2 v3 v4 v5 v6 v7 v8 v9 v10 v11 v12 v13 v14 v15 v16 v17 v18 v19 v20 v21 v22 v23 v24 v25 v26 v27 v28 v29 v30 v31 v32 v33 v34 g2' g8' g15' g23' g30' := by
  have o : ∀ k, k ≠ 0 → On (L.setIfInBounds 0 true) k → On L k := fun k hk h => ((ho k).1 h).resolve_left hk
  exact ⟨hS.bel, fun _ => rfl, fun h => hS.d1 (o 1 (by decide) h), fun h => hS.d2 (o 2 (by decide) h), fun h => hS.d3 (o 3 (by decide) h), fun h => hS.d4 (o 4 (by decide) h), fun h => hS.d5 (o 5 (by decide) h), fun h => hS.d6 (o 6 (by decide) h), fun h => hS.d7 (o 7 (by decide) h), fun h => hS.d8 (o 8 (by decide) h), fun h => hS.d9 (o 9 (by decide) h), fun h => hS.d10 (o 10 (by decide) h), fun h => hS.d11 (o 11 (by decide) h), fun h => hS.d12 (o 12 (by decide) h), fun h => hS.d13 (o 13 (by decide) h), fun h => hS.d14 (o 14 (by decide) h), fun h => hS.d15 (o 15 (by decide) h), fun h => hS.d16 (o 16 (by decide) h), fun h => hS.d17 (o 17 (by decide) h), fun h => hS.d18 (o 18 (by decide) h), fun h => hS.d19 (o 19 (by decide) h), fun h => hS.d20 (o 20 (by decide) h), fun h => hS.d21 (o 21 (by decide) h), fun h => hS.d22 (o 22 (by decide) h), fun h => hS.d23 (o 23 (by decide) h), fun h => hS.d24 (o 24 (by decide) h), fun h => hS.d25 (o 25 (by decide) h), fun h => hS.d26 (o 26 (by decide) h), fun h => hS.d27 (o 27 (by decide) h), fun h => hS.d28 (o 28 (by decide) h), fun h => hS.d29 (o 29 (by decide) h), fun h => hS.d30 (o 30 (by decide) h), fun h => hS.d31 (o 31 (by decide) h), fun h => hS.d32 (o 32 (by decide) h), fun h => hS.d33 (o 33 (by decide) h), fun h => hS.d34 (o 34 (by decide) h), fun h => hS.r2 (o 2 (by decide) h), fun h => (ho 2).2 (Or.inr (hS.c2 (o 3 (by decide) h))), fun h => hS.r8 (o 8 (by decide) h), fun h => (ho 8).2 (Or.inr (hS.c8 (o 9 (by decide) h))), fun h => hS.r15 (o 15 (by decide) h), fun h => (ho 15).2 (Or.inr (hS.c15 (o 16 (by decide) h))), fun h => hS.r23 (o 23 (by decide) h), fun h => (ho 23).2 (Or.inr (hS.c23 (o 24 (by decide) h))), fun h => hS.r30 (o 30 (by decide) h), fun h => (ho 30).2 (Or.inr (hS.c30 (o 31 (by decide) h)))⟩
theorem one_1 {W w' : World} {k7 : Nat} {o7 : Option Addr} {l7 : List Nat} {k8 : Nat} {o8 : Option Addr} {l8 : List Nat} {k9 : Nat} {o9 : Option Addr} {l9 : List Nat} {k10 : Nat} {o10 : Option Addr} {l10 : List Nat} {k13 : Nat} {o13 : Option Addr} {l13 : List Nat} {L : Array Bool} {v0 v1 v2 v3 v4 v5 v6 v7 v8 v9 v10 v11 v12 v13 v14 v15 v16 v17 v18 v19 v20 v21 v22 v23 v24 v25 v26 v27 v28 v29 v30 v31 v32 v33 v34 : Value} {g2' g8' g15' g23' g30' : Nat} (hS : OneS W k7 o7 l7 k8 o8 l8 k9 o9 l9 k10 o10 l10 k13 o13 l13 L w' v0 v1 v2 v3 v4 v5 v6 v7 v8 v9 v10 v11 v12 v13 v14 v15 v16 v17 v18 v19 v20 v21 v22 v23 v24 v25 v26 v27 v28 v29 v30 v31 v32 v33 v34 g2' g8' g15' g23' g30') (ho : ∀ k, On (L.setIfInBounds 1 true) k ↔ k = 1 ∨ On L k) : OneS W k7 o7 l7 k8 o8 l8 k9 o9 l9 k10 o10 l10 k13 o13 l13 (L.setIfInBounds 1 true) w' v0 (.int .i64 0) v2 v3 v4 v5 v6 v7 v8 v9 v10 v11 v12 v13 v14 v15 v16 v17 v18 v19 v20 v21 v22 v23 v24 v25 v26 v27 v28 v29 v30 v31 v32 v33 v34 g2' g8' g15' g23' g30' := by
  have o : ∀ k, k ≠ 1 → On (L.setIfInBounds 1 true) k → On L k := fun k hk h => ((ho k).1 h).resolve_left hk
  exact ⟨hS.bel, fun h => hS.d0 (o 0 (by decide) h), fun _ => rfl, fun h => hS.d2 (o 2 (by decide) h), fun h => hS.d3 (o 3 (by decide) h), fun h => hS.d4 (o 4 (by decide) h), fun h => hS.d5 (o 5 (by decide) h), fun h => hS.d6 (o 6 (by decide) h), fun h => hS.d7 (o 7 (by decide) h), fun h => hS.d8 (o 8 (by decide) h), fun h => hS.d9 (o 9 (by decide) h), fun h => hS.d10 (o 10 (by decide) h), fun h => hS.d11 (o 11 (by decide) h), fun h => hS.d12 (o 12 (by decide) h), fun h => hS.d13 (o 13 (by decide) h), fun h => hS.d14 (o 14 (by decide) h), fun h => hS.d15 (o 15 (by decide) h), fun h => hS.d16 (o 16 (by decide) h), fun h => hS.d17 (o 17 (by decide) h), fun h => hS.d18 (o 18 (by decide) h), fun h => hS.d19 (o 19 (by decide) h), fun h => hS.d20 (o 20 (by decide) h), fun h => hS.d21 (o 21 (by decide) h), fun h => hS.d22 (o 22 (by decide) h), fun h => hS.d23 (o 23 (by decide) h), fun h => hS.d24 (o 24 (by decide) h), fun h => hS.d25 (o 25 (by decide) h), fun h => hS.d26 (o 26 (by decide) h), fun h => hS.d27 (o 27 (by decide) h), fun h => hS.d28 (o 28 (by decide) h), fun h => hS.d29 (o 29 (by decide) h), fun h => hS.d30 (o 30 (by decide) h), fun h => hS.d31 (o 31 (by decide) h), fun h => hS.d32 (o 32 (by decide) h), fun h => hS.d33 (o 33 (by decide) h), fun h => hS.d34 (o 34 (by decide) h), fun h => hS.r2 (o 2 (by decide) h), fun h => (ho 2).2 (Or.inr (hS.c2 (o 3 (by decide) h))), fun h => hS.r8 (o 8 (by decide) h), fun h => (ho 8).2 (Or.inr (hS.c8 (o 9 (by decide) h))), fun h => hS.r15 (o 15 (by decide) h), fun h => (ho 15).2 (Or.inr (hS.c15 (o 16 (by decide) h))), fun h => hS.r23 (o 23 (by decide) h), fun h => (ho 23).2 (Or.inr (hS.c23 (o 24 (by decide) h))), fun h => hS.r30 (o 30 (by decide) h), fun h => (ho 30).2 (Or.inr (hS.c30 (o 31 (by decide) h)))⟩
theorem one_2 {W w' : World} {k7 : Nat} {o7 : Option Addr} {l7 : List Nat} {k8 : Nat} {o8 : Option Addr} {l8 : List Nat} {k9 : Nat} {o9 : Option Addr} {l9 : List Nat} {k10 : Nat} {o10 : Option Addr} {l10 : List Nat} {k13 : Nat} {o13 : Option Addr} {l13 : List Nat} {L : Array Bool} {v0 v1 v2 v3 v4 v5 v6 v7 v8 v9 v10 v11 v12 v13 v14 v15 v16 v17 v18 v19 v20 v21 v22 v23 v24 v25 v26 v27 v28 v29 v30 v31 v32 v33 v34 : Value} {g2' g8' g15' g23' g30' : Nat} (hS : OneS W k7 o7 l7 k8 o8 l8 k9 o9 l9 k10 o10 l10 k13 o13 l13 L w' v0 v1 v2 v3 v4 v5 v6 v7 v8 v9 v10 v11 v12 v13 v14 v15 v16 v17 v18 v19 v20 v21 v22 v23 v24 v25 v26 v27 v28 v29 v30 v31 v32 v33 v34 g2' g8' g15' g23' g30') (ho : ∀ k, On (L.setIfInBounds 2 true) k ↔ k = 2 ∨ On L k) {w2 : World} (hb : Below w'.heap.size w' w2) {G : Nat} (hr : GRow w2 (some ⟨G, 0, none⟩) [0]) (hno : ¬ On L 2) : OneS W k7 o7 l7 k8 o8 l8 k9 o9 l9 k10 o10 l10 k13 o13 l13 (L.setIfInBounds 2 true) w2 v0 v1 (.slice (some ⟨G, 0, none⟩) 1 1) v3 v4 v5 v6 v7 v8 v9 v10 v11 v12 v13 v14 v15 v16 v17 v18 v19 v20 v21 v22 v23 v24 v25 v26 v27 v28 v29 v30 v31 v32 v33 v34 G g8' g15' g23' g30' := by
  have o : ∀ k, k ≠ 2 → On (L.setIfInBounds 2 true) k → On L k := fun k hk h => ((ho k).1 h).resolve_left hk
  exact ⟨hS.bel.trans (hb.mono hS.bel.size), fun h => hS.d0 (o 0 (by decide) h), fun h => hS.d1 (o 1 (by decide) h), fun _ => rfl, fun h => absurd (hS.c2 (o 3 (by decide) h)) hno, fun h => hS.d4 (o 4 (by decide) h), fun h => hS.d5 (o 5 (by decide) h), fun h => hS.d6 (o 6 (by decide) h), fun h => hS.d7 (o 7 (by decide) h), fun h => hS.d8 (o 8 (by decide) h), fun h => hS.d9 (o 9 (by decide) h), fun h => hS.d10 (o 10 (by decide) h), fun h => hS.d11 (o 11 (by decide) h), fun h => hS.d12 (o 12 (by decide) h), fun h => hS.d13 (o 13 (by decide) h), fun h => hS.d14 (o 14 (by decide) h), fun h => hS.d15 (o 15 (by decide) h), fun h => hS.d16 (o 16 (by decide) h), fun h => hS.d17 (o 17 (by decide) h), fun h => hS.d18 (o 18 (by decide) h), fun h => hS.d19 (o 19 (by decide) h), fun h => hS.d20 (o 20 (by decide) h), fun h => hS.d21 (o 21 (by decide) h), fun h => hS.d22 (o 22 (by decide) h), fun h => hS.d23 (o 23 (by decide) h), fun h => hS.d24 (o 24 (by decide) h), fun h => hS.d25 (o 25 (by decide) h), fun h => hS.d26 (o 26 (by decide) h), fun h => hS.d27 (o 27 (by decide) h), fun h => hS.d28 (o 28 (by decide) h), fun h => hS.d29 (o 29 (by decide) h), fun h => hS.d30 (o 30 (by decide) h), fun h => hS.d31 (o 31 (by decide) h), fun h => hS.d32 (o 32 (by decide) h), fun h => hS.d33 (o 33 (by decide) h), fun h => hS.d34 (o 34 (by decide) h), fun _ => hr, fun h => absurd (hS.c2 (o 3 (by decide) h)) hno, fun h => (hS.r8 (o 8 (by decide) h)).below hb, fun h => (ho 8).2 (Or.inr (hS.c8 (o 9 (by decide) h))), fun h => (hS.r15 (o 15 (by decide) h)).below hb, fun h => (ho 15).2 (Or.inr (hS.c15 (o 16 (by decide) h))), fun h => (hS.r23 (o 23 (by decide) h)).below hb, fun h => (ho 23).2 (Or.inr (hS.c23 (o 24 (by decide) h))), fun h => (hS.r30 (o 30 (by decide) h)).below hb, fun h => (ho 30).2 (Or.inr (hS.c30 (o 31 (by decide) h)))⟩
theorem one_3 {W w' : World} {k7 : Nat} {o7 : Option Addr} {l7 : List Nat} {k8 : Nat} {o8 : Option Addr} {l8 : List Nat} {k9 : Nat} {o9 : Option Addr} {l9 : List Nat} {k10 : Nat} {o10 : Option Addr} {l10 : List Nat} {k13 : Nat} {o13 : Option Addr} {l13 : List Nat} {L : Array Bool} {v0 v1 v2 v3 v4 v5 v6 v7 v8 v9 v10 v11 v12 v13 v14 v15 v16 v17 v18 v19 v20 v21 v22 v23 v24 v25 v26 v27 v28 v29 v30 v31 v32 v33 v34 : Value} {g2' g8' g15' g23' g30' : Nat} (hS : OneS W k7 o7 l7 k8 o8 l8 k9 o9 l9 k10 o10 l10 k13 o13 l13 L w' v0 v1 v2 v3 v4 v5 v6 v7 v8 v9 v10 v11 v12 v13 v14 v15 v16 v17 v18 v19 v20 v21 v22 v23 v24 v25 v26 v27 v28 v29 v30 v31 v32 v33 v34 g2' g8' g15' g23' g30') (ho : ∀ k, On (L.setIfInBounds 3 true) k ↔ k = 3 ∨ On L k) {w2 : World} (hb : Below w'.heap.size w' w2) (dn : On L 2) : OneS W k7 o7 l7 k8 o8 l8 k9 o9 l9 k10 o10 l10 k13 o13 l13 (L.setIfInBounds 3 true) w2 v0 v1 v2 (mxV 1 1 (some ⟨g2', 0, none⟩) 1 1) v4 v5 v6 v7 v8 v9 v10 v11 v12 v13 v14 v15 v16 v17 v18 v19 v20 v21 v22 v23 v24 v25 v26 v27 v28 v29 v30 v31 v32 v33 v34 g2' g8' g15' g23' g30' := by
  have o : ∀ k, k ≠ 3 → On (L.setIfInBounds 3 true) k → On L k := fun k hk h => ((ho k).1 h).resolve_left hk
  exact ⟨hS.bel.trans (hb.mono hS.bel.size), fun h => hS.d0 (o 0 (by decide) h), fun h => hS.d1 (o 1 (by decide) h), fun h => hS.d2 (o 2 (by decide) h), fun _ => rfl, fun h => hS.d4 (o 4 (by decide) h), fun h => hS.d5 (o 5 (by decide) h), fun h => hS.d6 (o 6 (by decide) h), fun h => hS.d7 (o 7 (by decide) h), fun h => hS.d8 (o 8 (by decide) h), fun h => hS.d9 (o 9 (by decide) h), fun h => hS.d10 (o 10 (by decide) h), fun h => hS.d11 (o 11 (by decide) h), fun h => hS.d12 (o 12 (by decide) h), fun h => hS.d13 (o 13 (by decide) h), fun h => hS.d14 (o 14 (by decide) h), fun h => hS.d15 (o 15 (by decide) h), fun h => hS.d16 (o 16 (by decide) h), fun h => hS.d17 (o 17 (by decide) h), fun h => hS.d18 (o 18 (by decide) h), fun h => hS.d19 (o 19 (by decide) h), fun h => hS.d20 (o 20 (by decide) h), fun h => hS.d21 (o 21 (by decide) h), fun h => hS.d22 (o 22 (by decide) h), fun h => hS.d23 (o 23 (by decide) h), fun h => hS.d24 (o 24 (by decide) h), fun h => hS.d25 (o 25 (by decide) h), fun h => hS.d26 (o 26 (by decide) h), fun h => hS.d27 (o 27 (by decide) h), fun h => hS.d28 (o 28 (by decide) h), fun h => hS.d29 (o 29 (by decide) h), fun h => hS.d30 (o 30 (by decide) h), fun h => hS.d31 (o 31 (by decide) h), fun h => hS.d32 (o 32 (by decide) h), fun h => hS.d33 (o 33 (by decide) h), fun h => hS.d34 (o 34 (by decide) h), fun h => (hS.r2 (o 2 (by decide) h)).below hb, fun _ => (ho 2).2 (Or.inr dn), fun h => (hS.r8 (o 8 (by decide) h)).below hb, fun h => (ho 8).2 (Or.inr (hS.c8 (o 9 (by decide) h))), fun h => (hS.r15 (o 15 (by decide) h)).below hb, fun h => (ho 15).2 (Or.inr (hS.c15 (o 16 (by decide) h))), fun h => (hS.r23 (o 23 (by decide) h)).below hb, fun h => (ho 23).2 (Or.inr (hS.c23 (o 24 (by decide) h))), fun h => (hS.r30 (o 30 (by decide) h)).below hb, fun h => (ho 30).2 (Or.inr (hS.c30 (o 31 (by decide) h)))⟩
theorem one_4 {W w' : World} {k7 : Nat} {o7 : Option Addr} {l7 : List Nat} {k8 : Nat} {o8 : Option Addr} {l8 : List Nat} {k9 : Nat} {o9 : Option Addr} {l9 : List Nat} {k10 : Nat} {o10 : Option Addr} {l10 : List Nat} {k13 : Nat} {o13 : Option Addr} {l13 : List Nat} {L : Array Bool} {v0 v1 v2 v3 v4 v5 v6 v7 v8 v9 v10 v11 v12 v13 v14 v15 v16 v17 v18 v19 v20 v21 v22 v23 v24 v25 v26 v27 v28 v29 v30 v31 v32 v33 v34 : Value} {g2' g8' g15' g23' g30' : Nat} (hS : OneS W k7 o7 l7 k8 o8 l8 k9 o9 l9 k10 o10 l10 k13 o13 l13 L w' v0 v1 v2 v3 v4 v5 v6 v7 v8 v9 v10 v11 v12 v13 v14 v15 v16 v17 v18 v19 v20 v21 v22 v23 v24 v25 v26 v27 v28 v29 v30 v31 v32 v33 v34 g2' g8' g15' g23' g30') (ho : ∀ k, On (L.setIfInBounds 4 true) k ↔ k = 4 ∨ On L k) {w2 : World} (hb : Below w'.heap.size w' w2) : OneS W k7 o7 l7 k8 o8 l8 k9 o9 l9 k10 o10 l10 k13 o13 l13 (L.setIfInBounds 4 true) w2 v0 v1 v2 v3 (.bool true) v5 v6 v7 v8 v9 v10 v11 v12 v13 v14 v15 v16 v17 v18 v19 v20 v21 v22 v23 v24 v25 v26 v27 v28 v29 v30 v31 v32 v33 v34 g2' g8' g15' g23' g30' := by
  have o : ∀ k, k ≠ 4 → On (L.setIfInBounds 4 true) k → On L k := fun k hk h => ((ho k).1 h).resolve_left hk
  exact ⟨hS.bel.trans (hb.mono hS.bel.size), fun h => hS.d0 (o 0 (by decide) h), fun h => hS.d1 (o 1 (by decide) h), fun h => hS.d2 (o 2 (by decide) h), fun h => hS.d3 (o 3 (by decide) h), fun _ => rfl, fun h => hS.d5 (o 5 (by decide) h), fun h => hS.d6 (o 6 (by decide) h), fun h => hS.d7 (o 7 (by decide) h), fun h => hS.d8 (o 8 (by decide) h), fun h => hS.d9 (o 9 (by decide) h), fun h => hS.d10 (o 10 (by decide) h), fun h => hS.d11 (o 11 (by decide) h), fun h => hS.d12 (o 12 (by decide) h), fun h => hS.d13 (o 13 (by decide) h), fun h => hS.d14 (o 14 (by decide) h), fun h => hS.d15 (o 15 (by decide) h), fun h => hS.d16 (o 16 (by decide) h), fun h => hS.d17 (o 17 (by decide) h), fun h => hS.d18 (o 18 (by decide) h), fun h => hS.d19 (o 19 (by decide) h), fun h => hS.d20 (o 20 (by decide) h), fun h => hS.d21 (o 21 (by decide) h), fun h => hS.d22 (o 22 (by decide) h), fun h => hS.d23 (o 23 (by decide) h), fun h => hS.d24 (o 24 (by decide) h), fun h => hS.d25 (o 25 (by decide) h), fun h => hS.d26 (o 26 (by decide) h), fun h => hS.d27 (o 27 (by decide) h), fun h => hS.d28 (o 28 (by decide) h), fun h => hS.d29 (o 29 (by decide) h), fun h => hS.d30 (o 30 (by decide) h), fun h => hS.d31 (o 31 (by decide) h), fun h => hS.d32 (o 32 (by decide) h), fun h => hS.d33 (o 33 (by decide) h), fun h => hS.d34 (o 34 (by decide) h), fun h => (hS.r2 (o 2 (by decide) h)).below hb, fun h => (ho 2).2 (Or.inr (hS.c2 (o 3 (by decide) h))), fun h => (hS.r8 (o 8 (by decide) h)).below hb, fun h => (ho 8).2 (Or.inr (hS.c8 (o 9 (by decide) h))), fun h => (hS.r15 (o 15 (by decide) h)).below hb, fun h => (ho 15).2 (Or.inr (hS.c15 (o 16 (by decide) h))), fun h => (hS.r23 (o 23 (by decide) h)).below hb, fun h => (ho 23).2 (Or.inr (hS.c23 (o 24 (by decide) h))), fun h => (hS.r30 (o 30 (by decide) h)).below hb, fun h => (ho 30).2 (Or.inr (hS.c30 (o 31 (by decide) h)))⟩
theorem one_5 {W w' : World} {k7 : Nat} {o7 : Option Addr} {l7 : List Nat} {k8 : Nat} {o8 : Option Addr} {l8 : List Nat} {k9 : Nat} {o9 : Option Addr} {l9 : List Nat} {k10 : Nat} {o10 : Option Addr} {l10 : List Nat} {k13 : Nat} {o13 : Option Addr} {l13 : List Nat} {L : Array Bool} {v0 v1 v2 v3 v4 v5 v6 v7 v8 v9 v10 v11 v12 v13 v14 v15 v16 v17 v18 v19 v20 v21 v22 v23 v24 v25 v26 v27 v28 v29 v30 v31 v32 v33 v34 : Value} {g2' g8' g15' g23' g30' : Nat} (hS : OneS W k7 o7 l7 k8 o8 l8 k9 o9 l9 k10 o10 l10 k13 o13 l13 L w' v0 v1 v2 v3 v4 v5 v6 v7 v8 v9 v10 v11 v12 v13 v14 v15 v16 v17 v18 v19 v20 v21 v22 v23 v24 v25 v26 v27 v28 v29 v30 v31 v32 v33 v34 g2' g8' g15' g23' g30') (ho : ∀ k, On (L.setIfInBounds 5 true) k ↔ k = 5 ∨ On L k) : OneS W k7 o7 l7 k8 o8 l8 k9 o9 l9 k10 o10 l10 k13 o13 l13 (L.setIfInBounds 5 true) w' v0 v1 v2 v3 v4 (.bool true) v6 v7 v8 v9 v10 v11 v12 v13 v14 v15 v16 v17 v18 v19 v20 v21 v22 v23 v24 v25 v26 v27 v28 v29 v30 v31 v32 v33 v34 g2' g8' g15' g23' g30' := by
  have o : ∀ k, k ≠ 5 → On (L.setIfInBounds 5 true) k → On L k := fun k hk h => ((ho k).1 h).resolve_left hk
  exact ⟨hS.bel, fun h => hS.d0 (o 0 (by decide) h), fun h => hS.d1 (o 1 (by decide) h), fun h => hS.d2 (o 2 (by decide) h), fun h => hS.d3 (o 3 (by decide) h), fun h => hS.d4 (o 4 (by decide) h), fun _ => rfl, fun h => hS.d6 (o 6 (by decide) h), fun h => hS.d7 (o 7 (by decide) h), fun h => hS.d8 (o 8 (by decide) h), fun h => hS.d9 (o 9 (by decide) h), fun h => hS.d10 (o 10 (by decide) h), fun h => hS.d11 (o 11 (by decide) h), fun h => hS.d12 (o 12 (by decide) h), fun h => hS.d13 (o 13 (by decide) h), fun h => hS.d14 (o 14 (by decide) h), fun h => hS.d15 (o 15 (by decide) h), fun h => hS.d16 (o 16 (by decide) h), fun h => hS.d17 (o 17 (by decide) h), fun h => hS.d18 (o 18 (by decide) h), fun h => hS.d19 (o 19 (by decide) h), fun h => hS.d20 (o 20 (by decide) h), fun h => hS.d21 (o 21 (by decide) h), fun h => hS.d22 (o 22 (by decide) h), fun h => hS.d23 (o 23 (by decide) h), fun h => hS.d24 (o 24 (by decide) h), fun h => hS.d25 (o 25 (by decide) h), fun h => hS.d26 (o 26 (by decide) h), fun h => hS.d27 (o 27 (by decide) h), fun h => hS.d28 (o 28 (by decide) h), fun h => hS.d29 (o 29 (by decide) h), fun h => hS.d30 (o 30 (by decide) h), fun h => hS.d31 (o 31 (by decide) h), fun h => hS.d32 (o 32 (by decide) h), fun h => hS.d33 (o 33 (by decide) h), fun h => hS.d34 (o 34 (by decide) h), fun h => hS.r2 (o 2 (by decide) h), fun h => (ho 2).2 (Or.inr (hS.c2 (o 3 (by decide) h))), fun h => hS.r8 (o 8 (by decide) h), fun h => (ho 8).2 (Or.inr (hS.c8 (o 9 (by decide) h))), fun h => hS.r15 (o 15 (by decide) h), fun h => (ho 15).2 (Or.inr (hS.c15 (o 16 (by decide) h))), fun h => hS.r23 (o 23 (by decide) h), fun h => (ho 23).2 (Or.inr (hS.c23 (o 24 (by decide) h))), fun h => hS.r30 (o 30 (by decide) h), fun h => (ho 30).2 (Or.inr (hS.c30 (o 31 (by decide) h)))⟩
theorem one_6 {W w' : World} {k7 : Nat} {o7 : Option Addr} {l7 : List Nat} {k8 : Nat} {o8 : Option Addr} {l8 : List Nat} {k9 : Nat} {o9 : Option Addr} {l9 : List Nat} {k10 : Nat} {o10 : Option Addr} {l10 : List Nat} {k13 : Nat} {o13 : Option Addr} {l13 : List Nat} {L : Array Bool} {v0 v1 v2 v3 v4 v5 v6 v7 v8 v9 v10 v11 v12 v13 v14 v15 v16 v17 v18 v19 v20 v21 v22 v23 v24 v25 v26 v27 v28 v29 v30 v31 v32 v33 v34 : Value} {g2' g8' g15' g23' g30' : Nat} (hS : OneS W k7 o7 l7 k8 o8 l8 k9 o9 l9 k10 o10 l10 k13 o13 l13 L w' v0 v1 v2 v3 v4 v5 v6 v7 v8 v9 v10 v11 v12 v13 v14 v15 v16 v17 v18 v19 v20 v21 v22 v23 v24 v25 v26 v27 v28 v29 v30 v31 v32 v33 v34 g2' g8' g15' g23' g30') (ho : ∀ k, On (L.setIfInBounds 6 true) k ↔ k = 6 ∨ On L k) : OneS W k7 o7 l7 k8 o8 l8 k9 o9 l9 k10 o10 l10 k13 o13 l13 (L.setIfInBounds 6 true) w' v0 v1 v2 v3 v4 v5 (mxV 1 1 o8 l8.length k8) v7 v8 v9 v10 v11 v12 v13 v14 v15 v16 v17 v18 v19 v20 v21 v22 v23 v24 v25 v26 v27 v28 v29 v30 v31 v32 v33 v34 g2' g8' g15' g23' g30' := by
  have o : ∀ k, k ≠ 6 → On (L.setIfInBounds 6 true) k → On L k := fun k hk h => ((ho k).1 h).resolve_left hk
  exact ⟨hS.bel, fun h => hS.d0 (o 0 (by decide) h), fun h => hS.d1 (o 1 (by decide) h), fun h => hS.d2 (o 2 (by decide) h), fun h => hS.d3 (o 3 (by decide) h), fun h => hS.d4 (o 4 (by decide) h), fun h => hS.d5 (o 5 (by decide) h), fun _ => rfl, fun h => hS.d7 (o 7 (by decide) h), fun h => hS.d8 (o 8 (by decide) h), fun h => hS.d9 (o 9 (by decide) h), fun h => hS.d10 (o 10 (by decide) h), fun h => hS.d11 (o 11 (by decide) h), fun h => hS.d12 (o 12 (by decide) h), fun h => hS.d13 (o 13 (by decide) h), fun h => hS.d14 (o 14 (by decide) h), fun h => hS.d15 (o 15 (by decide) h), fun h => hS.d16 (o 16 (by decide) h), fun h => hS.d17 (o 17 (by decide) h), fun h => hS.d18 (o 18 (by decide) h), fun h => hS.d19 (o 19 (by decide) h), fun h => hS.d20 (o 20 (by decide) h), fun h => hS.d21 (o 21 (by decide) h), fun h => hS.d22 (o 22 (by decide) h), fun h => hS.d23 (o 23 (by decide) h), fun h => hS.d24 (o 24 (by decide) h), fun h => hS.d25 (o 25 (by decide) h), fun h => hS.d26 (o 26 (by decide) h), fun h => hS.d27 (o 27 (by decide) h), fun h => hS.d28 (o 28 (by decide) h), fun h => hS.d29 (o 29 (by decide) h), fun h => hS.d30 (o 30 (by decide) h), fun h => hS.d31 (o 31 (by decide) h), fun h => hS.d32 (o 32 (by decide) h), fun h => hS.d33 (o 33 (by decide) h), fun h => hS.d34 (o 34 (by decide) h), fun h => hS.r2 (o 2 (by decide) h), fun h => (ho 2).2 (Or.inr (hS.c2 (o 3 (by decide) h))), fun h => hS.r8 (o 8 (by decide) h), fun h => (ho 8).2 (Or.inr (hS.c8 (o 9 (by decide) h))), fun h => hS.r15 (o 15 (by decide) h), fun h => (ho 15).2 (Or.inr (hS.c15 (o 16 (by decide) h))), fun h => hS.r23 (o 23 (by decide) h), fun h => (ho 23).2 (Or.inr (hS.c23 (o 24 (by decide) h))), fun h => hS.r30 (o 30 (by decide) h), fun h => (ho 30).2 (Or.inr (hS.c30 (o 31 (by decide) h)))⟩
theorem one_7 {W w' : World} {k7 : Nat} {o7 : Option Addr} {l7 : List Nat} {k8 : Nat} {o8 : Option Addr} {l8 : List Nat} {k9 : Nat} {o9 : Option Addr} {l9 : List Nat} {k10 : Nat} {o10 : Option Addr} {l10 : List Nat} {k13 : Nat} {o13 : Option Addr} {l13 : List Nat} {L : Array Bool} {v0 v1 v2 v3 v4 v5 v6 v7 v8 v9 v10 v11 v12 v13 v14 v15 v16 v17 v18 v19 v20 v21 v22 v23 v24 v25 v26 v27 v28 v29 v30 v31 v32 v33 v34 : Value} {g2' g8' g15' g23' g30' : Nat} (hS : OneS W k7 o7 l7 k8 o8 l8 k9 o9 l9 k10 o10 l10 k13 o13 l13 L w' v0 v1 v2 v3 v4 v5 v6 v7 v8 v9 v10 v11 v12 v13 v14 v15 v16 v17 v18 v19 v20 v21 v22 v23 v24 v25 v26 v27 v28 v29 v30 v31 v32 v33 v34 g2' g8' g15' g23' g30') (ho : ∀ k, On (L.setIfInBounds 7 true) k ↔ k = 7 ∨ On L k) : OneS W k7 o7 l7 k8 o8 l8 k9 o9 l9 k10 o10 l10 k13 o13 l13 (L.setIfInBounds 7 true) w' v0 v1 v2 v3 v4 v5 v6 (.int .i64 0) v8 v9 v10 v11 v12 v13 v14 v15 v16 v17 v18 v19 v20 v21 v22 v23 v24 v25 v26 v27 v28 v29 v30 v31 v32 v33 v34 g2' g8' g15' g23' g30' := by
  have o : ∀ k, k ≠ 7 → On (L.setIfInBounds 7 true) k → On L k := fun k hk h => ((ho k).1 h).resolve_left hk
  exact ⟨hS.bel, fun h => hS.d0 (o 0 (by decide) h), fun h => hS.d1 (o 1 (by decide) h), fun h => hS.d2 (o 2 (by decide) h), fun h => hS.d3 (o 3 (by decide) h), fun h => hS.d4 (o 4 (by decide) h), fun h => hS.d5 (o 5 (by decide) h), fun h => hS.d6 (o 6 (by decide) h), fun _ => rfl, fun h => hS.d8 (o 8 (by decide) h), fun h => hS.d9 (o 9 (by decide) h), fun h => hS.d10 (o 10 (by decide) h), fun h => hS.d11 (o 11 (by decide) h), fun h => hS.d12 (o 12 (by decide) h), fun h => hS.d13 (o 13 (by decide) h), fun h => hS.d14 (o 14 (by decide) h), fun h => hS.d15 (o 15 (by decide) h), fun h => hS.d16 (o 16 (by decide) h), fun h => hS.d17 (o 17 (by decide) h), fun h => hS.d18 (o 18 (by decide) h), fun h => hS.d19 (o 19 (by decide) h), fun h => hS.d20 (o 20 (by decide) h), fun h => hS.d21 (o 21 (by decide) h), fun h => hS.d22 (o 22 (by decide) h), fun h => hS.d23 (o 23 (by decide) h), fun h => hS.d24 (o 24 (by decide) h), fun h => hS.d25 (o 25 (by decide) h), fun h => hS.d26 (o 26 (by decide) h), fun h => hS.d27 (o 27 (by decide) h), fun h => hS.d28 (o 28 (by decide) h), fun h => hS.d29 (o 29 (by decide) h), fun h => hS.d30 (o 30 (by decide) h), fun h => hS.d31 (o 31 (by decide) h), fun h => hS.d32 (o 32 (by decide) h), fun h => hS.d33 (o 33 (by decide) h), fun h => hS.d34 (o 34 (by decide) h), fun h => hS.r2 (o 2 (by decide) h), fun h => (ho 2).2 (Or.inr (hS.c2 (o 3 (by decide) h))), fun h => hS.r8 (o 8 (by decide) h), fun h => (ho 8).2 (Or.inr (hS.c8 (o 9 (by decide) h))), fun h => hS.r15 (o 15 (by decide) h), fun h => (ho 15).2 (Or.inr (hS.c15 (o 16 (by decide) h))), fun h => hS.r23 (o 23 (by decide) h), fun h => (ho 23).2 (Or.inr (hS.c23 (o 24 (by decide) h))), fun h => hS.r30 (o 30 (by decide) h), fun h => (ho 30).2 (Or.inr (hS.c30 (o 31 (by decide) h)))⟩
theorem one_8 {W w' : World} {k7 : Nat} {o7 : Option Addr} {l7 : List Nat} {k8 : Nat} {o8 : Option Addr} {l8 : List Nat} {k9 : Nat} {o9 : Option Addr} {l9 : List Nat} {k10 : Nat} {o10 : Option Addr} {l10 : List Nat} {k13 : Nat} {o13 : Option Addr} {l13 : List Nat} {L : Array Bool} {v0 v1 v2 v3 v4 v5 v6 v7 v8 v9 v10 v11 v12 v13 v14 v15 v16 v17 v18 v19 v20 v21 v22 v23 v24 v25 v26 v27 v28 v29 v30 v31 v32 v33 v34 : Value} {g2' g8' g15' g23' g30' : Nat} (hS : OneS W k7 o7 l7 k8 o8 l8 k9 o9 l9 k10 o10 l10 k13 o13 l13 L w' v0 v1 v2 v3 v4 v5 v6 v7 v8 v9 v10 v11 v12 v13 v14 v15 v16 v17 v18 v19 v20 v21 v22 v23 v24 v25 v26 v27 v28 v29 v30 v31 v32 v33 v34 g2' g8' g15' g23' g30') (ho : ∀ k, On (L.setIfInBounds 8 true) k ↔ k = 8 ∨ On L k) {w2 : World} (hb : Below w'.heap.size w' w2) {G : Nat} (hr : GRow w2 (some ⟨G, 0, none⟩) [4607182418800017408]) (hno : ¬ On L 8) : OneS W k7 o7 l7 k8 o8 l8 k9 o9 l9 k10 o10 l10 k13 o13 l13 (L.setIfInBounds 8 true) w2 v0 v1 v2 v3 v4 v5 v6 v7 (.slice (some ⟨G, 0, none⟩) 1 1) v9 v10 v11 v12 v13 v14 v15 v16 v17 v18 v19 v20 v21 v22 v23 v24 v25 v26 v27 v28 v29 v30 v31 v32 v33 v34 g2' G g15' g23' g30' := by
  have o : ∀ k, k ≠ 8 → On (L.setIfInBounds 8 true) k → On L k := fun k hk h => ((ho k).1 h).resolve_left hk
  exact ⟨hS.bel.trans (hb.mono hS.bel.size), fun h => hS.d0 (o 0 (by decide) h), fun h => hS.d1 (o 1 (by decide) h), fun h => hS.d2 (o 2 (by decide) h), fun h => hS.d3 (o 3 (by decide) h), fun h => hS.d4 (o 4 (by decide) h), fun h => hS.d5 (o 5 (by decide) h), fun h => hS.d6 (o 6 (by decide) h), fun h => hS.d7 (o 7 (by decide) h), fun _ => rfl, fun h => absurd (hS.c8 (o 9 (by decide) h)) hno, fun h => hS.d10 (o 10 (by decide) h), fun h => hS.d11 (o 11 (by decide) h), fun h => hS.d12 (o 12 (by decide) h), fun h => hS.d13 (o 13 (by decide) h), fun h => hS.d14 (o 14 (by decide) h), fun h => hS.d15 (o 15 (by decide) h), fun h => hS.d16 (o 16 (by decide) h), fun h => hS.d17 (o 17 (by decide) h), fun h => hS.d18 (o 18 (by decide) h), fun h => hS.d19 (o 19 (by decide) h), fun h => hS.d20 (o 20 (by decide) h), fun h => hS.d21 (o 21 (by decide) h), fun h => hS.d22 (o 22 (by decide) h), fun h => hS.d23 (o 23 (by decide) h), fun h => hS.d24 (o 24 (by decide) h), fun h => hS.d25 (o 25 (by decide) h), fun h => hS.d26 (o 26 (by decide) h), fun h => hS.d27 (o 27 (by decide) h), fun h => hS.d28 (o 28 (by decide) h), fun h => hS.d29 (o 29 (by decide) h), fun h => hS.d30 (o 30 (by decide) h), fun h => hS.d31 (o 31 (by decide) h), fun h => hS.d32 (o 32 (by decide) h), fun h => hS.d33 (o 33 (by decide) h), fun h => hS.d34 (o 34 (by decide) h), fun h => (hS.r2 (o 2 (by decide) h)).below hb, fun h => (ho 2).2 (Or.inr (hS.c2 (o 3 (by decide) h))), fun _ => hr, fun h => absurd (hS.c8 (o 9 (by decide) h)) hno, fun h => (hS.r15 (o 15 (by decide) h)).below hb, fun h => (ho 15).2 (Or.inr (hS.c15 (o 16 (by decide) h))), fun h => (hS.r23 (o 23 (by decide) h)).below hb, fun h => (ho 23).2 (Or.inr (hS.c23 (o 24 (by decide) h))), fun h => (hS.r30 (o 30 (by decide) h)).below hb, fun h => (ho 30).2 (Or.inr (hS.c30 (o 31 (by decide) h)))⟩
theorem one_9 {W w' : World} {k7 : Nat} {o7 : Option Addr} {l7 : List Nat} {k8 : Nat} {o8 : Option Addr} {l8 : List Nat} {k9 : Nat} {o9 : Option Addr} {l9 : List Nat} {k10 : Nat} {o10 : Option Addr} {l10 : List Nat} {k13 : Nat} {o13 : Option Addr} {l13 : List Nat} {L : Array Bool} {v0 v1 v2 v3 v4 v5 v6 v7 v8 v9 v10 v11 v12 v13 v14 v15 v16 v17 v18 v19 v20 v21 v22 v23 v24 v25 v26 v27 v28 v29 v30 v31 v32 v33 v34 : Value} {g2' g8' g15' g23' g30' : Nat} (hS : OneS W k7 o7 l7 k8 o8 l8 k9 o9 l9 k10 o10 l10 k13 o13 l13 L w' v0 v1 v2 v3 v4 v5 v6 v7 v8 v9 v10 v11 v12 v13 v14 v15 v16 v17 v18 v19 v20 v21 v22 v23 v24 v25 v26 v27 v28 v29 v30 v31 v32 v33 v34 g2' g8' g15' g23' g30') (ho : ∀ k, On (L.setIfInBounds 9 true) k ↔ k = 9 ∨ On L k) {w2 : World} (hb : Below w'.heap.size w' w2) (dn : On L 8) : OneS W k7 o7 l7 k8 o8 l8 k9 o9 l9 k10 o10 l10 k13 o13 l13 (L.setIfInBounds 9 true) w2 v0 v1 v2 v3 v4 v5 v6 v7 v8 (mxV 1 1 (some ⟨g8', 0, none⟩) 1 1) v10 v11 v12 v13 v14 v15 v16 v17 v18 v19 v20 v21 v22 v23 v24 v25 v26 v27 v28 v29 v30 v31 v32 v33 v34 g2' g8' g15' g23' g30' := by
  have o : ∀ k, k ≠ 9 → On (L.setIfInBounds 9 true) k → On L k := fun k hk h => ((ho k).1 h).resolve_left hk
  exact ⟨hS.bel.trans (hb.mono hS.bel.size), fun h => hS.d0 (o 0 (by decide) h), fun h => hS.d1 (o 1 (by decide) h), fun h => hS.d2 (o 2 (by decide) h), fun h => hS.d3 (o 3 (by decide) h), fun h => hS.d4 (o 4 (by decide) h), fun h => hS.d5 (o 5 (by decide) h), fun h => hS.d6 (o 6 (by decide) h), fun h => hS.d7 (o 7 (by decide) h), fun h => hS.d8 (o 8 (by decide) h), fun _ => rfl, fun h => hS.d10 (o 10 (by decide) h), fun h => hS.d11 (o 11 (by decide) h), fun h => hS.d12 (o 12 (by decide) h), fun h => hS.d13 (o 13 (by decide) h), fun h => hS.d14 (o 14 (by decide) h), fun h => hS.d15 (o 15 (by decide) h), fun h => hS.d16 (o 16 (by decide) h), fun h => hS.d17 (o 17 (by decide) h), fun h => hS.d18 (o 18 (by decide) h), fun h => hS.d19 (o 19 (by decide) h), fun h => hS.d20 (o 20 (by decide) h), fun h => hS.d21 (o 21 (by decide) h), fun h => hS.d22 (o 22 (by decide) h), fun h => hS.d23 (o 23 (by decide) h), fun h => hS.d24 (o 24 (by decide) h), fun h => hS.d25 (o 25 (by decide) h), fun h => hS.d26 (o 26 (by decide) h), fun h => hS.d27 (o 27 (by decide) h), fun h => hS.d28 (o 28 (by decide) h), fun h => hS.d29 (o 29 (by decide) h), fun h => hS.d30 (o 30 (by decide) h), fun h => hS.d31 (o 31 (by decide) h), fun h => hS.d32 (o 32 (by decide) h), fun h => hS.d33 (o 33 (by decide) h), fun h => hS.d34 (o 34 (by decide) h), fun h => (hS.r2 (o 2 (by decide) h)).below hb, fun h => (ho 2).2 (Or.inr (hS.c2 (o 3 (by decide) h))), fun h => (hS.r8 (o 8 (by decide) h)).below hb, fun _ => (ho 8).2 (Or.inr dn), fun h => (hS.r15 (o 15 (by decide) h)).below hb, fun h => (ho 15).2 (Or.inr (hS.c15 (o 16 (by decide) h))), fun h => (hS.r23 (o 23 (by decide) h)).below hb, fun h => (ho 23).2 (Or.inr (hS.c23 (o 24 (by decide) h))), fun h => (hS.r30 (o 30 (by decide) h)).below hb, fun h => (ho 30).2 (Or.inr (hS.c30 (o 31 (by decide) h)))⟩
theorem one_10 {W w' : World} {k7 : Nat} {o7 : Option Addr} {l7 : List Nat} {k8 : Nat} {o8 : Option Addr} {l8 : List Nat} {k9 : Nat} {o9 : Option Addr} {l9 : List Nat} {k10 : Nat} {o10 : Option Addr} {l10 : List Nat} {k13 : Nat} {o13 : Option Addr} {l13 : List Nat} {L : Array Bool} {v0 v1 v2 v3 v4 v5 v6 v7 v8 v9 v10 v11 v12 v13 v14 v15 v16 v17 v18 v19 v20 v21 v22 v23 v24 v25 v26 v27 v28 v29 v30 v31 v32 v33 v34 : Value} {g2' g8' g15' g23' g30' : Nat} (hS : OneS W k7 o7 l7 k8 o8 l8 k9 o9 l9 k10 o10 l10 k13 o13 l13 L w' v0 v1 v2 v3 v4 v5 v6 v7 v8 v9 v10 v11 v12 v13 v14 v15 v16 v17 v18 v19 v20 v21 v22 v23 v24 v25 v26 v27 v28 v29 v30 v31 v32 v33 v34 g2' g8' g15' g23' g30') (ho : ∀ k, On (L.setIfInBounds 10 true) k ↔ k = 10 ∨ On L k) {w2 : World} (hb : Below w'.heap.size w' w2) : OneS W k7 o7 l7 k8 o8 l8 k9 o9 l9 k10 o10 l10 k13 o13 l13 (L.setIfInBounds 10 true) w2 v0 v1 v2 v3 v4 v5 v6 v7 v8 v9 (.bool true) v11 v12 v13 v14 v15 v16 v17 v18 v19 v20 v21 v22 v23 v24 v25 v26 v27 v28 v29 v30 v31 v32 v33 v34 g2' g8' g15' g23' g30' := by
  have o : ∀ k, k ≠ 10 → On (L.setIfInBounds 10 true) k → On L k := fun k hk h => ((ho k).1 h).resolve_left hk
  exact ⟨hS.bel.trans (hb.mono hS.bel.size), fun h => hS.d0 (o 0 (by decide) h), fun h => hS.d1 (o 1 (by decide) h), fun h => hS.d2 (o 2 (by decide) h), fun h => hS.d3 (o 3 (by decide) h), fun h => hS.d4 (o 4 (by decide) h), fun h => hS.d5 (o 5 (by decide) h), fun h => hS.d6 (o 6 (by decide) h), fun h => hS.d7 (o 7 (by decide) h), fun h => hS.d8 (o 8 (by decide) h), fun h => hS.d9 (o 9 (by decide) h), fun _ => rfl, fun h => hS.d11 (o 11 (by decide) h), fun h => hS.d12 (o 12 (by decide) h), fun h => hS.d13 (o 13 (by decide) h), fun h => hS.d14 (o 14 (by decide) h), fun h => hS.d15 (o 15 (by decide) h), fun h => hS.d16 (o 16 (by decide) h), fun h => hS.d17 (o 17 (by decide) h), fun h => hS.d18 (o 18 (by decide) h), fun h => hS.d19 (o 19 (by decide) h), fun h => hS.d20 (o 20 (by decide) h), fun h => hS.d21 (o 21 (by decide) h), fun h => hS.d22 (o 22 (by decide) h), fun h => hS.d23 (o 23 (by decide) h), fun h => hS.d24 (o 24 (by decide) h), fun h => hS.d25 (o 25 (by decide) h), fun h => hS.d26 (o 26 (by decide) h), fun h => hS.d27 (o 27 (by decide) h), fun h => hS.d28 (o 28 (by decide) h), fun h => hS.d29 (o 29 (by decide) h), fun h => hS.d30 (o 30 (by decide) h), fun h => hS.d31 (o 31 (by decide) h), fun h => hS.d32 (o 32 (by decide) h), fun h => hS.d33 (o 33 (by decide) h), fun h => hS.d34 (o 34 (by decide) h), fun h => (hS.r2 (o 2 (by decide) h)).below hb, fun h => (ho 2).2 (Or.inr (hS.c2 (o 3 (by decide) h))), fun h => (hS.r8 (o 8 (by decide) h)).below hb, fun h => (ho 8).2 (Or.inr (hS.c8 (o 9 (by decide) h))), fun h => (hS.r15 (o 15 (by decide) h)).below hb, fun h => (ho 15).2 (Or.inr (hS.c15 (o 16 (by decide) h))), fun h => (hS.r23 (o 23 (by decide) h)).below hb, fun h => (ho 23).2 (Or.inr (hS.c23 (o 24 (by decide) h))), fun h => (hS.r30 (o 30 (by decide) h)).below hb, fun h => (ho 30).2 (Or.inr (hS.c30 (o 31 (by decide) h)))⟩
theorem one_11 {W w' : World} {k7 : Nat} {o7 : Option Addr} {l7 : List Nat} {k8 : Nat} {o8 : Option Addr} {l8 : List Nat} {k9 : Nat} {o9 : Option Addr} {l9 : List Nat} {k10 : Nat} {o10 : Option Addr} {l10 : List Nat} {k13 : Nat} {o13 : Option Addr} {l13 : List Nat} {L : Array Bool} {v0 v1 v2 v3 v4 v5 v6 v7 v8 v9 v10 v11 v12 v13 v14 v15 v16 v17 v18 v19 v20 v21 v22 v23 v24 v25 v26 v27 v28 v29 v30 v31 v32 v33 v34 : Value} {g2' g8' g15' g23' g30' : Nat} (hS : OneS W k7 o7 l7 k8 o8 l8 k9 o9 l9 k10 o10 l10 k13 o13 l13 L w' v0 v1 v2 v3 v4 v5 v6 v7 v8 v9 v10 v11 v12 v13 v14 v15 v16 v17 v18 v19 v20 v21 v22 v23 v24 v25 v26 v27 v28 v29 v30 v31 v32 v33 v34 g2' g8' g15' g23' g30') (ho : ∀ k, On (L.setIfInBounds 11 true) k ↔ k = 11 ∨ On L k) : OneS W k7 o7 l7 k8 o8 l8 k9 o9 l9 k10 o10 l10 k13 o13 l13 (L.setIfInBounds 11 true) w' v0 v1 v2 v3 v4 v5 v6 v7 v8 v9 v10 (.bool true) v12 v13 v14 v15 v16 v17 v18 v19 v20 v21 v22 v23 v24 v25 v26 v27 v28 v29 v30 v31 v32 v33 v34 g2' g8' g15' g23' g30' := by
  have o : ∀ k, k ≠ 11 → On (L.setIfInBounds 11 true) k → On L k := fun k hk h => ((ho k).1 h).resolve_left hk
  exact ⟨hS.bel, fun h => hS.d0 (o 0 (by decide) h), fun h => hS.d1 (o 1 (by decide) h), fun h => hS.d2 (o 2 (by decide) h), fun h => hS.d3 (o 3 (by decide) h), fun h => hS.d4 (o 4 (by decide) h), fun h => hS.d5 (o 5 (by decide) h), fun h => hS.d6 (o 6 (by decide) h), fun h => hS.d7 (o 7 (by decide) h), fun h => hS.d8 (o 8 (by decide) h), fun h => hS.d9 (o 9 (by decide) h), fun h => hS.d10 (o 10 (by decide) h), fun _ => rfl, fun h => hS.d12 (o 12 (by decide) h), fun h => hS.d13 (o 13 (by decide) h), fun h => hS.d14 (o 14 (by decide) h), fun h => hS.d15 (o 15 (by decide) h), fun h => hS.d16 (o 16 (by decide) h), fun h => hS.d17 (o 17 (by decide) h), fun h => hS.d18 (o 18 (by decide) h), fun h => hS.d19 (o 19 (by decide) h), fun h => hS.d20 (o 20 (by decide) h), fun h => hS.d21 (o 21 (by decide) h), fun h => hS.d22 (o 22 (by decide) h), fun h => hS.d23 (o 23 (by decide) h), fun h => hS.d24 (o 24 (by decide) h), fun h => hS.d25 (o 25 (by decide) h), fun h => hS.d26 (o 26 (by decide) h), fun h => hS.d27 (o 27 (by decide) h), fun h => hS.d28 (o 28 (by decide) h), fun h => hS.d29 (o 29 (by decide) h), fun h => hS.d30 (o 30 (by decide) h), fun h => hS.d31 (o 31 (by decide) h), fun h => hS.d32 (o 32 (by decide) h), fun h => hS.d33 (o 33 (by decide) h), fun h => hS.d34 (o 34 (by decide) h), fun h => hS.r2 (o 2 (by decide) h), fun h => (ho 2).2 (Or.inr (hS.c2 (o 3 (by decide) h))), fun h => hS.r8 (o 8 (by decide) h), fun h => (ho 8).2 (Or.inr (hS.c8 (o 9 (by decide) h))), fun h => hS.r15 (o 15 (by decide) h), fun h => (ho 15).2 (Or.inr (hS.c15 (o 16 (by decide) h))), fun h => hS.r23 (o 23 (by decide) h), fun h => (ho 23).2 (Or.inr (hS.c23 (o 24 (by decide) h))), fun h => hS.r30 (o 30 (by decide) h), fun h => (ho 30).2 (Or.inr (hS.c30 (o 31 (by decide) h)))⟩
theorem one_12 {W w' : World} {k7 : Nat} {o7 : Option Addr} {l7 : List Nat} {k8 : Nat} {o8 : Option Addr} {l8 : List Nat} {k9 : Nat} {o9 : Option Addr} {l9 : List Nat} {k10 : Nat} {o10 : Option Addr} {l10 : List Nat} {k13 : Nat} {o13 : Option Addr} {l13 : List Nat} {L : Array Bool} {v0 v1 v2 v3 v4 v5 v6 v7 v8 v9 v10 v11 v12 v13 v14 v15 v16 v17 v18 v19 v20 v21 v22 v23 v24 v25 v26 v27 v28 v29 v30 v31 v32 v33 v34 : Value} {g2' g8' g15' g23' g30' : Nat} (hS : OneS W k7 o7 l7 k8 o8 l8 k9 o9 l9 k10 o10 l10 k13 o13 l13 L w' v0 v1 v2 v3 v4 v5 v6 v7 v8 v9 v10 v11 v12 v13 v14 v15 v16 v17 v18 v19 v20 v21 v22 v23 v24 v25 v26 v27 v28 v29 v30 v31 v32 v33 v34 g2' g8' g15' g23' g30') (ho : ∀ k, On (L.setIfInBounds 12 true) k ↔ k = 12 ∨ On L k) : OneS W k7 o7 l7 k8 o8 l8 k9 o9 l9 k10 o10 l10 k13 o13 l13 (L.setIfInBounds 12 true) w' v0 v1 v2 v3 v4 v5 v6 v7 v8 v9 v10 v11 (.bool true) v13 v14 v15 v16 v17 v18 v19 v20 v21 v22 v23 v24 v25 v26 v27 v28 v29 v30 v31 v32 v33 v34 g2' g8' g15' g23' g30' := by
  have o : ∀ k, k ≠ 12 → On (L.setIfInBounds 12 true) k → On L k := fun k hk h => ((ho k).1 h).resolve_left hk
  exact ⟨hS.bel, fun h => hS.d0 (o 0 (by decide) h), fun h => hS.d1 (o 1 (by decide) h), fun h => hS.d2 (o 2 (by decide) h), fun h => hS.d3 (o 3 (by decide) h), fun h => hS.d4 (o 4 (by decide) h), fun h => hS.d5 (o 5 (by decide) h), fun h => hS.d6 (o 6 (by decide) h), fun h => hS.d7 (o 7 (by decide) h), fun h => hS.d8 (o 8 (by decide) h), fun h => hS.d9 (o 9 (by decide) h), fun h => hS.d10 (o 10 (by decide) h), fun h => hS.d11 (o 11 (by decide) h), fun _ => rfl, fun h => hS.d13 (o 13 (by decide) h), fun h => hS.d14 (o 14 (by decide) h), fun h => hS.d15 (o 15 (by decide) h), fun h => hS.d16 (o 16 (by decide) h), fun h => hS.d17 (o 17 (by decide) h), fun h => hS.d18 (o 18 (by decide) h), fun h => hS.d19 (o 19 (by decide) h), fun h => hS.d20 (o 20 (by decide) h), fun h => hS.d21 (o 21 (by decide) h), fun h => hS.d22 (o 22 (by decide) h), fun h => hS.d23 (o 23 (by decide) h), fun h => hS.d24 (o 24 (by decide) h), fun h => hS.d25 (o 25 (by decide) h), fun h => hS.d26 (o 26 (by decide) h), fun h => hS.d27 (o 27 (by decide) h), fun h => hS.d28 (o 28 (by decide) h), fun h => hS.d29 (o 29 (by decide) h), fun h => hS.d30 (o 30 (by decide) h), fun h => hS.d31 (o 31 (by decide) h), fun h => hS.d32 (o 32 (by decide) h), fun h => hS.d33 (o 33 (by decide) h), fun h => hS.d34 (o 34 (by decide) h), fun h => hS.r2 (o 2 (by decide) h), fun h => (ho 2).2 (Or.inr (hS.c2 (o 3 (by decide) h))), fun h => hS.r8 (o 8 (by decide) h), fun h => (ho 8).2 (Or.inr (hS.c8 (o 9 (by decide) h))), fun h => hS.r15 (o 15 (by decide) h), fun h => (ho 15).2 (Or.inr (hS.c15 (o 16 (by decide) h))), fun h => hS.r23 (o 23 (by decide) h), fun h => (ho 23).2 (Or.inr (hS.c23 (o 24 (by decide) h))), fun h => hS.r30 (o 30 (by decide) h), fun h => (ho 30).2 (Or.inr (hS.c30 (o 31 (by decide) h)))⟩
theorem one_13 {W w' : World} {k7 : Nat} {o7 : Option Addr} {l7 : List Nat} {k8 : Nat} {o8 : Option Addr} {l8 : List Nat} {k9 : Nat} {o9 : Option Addr} {l9 : List Nat} {k10 : Nat} {o10 : Option Addr} {l10 : List Nat} {k13 : Nat} {o13 : Option Addr} {l13 : List Nat} {L : Array Bool} {v0 v1 v2 v3 v4 v5 v6 v7 v8 v9 v10 v11 v12 v13 v14 v15 v16 v17 v18 v19 v20 v21 v22 v23 v24 v25 v26 v27 v28 v29 v30 v31 v32 v33 v34 : Value} {g2' g8' g15' g23' g30' : Nat} (hS : OneS W k7 o7 l7 k8 o8 l8 k9 o9 l9 k10 o10 l10 k13 o13 l13 L w' v0 v1 v2 v3 v4 v5 v6 v7 v8 v9 v10 v11 v12 v13 v14 v15 v16 v17 v18 v19 v20 v21 v22 v23 v24 v25 v26 v27 v28 v29 v30 v31 v32 v33 v34 g2' g8' g15' g23' g30') (ho : ∀ k, On (L.setIfInBounds 13 true) k ↔ k = 13 ∨ On L k) : OneS W k7 o7 l7 k8 o8 l8 k9 o9 l9 k10 o10 l10 k13 o13 l13 (L.setIfInBounds 13 true) w' v0 v1 v2 v3 v4 v5 v6 v7 v8 v9 v10 v11 v12 (mxV 1 1 o9 l9.length k9) v14 v15 v16 v17 v18 v19 v20 v21 v22 v23 v24 v25 v26 v27 v28 v29 v30 v31 v32 v33 v34 g2' g8' g15' g23' g30' := by
  have o : ∀ k, k ≠ 13 → On (L.setIfInBounds 13 true) k → On L k := fun k hk h => ((ho k).1 h).resolve_left hk
  exact ⟨hS.bel, fun h => hS.d0 (o 0 (by decide) h), fun h => hS.d1 (o 1 (by decide) h), fun h => hS.d2 (o 2 (by decide) h), fun h => hS.d3 (o 3 (by decide) h), fun h => hS.d4 (o 4 (by decide) h), fun h => hS.d5 (o 5 (by decide) h), fun h => hS.d6 (o 6 (by decide) h), fun h => hS.d7 (o 7 (by decide) h), fun h => hS.d8 (o 8 (by decide) h), fun h => hS.d9 (o 9 (by decide) h), fun h => hS.d10 (o 10 (by decide) h), fun h => hS.d11 (o 11 (by decide) h), fun h => hS.d12 (o 12 (by decide) h), fun _ => rfl, fun h => hS.d14 (o 14 (by decide) h), fun h => hS.d15 (o 15 (by decide) h), fun h => hS.d16 (o 16 (by decide) h), fun h => hS.d17 (o 17 (by decide) h), fun h => hS.d18 (o 18 (by decide) h), fun h => hS.d19 (o 19 (by decide) h), fun h => hS.d20 (o 20 (by decide) h), fun h => hS.d21 (o 21 (by decide) h), fun h => hS.d22 (o 22 (by decide) h), fun h => hS.d23 (o 23 (by decide) h), fun h => hS.d24 (o 24 (by decide) h), fun h => hS.d25 (o 25 (by decide) h), fun h => hS.d26 (o 26 (by decide) h), fun h => hS.d27 (o 27 (by decide) h), fun h => hS.d28 (o 28 (by decide) h), fun h => hS.d29 (o 29 (by decide) h), fun h => hS.d30 (o 30 (by decide) h), fun h => hS.d31 (o 31 (by decide) h), fun h => hS.d32 (o 32 (by decide) h), fun h => hS.d33 (o 33 (by decide) h), fun h => hS.d34 (o 34 (by decide) h), fun h => hS.r2 (o 2 (by decide) h), fun h => (ho 2).2 (Or.inr (hS.c2 (o 3 (by decide) h))), fun h => hS.r8 (o 8 (by decide) h), fun h => (ho 8).2 (Or.inr (hS.c8 (o 9 (by decide) h))), fun h => hS.r15 (o 15 (by decide) h), fun h => (ho 15).2 (Or.inr (hS.c15 (o 16 (by decide) h))), fun h => hS.r23 (o 23 (by decide) h), fun h => (ho 23).2 (Or.inr (hS.c23 (o 24 (by decide) h))), fun h => hS.r30 (o 30 (by decide) h), fun h => (ho 30).2 (Or.inr (hS.c30 (o 31 (by decide) h)))⟩
theorem one_14 {W w' : World} {k7 : Nat} {o7 : Option Addr} {l7 : List Nat} {k8 : Nat} {o8 : Option Addr} {l8 : List Nat} {k9 : Nat} {o9 : Option Addr} {l9 : List Nat} {k10 : Nat} {o10 : Option Addr} {l10 : List Nat} {k13 : Nat} {o13 : Option Addr} {l13 : List Nat} {L : Array Bool} {v0 v1 v2 v3 v4 v5 v6 v7 v8 v9 v10 v11 v12 v13 v14 v15 v16 v17 v18 v19 v20 v21 v22 v23 v24 v25 v26 v27 v28 v29 v30 v31 v32 v33 v34 : Value} {g2' g8' g15' g23' g30' : Nat} (hS : OneS W k7 o7 l7 k8 o8 l8 k9 o9 l9 k10 o10 l10 k13 o13 l13 L w' v0 v1 v2 v3 v4 v5 v6 v7 v8 v9 v10 v11 v12 v13 v14 v15 v16 v17 v18 v19 v20 v21 v22 v23 v24 v25 v26 v27 v28 v29 v30 v31 v32 v33 v34 g2' g8' g15' g23' g30') (ho : ∀ k, On (L.setIfInBounds 14 true) k ↔ k = 14 ∨ On L k) : OneS W k7 o7 l7 k8 o8 l8 k9 o9 l9 k10 o10 l10 k13 o13 l13 (L.setIfInBounds 14 true) w' v0 v1 v2 v3 v4 v5 v6 v7 v8 v9 v10 v11 v12 v13 (.int .i64 0) v15 v16 v17 v18 v19 v20 v21 v22 v23 v24 v25 v26 v27 v28 v29 v30 v31 v32 v33 v34 g2' g8' g15' g23' g30' := by
  have o : ∀ k, k ≠ 14 → On (L.setIfInBounds 14 true) k → On L k := fun k hk h => ((ho k).1 h).resolve_left hk
  exact ⟨hS.bel, fun h => hS.d0 (o 0 (by decide) h), fun h => hS.d1 (o 1 (by decide) h), fun h => hS.d2 (o 2 (by decide) h), fun h => hS.d3 (o 3 (by decide) h), fun h => hS.d4 (o 4 (by decide) h), fun h => hS.d5 (o 5 (by decide) h), fun h => hS.d6 (o 6 (by decide) h), fun h => hS.d7 (o 7 (by decide) h), fun h => hS.d8 (o 8 (by decide) h), fun h => hS.d9 (o 9 (by decide) h), fun h => hS.d10 (o 10 (by decide) h), fun h => hS.d11 (o 11 (by decide) h), fun h => hS.d12 (o 12 (by decide) h), fun h => hS.d13 (o 13 (by decide) h), fun _ => rfl, fun h => hS.d15 (o 15 (by decide) h), fun h => hS.d16 (o 16 (by decide) h), fun h => hS.d17 (o 17 (by decide) h), fun h => hS.d18 (o 18 (by decide) h), fun h => hS.d19 (o 19 (by decide) h), fun h => hS.d20 (o 20 (by decide) h), fun h => hS.d21 (o 21 (by decide) h), fun h => hS.d22 (o 22 (by decide) h), fun h => hS.d23 (o 23 (by decide) h), fun h => hS.d24 (o 24 (by decide) h), fun h => hS.d25 (o 25 (by decide) h), fun h => hS.d26 (o 26 (by decide) h), fun h => hS.d27 (o 27 (by decide) h), fun h => hS.d28 (o 28 (by decide) h), fun h => hS.d29 (o 29 (by decide) h), fun h => hS.d30 (o 30 (by decide) h), fun h => hS.d31 (o 31 (by decide) h), fun h => hS.d32 (o 32 (by decide) h), fun h => hS.d33 (o 33 (by decide) h), fun h => hS.d34 (o 34 (by decide) h), fun h => hS.r2 (o 2 (by decide) h), fun h => (ho 2).2 (Or.inr (hS.c2 (o 3 (by decide) h))), fun h => hS.r8 (o 8 (by decide) h), fun h => (ho 8).2 (Or.inr (hS.c8 (o 9 (by decide) h))), fun h => hS.r15 (o 15 (by decide) h), fun h => (ho 15).2 (Or.inr (hS.c15 (o 16 (by decide) h))), fun h => hS.r23 (o 23 (by decide) h), fun h => (ho 23).2 (Or.inr (hS.c23 (o 24 (by decide) h))), fun h => hS.r30 (o 30 (by decide) h), fun h => (ho 30).2 (Or.inr (hS.c30 (o 31 (by decide) h)))⟩
theorem one_15 {W w' : World} {k7 : Nat} {o7 : Option Addr} {l7 : List Nat} {k8 : Nat} {o8 : Option Addr} {l8 : List Nat} {k9 : Nat} {o9 : Option Addr} {l9 : List Nat} {k10 : Nat} {o10 : Option Addr} {l10 : List Nat} {k13 : Nat} {o13 : Option Addr} {l13 : List Nat} {L : Array Bool} {v0 v1 v2 v3 v4 v5 v6 v7 v8 v9 v10 v11 v12 v13 v14 v15 v16 v17 v18 v19 v20 v21 v22 v23 v24 v25 v26 v27 v28 v29 v30 v31 v32 v33 v34 : Value} {g2' g8' g15' g23' g30' : Nat} (hS : OneS W k7 o7 l7 k8 o8 l8 k9 o9 l9 k10 o10 l10 k13 o13 l13 L w' v0 v1 v2 v3 v4 v5 v6 v7 v8 v9 v10 v11 v12 v13 v14 v15 v16 v17 v18 v19 v20 v21 v22 v23 v24 v25 v26 v27 v28 v29 v30 v31 v32 v33 v34 g2' g8' g15' g23' g30') (ho : ∀ k, On (L.setIfInBounds 15 true) k ↔ k = 15 ∨ On L k) {w2 : World} (hb : Below w'.heap.size w' w2) {G : Nat} (hr : GRow w2 (some ⟨G, 0, none⟩) [0]) (hno : ¬ On L 15) : OneS W k7 o7 l7 k8 o8 l8 k9 o9 l9 k10 o10 l10 k13 o13 l13 (L.setIfInBounds 15 true) w2 v0 v1 v2 v3 v4 v5 v6 v7 v8 v9 v10 v11 v12 v13 v14 (.slice (some ⟨G, 0, none⟩) 1 1) v16 v17 v18 v19 v20 v21 v22 v23 v24 v25 v26 v27 v28 v29 v30 v31 v32 v33 v34 g2' g8' G g23' g30' := by
  have o : ∀ k, k ≠ 15 → On (L.setIfInBounds 15 true) k → On L k := fun k hk h => ((ho k).1 h).resolve_left hk
  exact ⟨hS.bel.trans (hb.mono hS.bel.size), fun h => hS.d0 (o 0 (by decide) h), fun h => hS.d1 (o 1 (by decide) h), fun h => hS.d2 (o 2 (by decide) h), fun h => hS.d3 (o 3 (by decide) h), fun h => hS.d4 (o 4 (by decide) h), fun h => hS.d5 (o 5 (by decide) h), fun h => hS.d6 (o 6 (by decide) h), fun h => hS.d7 (o 7 (by decide) h), fun h => hS.d8 (o 8 (by decide) h), fun h => hS.d9 (o 9 (by decide) h), fun h => hS.d10 (o 10 (by decide) h), fun h => hS.d11 (o 11 (by decide) h), fun h => hS.d12 (o 12 (by decide) h), fun h => hS.d13 (o 13 (by decide) h), fun h => hS.d14 (o 14 (by decide) h), fun _ => rfl, fun h => absurd (hS.c15 (o 16 (by decide) h)) hno, fun h => hS.d17 (o 17 (by decide) h), fun h => hS.d18 (o 18 (by decide) h), fun h => hS.d19 (o 19 (by decide) h), fun h => hS.d20 (o 20 (by decide) h), fun h => hS.d21 (o 21 (by decide) h), fun h => hS.d22 (o 22 (by decide) h), fun h => hS.d23 (o 23 (by decide) h), fun h => hS.d24 (o 24 (by decide) h), fun h => hS.d25 (o 25 (by decide) h), fun h => hS.d26 (o 26 (by decide) h), fun h => hS.d27 (o 27 (by decide) h), fun h => hS.d28 (o 28 (by decide) h), fun h => hS.d29 (o 29 (by decide) h), fun h => hS.d30 (o 30 (by decide) h), fun h => hS.d31 (o 31 (by decide) h), fun h => hS.d32 (o 32 (by decide) h), fun h => hS.d33 (o 33 (by decide) h), fun h => hS.d34 (o 34 (by decide) h), fun h => (hS.r2 (o 2 (by decide) h)).below hb, fun h => (ho 2).2 (Or.inr (hS.c2 (o 3 (by decide) h))), fun h => (hS.r8 (o 8 (by decide) h)).below hb, fun h => (ho 8).2 (Or.inr (hS.c8 (o 9 (by decide) h))), fun _ => hr, fun h => absurd (hS.c15 (o 16 (by decide) h)) hno, fun h => (hS.r23 (o 23 (by decide) h)).below hb, fun h => (ho 23).2 (Or.inr (hS.c23 (o 24 (by decide) h))), fun h => (hS.r30 (o 30 (by decide) h)).below hb, fun h => (ho 30).2 (Or.inr (hS.c30 (o 31 (by decide) h)))⟩
theorem one_16 {W w' : World} {k7 : Nat} {o7 : Option Addr} {l7 : List Nat} {k8 : Nat} {o8 : Option Addr} {l8 : List Nat} {k9 : Nat} {o9 : Option Addr} {l9 : List Nat} {k10 : Nat} {o10 : Option Addr} {l10 : List Nat} {k13 : Nat} {o13 : Option Addr} {l13 : List Nat} {L : Array Bool} {v0 v1 v2 v3 v4 v5 v6 v7 v8 v9 v10 v11 v12 v13 v14 v15 v16 v17 v18 v19 v20 v21 v22 v23 v24 v25 v26 v27 v28 v29 v30 v31 v32 v33 v34 : Value} {g2' g8' g15' g23' g30' : Nat} (hS : OneS W k7 o7 l7 k8 o8 l8 k9 o9 l9 k10 o10 l10 k13 o13 l13 L w' v0 v1 v2 v3 v4 v5 v6 v7 v8 v9 v10 v11 v12 v13 v14 v15 v16 v17 v18 v19 v20 v21 v22 v23 v24 v25 v26 v27 v28 v29 v30 v31 v32 v33 v34 g2' g8' g15' g23' g30') (ho : ∀ k, On (L.setIfInBounds 16 true) k ↔ k = 16 ∨ On L k) {w2 : World} (hb : Below w'.heap.size w' w2) (dn : On L 15) : OneS W k7 o7 l7 k8 o8 l8 k9 o9 l9 k10 o10 l10 k13 o13 l13 (L.setIfInBounds 16 true) w2 v0 v1 v2 v3 v4 v5 v6 v7 v8 v9 v10 v11 v12 v13 v14 v15 (mxV 1 1 (some ⟨g15', 0, none⟩) 1 1) v17 v18 v19 v20 v21 v22 v23 v24 v25 v26 v27 v28 v29 v30 v31 v32 v33 v34 g2' g8' g15' g23' g30' := by
  have o : ∀ k, k ≠ 16 → On (L.setIfInBounds 16 true) k → On L k := fun k hk h => ((ho k).1 h).resolve_left hk
  exact ⟨hS.bel.trans (hb.mono hS.bel.size), fun h => hS.d0 (o 0 (by decide) h), fun h => hS.d1 (o 1 (by decide) h), fun h => hS.d2 (o 2 (by decide) h), fun h => hS.d3 (o 3 (by decide) h), fun h => hS.d4 (o 4 (by decide) h), fun h => hS.d5 (o 5 (by decide) h), fun h => hS.d6 (o 6 (by decide) h), fun h => hS.d7 (o 7 (by decide) h), fun h => hS.d8 (o 8 (by decide) h), fun h => hS.d9 (o 9 (by decide) h), fun h => hS.d10 (o 10 (by decide) h), fun h => hS.d11 (o 11 (by decide) h), fun h => hS.d12 (o 12 (by decide) h), fun h => hS.d13 (o 13 (by decide) h), fun h => hS.d14 (o 14 (by decide) h), fun h => hS.d15 (o 15 (by decide) h), fun _ => rfl, fun h => hS.d17 (o 17 (by decide) h), fun h => hS.d18 (o 18 (by decide) h), fun h => hS.d19 (o 19 (by decide) h), fun h => hS.d20 (o 20 (by decide) h), fun h => hS.d21 (o 21 (by decide) h), fun h => hS.d22 (o 22 (by decide) h), fun h => hS.d23 (o 23 (by decide) h), fun h => hS.d24 (o 24 (by decide) h), fun h => hS.d25 (o 25 (by decide) h), fun h => hS.d26 (o 26 (by decide) h), fun h => hS.d27 (o 27 (by decide) h), fun h => hS.d28 (o 28 (by decide) h), fun h => hS.d29 (o 29 (by decide) h), fun h => hS.d30 (o 30 (by decide) h), fun h => hS.d31 (o 31 (by decide) h), fun h => hS.d32 (o 32 (by decide) h), fun h => hS.d33 (o 33 (by decide) h), fun h => hS.d34 (o 34 (by decide) h), fun h => (hS.r2 (o 2 (by decide) h)).below hb, fun h => (ho 2).2 (Or.inr (hS.c2 (o 3 (by decide) h))), fun h => (hS.r8 (o 8 (by decide) h)).below hb, fun h => (ho 8).2 (Or.inr (hS.c8 (o 9 (by decide) h))), fun h => (hS.r15 (o 15 (by decide) h)).below hb, fun _ => (ho 15).2 (Or.inr dn), fun h => (hS.r23 (o 23 (by decide) h)).below hb, fun h => (ho 23).2 (Or.inr (hS.c23 (o 24 (by decide) h))), fun h => (hS.r30 (o 30 (by decide) h)).below hb, fun h => (ho 30).2 (Or.inr (hS.c30 (o 31 (by decide) h)))⟩
theorem one_17 {W w' : World} {k7 : Nat} {o7 : Option Addr} {l7 : List Nat} {k8 : Nat} {o8 : Option Addr} {l8 : List Nat} {k9 : Nat} {o9 : Option Addr} {l9 : List Nat} {k10 : Nat} {o10 : Option Addr} {l10 : List Nat} {k13 : Nat} {o13 : Option Addr} {l13 : List Nat} {L : Array Bool} {v0 v1 v2 v3 v4 v5 v6 v7 v8 v9 v10 v11 v12 v13 v14 v15 v16 v17 v18 v19 v20 v21 v22 v23 v24 v25 v26 v27 v28 v29 v30 v31 v32 v33 v34 : Value} {g2' g8' g15' g23' g30' : Nat} (hS : OneS W k7 o7 l7 k8 o8 l8 k9 o9 l9 k10 o10 l10 k13 o13 l13 L w' v0 v1 v2 v3 v4 v5 v6 v7 v8 v9 v10 v11 v12 v13 v14 v15 v16 v17 v18 v19 v20 v21 v22 v23 v24 v25 v26 v27 v28 v29 v30 v31 v32 v33 v34 g2' g8' g15' g23' g30') (ho : ∀ k, On (L.setIfInBounds 17 true) k ↔ k = 17 ∨ On L k) {w2 : World} (hb : Below w'.heap.size w' w2) : OneS W k7 o7 l7 k8 o8 l8 k9 o9 l9 k10 o10 l10 k13 o13 l13 (L.setIfInBounds 17 true) w2 v0 v1 v2 v3 v4 v5 v6 v7 v8 v9 v10 v11 v12 v13 v14 v15 v16 (.bool true) v18 v19 v20 v21 v22 v23 v24 v25 v26 v27 v28 v29 v30 v31 v32 v33 v34 g2' g8' g15' g23' g30' := by
  have o : ∀ k, k ≠ 17 → On (L.setIfInBounds 17 true) k → On L k := fun k hk h => ((ho k).1 h).resolve_left hk
  exact ⟨hS.bel.trans (hb.mono hS.bel.size), fun h => hS.d0 (o 0 (by decide) h), fun h => hS.d1 (o 1 (by decide) h), fun h => hS.d2 (o 2 (by decide) h), fun h => hS.d3 (o 3 (by decide) h), fun h => hS.d4 (o 4 (by decide) h), fun h => hS.d5 (o 5 (by decide) h), fun h => hS.d6 (o 6 (by decide) h), fun h => hS.d7 (o 7 (by decide) h), fun h => hS.d8 (o 8 (by decide) h), fun h => hS.d9 (o 9 (by decide) h), fun h => hS.d10 (o 10 (by decide) h), fun h => hS.d11 (o 11 (by decide) h), fun h => hS.d12 (o 12 (by decide) h), fun h => hS.d13 (o 13 (by decide) h), fun h => hS.d14 (o 14 (by decide) h), fun h => hS.d15 (o 15 (by decide) h), fun h => hS.d16 (o 16 (by decide) h), fun _ => rfl, fun h => hS.d18 (o 18 (by decide) h), fun h => hS.d19 (o 19 (by decide) h), fun h => hS.d20 (o 20 (by decide) h), fun h => hS.d21 (o 21 (by decide) h), fun h => hS.d22 (o 22 (by decide) h), fun h => hS.d23 (o 23 (by decide) h), fun h => hS.d24 (o 24 (by decide) h), fun h => hS.d25 (o 25 (by decide) h), fun h => hS.d26 (o 26 (by decide) h), fun h => hS.d27 (o 27 (by decide) h), fun h => hS.d28 (o 28 (by decide) h), fun h => hS.d29 (o 29 (by decide) h), fun h => hS.d30 (o 30 (by decide) h), fun h => hS.d31 (o 31 (by decide) h), fun h => hS.d32 (o 32 (by decide) h), fun h => hS.d33 (o 33 (by decide) h), fun h => hS.d34 (o 34 (by decide) h), fun h => (hS.r2 (o 2 (by decide) h)).below hb, fun h => (ho 2).2 (Or.inr (hS.c2 (o 3 (by decide) h))), fun h => (hS.r8 (o 8 (by decide) h)).below hb, fun h => (ho 8).2 (Or.inr (hS.c8 (o 9 (by decide) h))), fun h => (hS.r15 (o 15 (by decide) h)).below hb, fun h => (ho 15).2 (Or.inr (hS.c15 (o 16 (by decide) h))), fun h => (hS.r23 (o 23 (by decide) h)).below hb, fun h => (ho 23).2 (Or.inr (hS.c23 (o 24 (by decide) h))), fun h => (hS.r30 (o 30 (by decide) h)).below hb, fun h => (ho 30).2 (Or.inr (hS.c30 (o 31 (by decide) h)))⟩
theorem one_18 {W w' : World} {k7 : Nat} {o7 : Option Addr} {l7 : List Nat} {k8 : Nat} {o8 : Option Addr} {l8 : List Nat} {k9 : Nat} {o9 : Option Addr} {l9 : List Nat} {k10 : Nat} {o10 : Option Addr} {l10 : List Nat} {k13 : Nat} {o13 : Option Addr} {l13 : List Nat} {L : Array Bool} {v0 v1 v2 v3 v4 v5 v6 v7 v8 v9 v10 v11 v12 v13 v14 v15 v16 v17 v18 v19 v20 v21 v22 v23 v24 v25 v26 v27 v28 v29 v30 v31 v32 v33 v34 : Value} {g2' g8' g15' g23' g30' : Nat} (hS : OneS W k7 o7 l7 k8 o8 l8 k9 o9 l9 k10 o10 l10 k13 o13 l13 L w' v0 v1 v2 v3 v4 v5 v6 v7 v8 v9 v10 v11 v12 v13 v14 v15 v16 v17 v18 v19 v20 v21 v22 v23 v24 v25 v26 v27 v28 v29 v30 v31 v32 v33 v34 g2' g8' g15' g23' g30') (ho : ∀ k, On (L.setIfInBounds 18 true) k ↔ k = 18 ∨ On L k) : OneS W k7 o7 l7 k8 o8 l8 k9 o9 l9 k10 o10 l10 k13 o13 l13 (L.setIfInBounds 18 true) w' v0 v1 v2 v3 v4 v5 v6 v7 v8 v9 v10 v11 v12 v13 v14 v15 v16 v17 (.bool true) v19 v20 v21 v22 v23 v24 v25 v26 v27 v28 v29 v30 v31 v32 v33 v34 g2' g8' g15' g23' g30' := by
  have o : ∀ k, k ≠ 18 → On (L.setIfInBounds 18 true) k → On L k := fun k hk h => ((ho k).1 h).resolve_left hk
  exact ⟨hS.bel, fun h => hS.d0 (o 0 (by decide) h), fun h => hS.d1 (o 1 (by decide) h), fun h => hS.d2 (o 2 (by decide) h), fun h => hS.d3 (o 3 (by decide) h), fun h => hS.d4 (o 4 (by decide) h), fun h => hS.d5 (o 5 (by decide) h), fun h => hS.d6 (o 6 (by decide) h), fun h => hS.d7 (o 7 (by decide) h), fun h => hS.d8 (o 8 (by decide) h), fun h => hS.d9 (o 9 (by decide) h), fun h => hS.d10 (o 10 (by decide) h), fun h => hS.d11 (o 11 (by decide) h), fun h => hS.d12 (o 12 (by decide) h), fun h => hS.d13 (o 13 (by decide) h), fun h => hS.d14 (o 14 (by decide) h), fun h => hS.d15 (o 15 (by decide) h), fun h => hS.d16 (o 16 (by decide) h), fun h => hS.d17 (o 17 (by decide) h), fun _ => rfl, fun h => hS.d19 (o 19 (by decide) h), fun h => hS.d20 (o 20 (by decide) h), fun h => hS.d21 (o 21 (by decide) h), fun h => hS.d22 (o 22 (by decide) h), fun h => hS.d23 (o 23 (by decide) h), fun h => hS.d24 (o 24 (by decide) h), fun h => hS.d25 (o 25 (by decide) h), fun h => hS.d26 (o 26 (by decide) h), fun h => hS.d27 (o 27 (by decide) h), fun h => hS.d28 (o 28 (by decide) h), fun h => hS.d29 (o 29 (by decide) h), fun h => hS.d30 (o 30 (by decide) h), fun h => hS.d31 (o 31 (by decide) h), fun h => hS.d32 (o 32 (by decide) h), fun h => hS.d33 (o 33 (by decide) h), fun h => hS.d34 (o 34 (by decide) h), fun h => hS.r2 (o 2 (by decide) h), fun h => (ho 2).2 (Or.inr (hS.c2 (o 3 (by decide) h))), fun h => hS.r8 (o 8 (by decide) h), fun h => (ho 8).2 (Or.inr (hS.c8 (o 9 (by decide) h))), fun h => hS.r15 (o 15 (by decide) h), fun h => (ho 15).2 (Or.inr (hS.c15 (o 16 (by decide) h))), fun h => hS.r23 (o 23 (by decide) h), fun h => (ho 23).2 (Or.inr (hS.c23 (o 24 (by decide) h))), fun h => hS.r30 (o 30 (by decide) h), fun h => (ho 30).2 (Or.inr (hS.c30 (o 31 (by decide) h)))⟩
theorem one_19 {W w' : World} {k7 : Nat} {o7 : Option Addr} {l7 : List Nat} {k8 : Nat} {o8 : Option Addr} {l8 : List Nat} {k9 : Nat} {o9 : Option Addr} {l9 : List Nat} {k10 : Nat} {o10 : Option Addr} {l10 : List Nat} {k13 : Nat} {o13 : Option Addr} {l13 : List Nat} {L : Array Bool} {v0 v1 v2 v3 v4 v5 v6 v7 v8 v9 v10 v11 v12 v13 v14 v15 v16 v17 v18 v19 v20 v21 v22 v23 v24 v25 v26 v27 v28 v29 v30 v31 v32 v33 v34 : Value} {g2' g8' g15' g23' g30' : Nat} (hS : OneS W k7 o7 l7 k8 o8 l8 k9 o9 l9 k10 o10 l10 k13 o13 l13 L w' v0 v1 v2 v3 v4 v5 v6 v7 v8 v9 v10 v11 v12 v13 v14 v15 v16 v17 v18 v19 v20 v21 v22 v23 v24 v25 v26 v27 v28 v29 v30 v31 v32 v33 v34 g2' g8' g15' g23' g30') (ho : ∀ k, On (L.setIfInBounds 19 true) k ↔ k = 19 ∨ On L k) : OneS W k7 o7 l7 k8 o8 l8 k9 o9 l9 k10 o10 l10 k13 o13 l13 (L.setIfInBounds 19 true) w' v0 v1 v2 v3 v4 v5 v6 v7 v8 v9 v10 v11 v12 v13 v14 v15 v16 v17 v18 (.bool true) v20 v21 v22 v23 v24 v25 v26 v27 v28 v29 v30 v31 v32 v33 v34 g2' g8' g15' g23' g30' := by
  have o : ∀ k, k ≠ 19 → On (L.setIfInBounds 19 true) k → On L k := fun k hk h => ((ho k).1 h).resolve_left hk
  exact ⟨hS.bel, fun h => hS.d0 (o 0 (by decide) h), fun h => hS.d1 (o 1 (by decide) h), fun h => hS.d2 (o 2 (by decide) h), fun h => hS.d3 (o 3 (by decide) h), fun h => hS.d4 (o 4 (by decide) h), fun h => hS.d5 (o 5 (by decide) h), fun h => hS.d6 (o 6 (by decide) h), fun h => hS.d7 (o 7 (by decide) h), fun h => hS.d8 (o 8 (by decide) h), fun h => hS.d9 (o 9 (by decide) h), fun h => hS.d10 (o 10 (by decide) h), fun h => hS.d11 (o 11 (by decide) h), fun h => hS.d12 (o 12 (by decide) h), fun h => hS.d13 (o 13 (by decide) h), fun h => hS.d14 (o 14 (by decide) h), fun h => hS.d15 (o 15 (by decide) h), fun h => hS.d16 (o 16 (by decide) h), fun h => hS.d17 (o 17 (by decide) h), fun h => hS.d18 (o 18 (by decide) h), fun _ => rfl, fun h => hS.d20 (o 20 (by decide) h), fun h => hS.d21 (o 21 (by decide) h), fun h => hS.d22 (o 22 (by decide) h), fun h => hS.d23 (o 23 (by decide) h), fun h => hS.d24 (o 24 (by decide) h), fun h => hS.d25 (o 25 (by decide) h), fun h => hS.d26 (o 26 (by decide) h), fun h => hS.d27 (o 27 (by decide) h), fun h => hS.d28 (o 28 (by decide) h), fun h => hS.d29 (o 29 (by decide) h), fun h => hS.d30 (o 30 (by decide) h), fun h => hS.d31 (o 31 (by decide) h), fun h => hS.d32 (o 32 (by decide) h), fun h => hS.d33 (o 33 (by decide) h), fun h => hS.d34 (o 34 (by decide) h), fun h => hS.r2 (o 2 (by decide) h), fun h => (ho 2).2 (Or.inr (hS.c2 (o 3 (by decide) h))), fun h => hS.r8 (o 8 (by decide) h), fun h => (ho 8).2 (Or.inr (hS.c8 (o 9 (by decide) h))), fun h => hS.r15 (o 15 (by decide) h), fun h => (ho 15).2 (Or.inr (hS.c15 (o 16 (by decide) h))), fun h => hS.r23 (o 23 (by decide) h), fun h => (ho 23).2 (Or.inr (hS.c23 (o 24 (by decide) h))), fun h => hS.r30 (o 30 (by decide) h), fun h => (ho 30).2 (Or.inr (hS.c30 (o 31 (by decide) h)))⟩
theorem one_20 {W w' : World} {k7 : Nat} {o7 : Option Addr} {l7 : List Nat} {k8 : Nat} {o8 : Option Addr} {l8 : List Nat} {k9 : Nat} {o9 : Option Addr} {l9 : List Nat} {k10 : Nat} {o10 : Option Addr} {l10 : List Nat} {k13 : Nat} {o13 : Option Addr} {l13 : List Nat} {L : Array Bool} {v0 v1 v2 v3 v4 v5 v6 v7 v8 v9 v10 v11 v12 v13 v14 v15 v16 v17 v18 v19 v20 v21 v22 v23 v24 v25 v26 v27 v28 v29 v30 v31 v32 v33 v34 : Value} {g2' g8' g15' g23' g30' : Nat} (hS : OneS W k7 o7 l7 k8 o8 l8 k9 o9 l9 k10 o10 l10 k13 o13 l13 L w' v0 v1 v2 v3 v4 v5 v6 v7 v8 v9 v10 v11 v12 v13 v14 v15 v16 v17 v18 v19 v20 v21 v22 v23 v24 v25 v26 v27 v28 v29 v30 v31 v32 v33 v34 g2' g8' g15' g23' g30') (ho : ∀ k, On (L.setIfInBounds 20 true) k ↔ k = 20 ∨ On L k) : OneS W k7 o7 l7 k8 o8 l8 k9 o9 l9 k10 o10 l10 k13 o13 l13 (L.setIfInBounds 20 true) w' v0 v1 v2 v3 v4 v5 v6 v7 v8 v9 v10 v11 v12 v13 v14 v15 v16 v17 v18 v19 (mxV 1 1 o10 l10.length k10) v21 v22 v23 v24 v25 v26 v27 v28 v29 v30 v31 v32 v33 v34 g2' g8' g15' g23' g30' := by
  have o : ∀ k, k ≠ 20 → On (L.setIfInBounds 20 true) k → On L k := fun k hk h => ((ho k).1 h).resolve_left hk
  exact ⟨hS.bel, fun h => hS.d0 (o 0 (by decide) h), fun h => hS.d1 (o 1 (by decide) h), fun h => hS.d2 (o 2 (by decide) h), fun h => hS.d3 (o 3 (by decide) h), fun h => hS.d4 (o 4 (by decide) h), fun h => hS.d5 (o 5 (by decide) h), fun h => hS.d6 (o 6 (by decide) h), fun h => hS.d7 (o 7 (by decide) h), fun h => hS.d8 (o 8 (by decide) h), fun h => hS.d9 (o 9 (by decide) h), fun h => hS.d10 (o 10 (by decide) h), fun h => hS.d11 (o 11 (by decide) h), fun h => hS.d12 (o 12 (by decide) h), fun h => hS.d13 (o 13 (by decide) h), fun h => hS.d14 (o 14 (by decide) h), fun h => hS.d15 (o 15 (by decide) h), fun h => hS.d16 (o 16 (by decide) h), fun h => hS.d17 (o 17 (by decide) h), fun h => hS.d18 (o 18 (by decide) h), fun h => hS.d19 (o 19 (by decide) h), fun _ => rfl, fun h => hS.d21 (o 21 (by decide) h), fun h => hS.d22 (o 22 (by decide) h), fun h => hS.d23 (o 23 (by decide) h), fun h => hS.d24 (o 24 (by decide) h), fun h => hS.d25 (o 25 (by decide) h), fun h => hS.d26 (o 26 (by decide) h), fun h => hS.d27 (o 27 (by decide) h), fun h => hS.d28 (o 28 (by decide) h), fun h => hS.d29 (o 29 (by decide) h), fun h => hS.d30 (o 30 (by decide) h), fun h => hS.d31 (o 31 (by decide) h), fun h => hS.d32 (o 32 (by decide) h), fun h => hS.d33 (o 33 (by decide) h), fun h => hS.d34 (o 34 (by decide) h), fun h => hS.r2 (o 2 (by decide) h), fun h => (ho 2).2 (Or.inr (hS.c2 (o 3 (by decide) h))), fun h => hS.r8 (o 8 (by decide) h), fun h => (ho 8).2 (Or.inr (hS.c8 (o 9 (by decide) h))), fun h => hS.r15 (o 15 (by decide) h), fun h => (ho 15).2 (Or.inr (hS.c15 (o 16 (by decide) h))), fun h => hS.r23 (o 23 (by decide) h), fun h => (ho 23).2 (Or.inr (hS.c23 (o 24 (by decide) h))), fun h => hS.r30 (o 30 (by decide) h), fun h => (ho 30).2 (Or.inr (hS.c30 (o 31 (by decide) h)))⟩
theorem one_21 {W w' : World} {k7 : Nat} {o7 : Option Addr} {l7 : List Nat} {k8 : Nat} {o8 : Option Addr} {l8 : List Nat} {k9 : Nat} {o9 : Option Addr} {l9 : List Nat} {k10 : Nat} {o10 : Option Addr} {l10 : List Nat} {k13 : Nat} {o13 : Option Addr} {l13 : List Nat} {L : Array Bool} {v0 v1 v2 v3 v4 v5 v6 v7 v8 v9 v10 v11 v12 v13 v14 v15 v16 v17 v18 v19 v20 v21 v22 v23 v24 v25 v26 v27 v28 v29 v30 v31 v32 v33 v34 : Value} {g2' g8' g15' g23' g30' : Nat} (hS : OneS W k7 o7 l7 k8 o8 l8 k9 o9 l9 k10 o10 l10 k13 o13 l13 L w' v0 v1 v2 v3 v4 v5 v6 v7 v8 v9 v10 v11 v12 v13 v14 v15 v16 v17 v18 v19 v20 v21 v22 v23 v24 v25 v26 v27 v28 v29 v30 v31 v32 v33 v34 g2' g8' g15' g23' g30') (ho : ∀ k, On (L.setIfInBounds 21 true) k ↔ k = 21 ∨ On L k) : OneS W k7 o7 l7 k8 o8 l8 k9 o9 l9 k10 o10 l10 k13 o13 l13 (L.setIfInBounds 21 true) w' v0 v1 v2 v3 v4 v5 v6 v7 v8 v9 v10 v11 v12 v13 v14 v15 v16 v17 v18 v19 v20 (.int .i64 0) v22 v23 v24 v25 v26 v27 v28 v29 v30 v31 v32 v33 v34 g2' g8' g15' g23' g30' := by
  have o : ∀ k, k ≠ 21 → On (L.setIfInBounds 21 true) k → On L k := fun k hk h => ((ho k).1 h).resolve_left hk
  exact ⟨hS.bel, fun h => hS.d0 (o 0 (by decide) h), fun h => hS.d1 (o 1 (by decide) h), fun h => hS.d2 (o 2 (by decide) h), fun h => hS.d3 (o 3 (by decide) h), fun h => hS.d4 (o 4 (by decide) h), fun h => hS.d5 (o 5 (by decide) h), fun h => hS.d6 (o 6 (by decide) h), fun h => hS.d7 (o 7 (by decide) h), fun h => hS.d8 (o 8 (by decide) h), fun h => hS.d9 (o 9 (by decide) h), fun h => hS.d10 (o 10 (by decide) h), fun h => hS.d11 (o 11 (by decide) h), fun h => hS.d12 (o 12 (by decide) h), fun h => hS.d13 (o 13 (by decide) h), fun h => hS.d14 (o 14 (by decide) h), fun h => hS.d15 (o 15 (by decide) h), fun h => hS.d16 (o 16 (by decide) h), fun h => hS.d17 (o 17 (by decide) h), fun h => hS.d18 (o 18 (by decide) h), fun h => hS.d19 (o 19 (by decide) h), fun h => hS.d20 (o 20 (by decide) h), fun _ => rfl, fun h => hS.d22 (o 22 (by decide) h), fun h => hS.d23 (o 23 (by decide) h), fun h => hS.d24 (o 24 (by decide) h), fun h => hS.d25 (o 25 (by decide) h), fun h => hS.d26 (o 26 (by decide) h), fun h => hS.d27 (o 27 (by decide) h), fun h => hS.d28 (o 28 (by decide) h), fun h => hS.d29 (o 29 (by decide) h), fun h => hS.d30 (o 30 (by decide) h), fun h => hS.d31 (o 31 (by decide) h), fun h => hS.d32 (o 32 (by decide) h), fun h => hS.d33 (o 33 (by decide) h), fun h => hS.d34 (o 34 (by decide) h), fun h => hS.r2 (o 2 (by decide) h), fun h => (ho 2).2 (Or.inr (hS.c2 (o 3 (by decide) h))), fun h => hS.r8 (o 8 (by decide) h), fun h => (ho 8).2 (Or.inr (hS.c8 (o 9 (by decide) h))), fun h => hS.r15 (o 15 (by decide) h), fun h => (ho 15).2 (Or.inr (hS.c15 (o 16 (by decide) h))), fun h => hS.r23 (o 23 (by decide) h), fun h => (ho 23).2 (Or.inr (hS.c23 (o 24 (by decide) h))), fun h => hS.r30 (o 30 (by decide) h), fun h => (ho 30).2 (Or.inr (hS.c30 (o 31 (by decide) h)))⟩
theorem one_22 {W w' : World} {k7 : Nat} {o7 : Option Addr} {l7 : List Nat} {k8 : Nat} {o8 : Option Addr} {l8 : List Nat} {k9 : Nat} {o9 : Option Addr} {l9 : List Nat} {k10 : Nat} {o10 : Option Addr} {l10 : List Nat} {k13 : Nat} {o13 : Option Addr} {l13 : List Nat} {L : Array Bool} {v0 v1 v2 v3 v4 v5 v6 v7 v8 v9 v10 v11 v12 v13 v14 v15 v16 v17 v18 v19 v20 v21 v22 v23 v24 v25 v26 v27 v28 v29 v30 v31 v32 v33 v34 : Value} {g2' g8' g15' g23' g30' : Nat} (hS : OneS W k7 o7 l7 k8 o8 l8 k9 o9 l9 k10 o10 l10 k13 o13 l13 L w' v0 v1 v2 v3 v4 v5 v6 v7 v8 v9 v10 v11 v12 v13 v14 v15 v16 v17 v18 v19 v20 v21 v22 v23 v24 v25 v26 v27 v28 v29 v30 v31 v32 v33 v34 g2' g8' g15' g23' g30') (ho : ∀ k, On (L.setIfInBounds 22 true) k ↔ k = 22 ∨ On L k) : OneS W k7 o7 l7 k8 o8 l8 k9 o9 l9 k10 o10 l10 k13 o13 l13 (L.setIfInBounds 22 true) w' v0 v1 v2 v3 v4 v5 v6 v7 v8 v9 v10 v11 v12 v13 v14 v15 v16 v17 v18 v19 v20 v21 (.float .f64 9221120237041090561) v23 v24 v25 v26 v27 v28 v29 v30 v31 v32 v33 v34 g2' g8' g15' g23' g30' := by
  have o : ∀ k, k ≠ 22 → On (L.setIfInBounds 22 true) k → On L k := fun k hk h => ((ho k).1 h).resolve_left hk
  exact ⟨hS.bel, fun h => hS.d0 (o 0 (by decide) h), fun h => hS.d1 (o 1 (by decide) h), fun h => hS.d2 (o 2 (by decide) h), fun h => hS.d3 (o 3 (by decide) h), fun h => hS.d4 (o 4 (by decide) h), fun h => hS.d5 (o 5 (by decide) h), fun h => hS.d6 (o 6 (by decide) h), fun h => hS.d7 (o 7 (by decide) h), fun h => hS.d8 (o 8 (by decide) h), fun h => hS.d9 (o 9 (by decide) h), fun h => hS.d10 (o 10 (by decide) h), fun h => hS.d11 (o 11 (by decide) h), fun h => hS.d12 (o 12 (by decide) h), fun h => hS.d13 (o 13 (by decide) h), fun h => hS.d14 (o 14 (by decide) h), fun h => hS.d15 (o 15 (by decide) h), fun h => hS.d16 (o 16 (by decide) h), fun h => hS.d17 (o 17 (by decide) h), fun h => hS.d18 (o 18 (by decide) h), fun h => hS.d19 (o 19 (by decide) h), fun h => hS.d20 (o 20 (by decide) h), fun h => hS.d21 (o 21 (by decide) h), fun _ => rfl, fun h => hS.d23 (o 23 (by decide) h), fun h => hS.d24 (o 24 (by decide) h), fun h => hS.d25 (o 25 (by decide) h), fun h => hS.d26 (o 26 (by decide) h), fun h => hS.d27 (o 27 (by decide) h), fun h => hS.d28 (o 28 (by decide) h), fun h => hS.d29 (o 29 (by decide) h), fun h => hS.d30 (o 30 (by decide) h), fun h => hS.d31 (o 31 (by decide) h), fun h => hS.d32 (o 32 (by decide) h), fun h => hS.d33 (o 33 (by decide) h), fun h => hS.d34 (o 34 (by decide) h), fun h => hS.r2 (o 2 (by decide) h), fun h => (ho 2).2 (Or.inr (hS.c2 (o 3 (by decide) h))), fun h => hS.r8 (o 8 (by decide) h), fun h => (ho 8).2 (Or.inr (hS.c8 (o 9 (by decide) h))), fun h => hS.r15 (o 15 (by decide) h), fun h => (ho 15).2 (Or.inr (hS.c15 (o 16 (by decide) h))), fun h => hS.r23 (o 23 (by decide) h), fun h => (ho 23).2 (Or.inr (hS.c23 (o 24 (by decide) h))), fun h => hS.r30 (o 30 (by decide) h), fun h => (ho 30).2 (Or.inr (hS.c30 (o 31 (by decide) h)))⟩
theorem one_23 {W w' : World} {k7 : Nat} {o7 : Option Addr} {l7 : List Nat} {k8 : Nat} {o8 : Option Addr} {l8 : List Nat} {k9 : Nat} {o9 : Option Addr} {l9 : List Nat} {k10 : Nat} {o10 : Option Addr} {l10 : List Nat} {k13 : Nat} {o13 : Option Addr} {l13 : List Nat} {L : Array Bool} {v0 v1 v2 v3 v4 v5 v6 v7 v8 v9 v10 v11 v12 v13 v14 v15 v16 v17 v18 v19 v20 v21 v22 v23 v24 v25 v26 v27 v28 v29 v30 v31 v32 v33 v34 : Value} {g2' g8' g15' g23' g30' : Nat} (hS : OneS W k7 o7 l7 k8 o8 l8 k9 o9 l9 k10 o10 l10 k13 o13 l13 L w' v0 v1 v2 v3 v4 v5 v6 v7 v8 v9 v10 v11 v12 v13 v14 v15 v16 v17 v18 v19 v20 v21 v22 v23 v24 v25 v26 v27 v28 v29 v30 v31 v32 v33 v34 g2' g8' g15' g23' g30') (ho : ∀ k, On (L.setIfInBounds 23 true) k ↔ k = 23 ∨ On L k) {w2 : World} (hb : Below w'.heap.size w' w2) {G : Nat} (hr : GRow w2 (some ⟨G, 0, none⟩) [9221120237041090561]) (hno : ¬ On L 23) : OneS W k7 o7 l7 k8 o8 l8 k9 o9 l9 k10 o10 l10 k13 o13 l13 (L.setIfInBounds 23 true) w2 v0 v1 v2 v3 v4 v5 v6 v7 v8 v9 v10 v11 v12 v13 v14 v15 v16 v17 v18 v19 v20 v21 v22 (.slice (some ⟨G, 0, none⟩) 1 1) v24 v25 v26 v27 v28 v29 v30 v31 v32 v33 v34 g2' g8' g15' G g30' := by
  have o : ∀ k, k ≠ 23 → On (L.setIfInBounds 23 true) k → On L k := fun k hk h => ((ho k).1 h).resolve_left hk
  exact ⟨hS.bel.trans (hb.mono hS.bel.size), fun h => hS.d0 (o 0 (by decide) h), fun h => hS.d1 (o 1 (by decide) h), fun h => hS.d2 (o 2 (by decide) h), fun h => hS.d3 (o 3 (by decide) h), fun h => hS.d4 (o 4 (by decide) h), fun h => hS.d5 (o 5 (by decide) h), fun h => hS.d6 (o 6 (by decide) h), fun h => hS.d7 (o 7 (by decide) h), fun h => hS.d8 (o 8 (by decide) h), fun h => hS.d9 (o 9 (by decide) h), fun h => hS.d10 (o 10 (by decide) h), fun h => hS.d11 (o 11 (by decide) h), fun h => hS.d12 (o 12 (by decide) h), fun h => hS.d13 (o 13 (by decide) h), fun h => hS.d14 (o 14 (by decide) h), fun h => hS.d15 (o 15 (by decide) h), fun h => hS.d16 (o 16 (by decide) h), fun h => hS.d17 (o 17 (by decide) h), fun h => hS.d18 (o 18 (by decide) h), fun h => hS.d19 (o 19 (by decide) h), fun h => hS.d20 (o 20 (by decide) h), fun h => hS.d21 (o 21 (by decide) h), fun h => hS.d22 (o 22 (by decide) h), fun _ => rfl, fun h => absurd (hS.c23 (o 24 (by decide) h)) hno, fun h => hS.d25 (o 25 (by decide) h), fun h => hS.d26 (o 26 (by decide) h), fun h => hS.d27 (o 27 (by decide) h), fun h => hS.d28 (o 28 (by decide) h), fun h => hS.d29 (o 29 (by decide) h), fun h => hS.d30 (o 30 (by decide) h), fun h => hS.d31 (o 31 (by decide) h), fun h => hS.d32 (o 32 (by decide) h), fun h => hS.d33 (o 33 (by decide) h), fun h => hS.d34 (o 34 (by decide) h), fun h => (hS.r2 (o 2 (by decide) h)).below hb, fun h => (ho 2).2 (Or.inr (hS.c2 (o 3 (by decide) h))), fun h => (hS.r8 (o 8 (by decide) h)).below hb, fun h => (ho 8).2 (Or.inr (hS.c8 (o 9 (by decide) h))), fun h => (hS.r15 (o 15 (by decide) h)).below hb, fun h => (ho 15).2 (Or.inr (hS.c15 (o 16 (by decide) h))), fun _ => hr, fun h => absurd (hS.c23 (o 24 (by decide) h)) hno, fun h => (hS.r30 (o 30 (by decide) h)).below hb, fun h => (ho 30).2 (Or.inr (hS.c30 (o 31 (by decide) h)))⟩
theorem one_24 {W w' : World} {k7 : Nat} {o7 : Option Addr} {l7 : List Nat} {k8 : Nat} {o8 : Option Addr} {l8 : List Nat} {k9 : Nat} {o9 : Option Addr} {l9 : List Nat} {k10 : Nat} {o10 : Option Addr} {l10 : List Nat} {k13 : Nat} {o13 : Option Addr} {l13 : List Nat} {L : Array Bool} {v0 v1 v2 v3 v4 v5 v6 v7 v8 v9 v10 v11 v12 v13 v14 v15 v16 v17 v18 v19 v20 v21 v22 v23 v24 v25 v26 v27 v28 v29 v30 v31 v32 v33 v34 : Value} {g2' g8' g15' g23' g30' : Nat} (hS : OneS W k7 o7 l7 k8 o8 l8 k9 o9 l9 k10 o10 l10 k13 o13 l13 L w' v0 v1 v2 v3 v4 v5 v6 v7 v8 v9 v10 v11 v12 v13 v14 v15 v16 v17 v18 v19 v20 v21 v22 v23 v24 v25 v26 v27 v28 v29 v30 v31 v32 v33 v34 g2' g8' g15' g23' g30') (ho : ∀ k, On (L.setIfInBounds 24 true) k ↔ k = 24 ∨ On L k) {w2 : World} (hb : Below w'.heap.size w' w2) (dn : On L 23) : OneS W k7 o7 l7 k8 o8 l8 k9 o9 l9 k10 o10 l10 k13 o13 l13 (L.setIfInBounds 24 true) w2 v0 v1 v2 v3 v4 v5 v6 v7 v8 v9 v10 v11 v12 v13 v14 v15 v16 v17 v18 v19 v20 v21 v22 v23 (mxV 1 1 (some ⟨g23', 0, none⟩) 1 1) v25 v26 v27 v28 v29 v30 v31 v32 v33 v34 g2' g8' g15' g23' g30' := by
  have o : ∀ k, k ≠ 24 → On (L.setIfInBounds 24 true) k → On L k := fun k hk h => ((ho k).1 h).resolve_left hk
  exact ⟨hS.bel.trans (hb.mono hS.bel.size), fun h => hS.d0 (o 0 (by decide) h), fun h => hS.d1 (o 1 (by decide) h), fun h => hS.d2 (o 2 (by decide) h), fun h => hS.d3 (o 3 (by decide) h), fun h => hS.d4 (o 4 (by decide) h), fun h => hS.d5 (o 5 (by decide) h), fun h => hS.d6 (o 6 (by decide) h), fun h => hS.d7 (o 7 (by decide) h), fun h => hS.d8 (o 8 (by decide) h), fun h => hS.d9 (o 9 (by decide) h), fun h => hS.d10 (o 10 (by decide) h), fun h => hS.d11 (o 11 (by decide) h), fun h => hS.d12 (o 12 (by decide) h), fun h => hS.d13 (o 13 (by decide) h), fun h => hS.d14 (o 14 (by decide) h), fun h => hS.d15 (o 15 (by decide) h), fun h => hS.d16 (o 16 (by decide) h), fun h => hS.d17 (o 17 (by decide) h), fun h => hS.d18 (o 18 (by decide) h), fun h => hS.d19 (o 19 (by decide) h), fun h => hS.d20 (o 20 (by decide) h), fun h => hS.d21 (o 21 (by decide) h), fun h => hS.d22 (o 22 (by decide) h), fun h => hS.d23 (o 23 (by decide) h), fun _ => rfl, fun h => hS.d25 (o 25 (by decide) h), fun h => hS.d26 (o 26 (by decide) h), fun h => hS.d27 (o 27 (by decide) h), fun h => hS.d28 (o 28 (by decide) h), fun h => hS.d29 (o 29 (by decide) h), fun h => hS.d30 (o 30 (by decide) h), fun h => hS.d31 (o 31 (by decide) h), fun h => hS.d32 (o 32 (by decide) h), fun h => hS.d33 (o 33 (by decide) h), fun h => hS.d34 (o 34 (by decide) h), fun h => (hS.r2 (o 2 (by decide) h)).below hb, fun h => (ho 2).2 (Or.inr (hS.c2 (o 3 (by decide) h))), fun h => (hS.r8 (o 8 (by decide) h)).below hb, fun h => (ho 8).2 (Or.inr (hS.c8 (o 9 (by decide) h))), fun h => (hS.r15 (o 15 (by decide) h)).below hb, fun h => (ho 15).2 (Or.inr (hS.c15 (o 16 (by decide) h))), fun h => (hS.r23 (o 23 (by decide) h)).below hb, fun _ => (ho 23).2 (Or.inr dn), fun h => (hS.r30 (o 30 (by decide) h)).below hb, fun h => (ho 30).2 (Or.inr (hS.c30 (o 31 (by decide) h)))⟩
theorem one_25 {W w' : World} {k7 : Nat} {o7 : Option Addr} {l7 : List Nat} {k8 : Nat} {o8 : Option Addr} {l8 : List Nat} {k9 : Nat} {o9 : Option Addr} {l9 : List Nat} {k10 : Nat} {o10 : Option Addr} {l10 : List Nat} {k13 : Nat} {o13 : Option Addr} {l13 : List Nat} {L : Array Bool} {v0 v1 v2 v3 v4 v5 v6 v7 v8 v9 v10 v11 v12 v13 v14 v15 v16 v17 v18 v19 v20 v21 v22 v23 v24 v25 v26 v27 v28 v29 v30 v31 v32 v33 v34 : Value} {g2' g8' g15' g23' g30' : Nat} (hS : OneS W k7 o7 l7 k8 o8 l8 k9 o9 l9 k10 o10 l10 k13 o13 l13 L w' v0 v1 v2 v3 v4 v5 v6 v7 v8 v9 v10 v11 v12 v13 v14 v15 v16 v17 v18 v19 v20 v21 v22 v23 v24 v25 v26 v27 v28 v29 v30 v31 v32 v33 v34 g2' g8' g15' g23' g30') (ho : ∀ k, On (L.setIfInBounds 25 true) k ↔ k = 25 ∨ On L k) {w2 : World} (hb : Below w'.heap.size w' w2) : OneS W k7 o7 l7 k8 o8 l8 k9 o9 l9 k10 o10 l10 k13 o13 l13 (L.setIfInBounds 25 true) w2 v0 v1 v2 v3 v4 v5 v6 v7 v8 v9 v10 v11 v12 v13 v14 v15 v16 v17 v18 v19 v20 v21 v22 v23 v24 (.bool true) v26 v27 v28 v29 v30 v31 v32 v33 v34 g2' g8' g15' g23' g30' := by
  have o : ∀ k, k ≠ 25 → On (L.setIfInBounds 25 true) k → On L k := fun k hk h => ((ho k).1 h).resolve_left hk
  exact ⟨hS.bel.trans (hb.mono hS.bel.size), fun h => hS.d0 (o 0 (by decide) h), fun h => hS.d1 (o 1 (by decide) h), fun h => hS.d2 (o 2 (by decide) h), fun h => hS.d3 (o 3 (by decide) h), fun h => hS.d4 (o 4 (by decide) h), fun h => hS.d5 (o 5 (by decide) h), fun h => hS.d6 (o 6 (by decide) h), fun h => hS.d7 (o 7 (by decide) h), fun h => hS.d8 (o 8 (by decide) h), fun h => hS.d9 (o 9 (by decide) h), fun h => hS.d10 (o 10 (by decide) h), fun h => hS.d11 (o 11 (by decide) h), fun h => hS.d12 (o 12 (by decide) h), fun h => hS.d13 (o 13 (by decide) h), fun h => hS.d14 (o 14 (by decide) h), fun h => hS.d15 (o 15 (by decide) h), fun h => hS.d16 (o 16 (by decide) h), fun h => hS.d17 (o 17 (by decide) h), fun h => hS.d18 (o 18 (by decide) h), fun h => hS.d19 (o 19 (by decide) h), fun h => hS.d20 (o 20 (by decide) h), fun h => hS.d21 (o 21 (by decide) h), fun h => hS.d22 (o 22 (by decide) h), fun h => hS.d23 (o 23 (by decide) h), fun h => hS.d24 (o 24 (by decide) h), fun _ => rfl, fun h => hS.d26 (o 26 (by decide) h), fun h => hS.d27 (o 27 (by decide) h), fun h => hS.d28 (o 28 (by decide) h), fun h => hS.d29 (o 29 (by decide) h), fun h => hS.d30 (o 30 (by decide) h), fun h => hS.d31 (o 31 (by decide) h), fun h => hS.d32 (o 32 (by decide) h), fun h => hS.d33 (o 33 (by decide) h), fun h => hS.d34 (o 34 (by decide) h), fun h => (hS.r2 (o 2 (by decide) h)).below hb, fun h => (ho 2).2 (Or.inr (hS.c2 (o 3 (by decide) h))), fun h => (hS.r8 (o 8 (by decide) h)).below hb, fun h => (ho 8).2 (Or.inr (hS.c8 (o 9 (by decide) h))), fun h => (hS.r15 (o 15 (by decide) h)).below hb, fun h => (ho 15).2 (Or.inr (hS.c15 (o 16 (by decide) h))), fun h => (hS.r23 (o 23 (by decide) h)).below hb, fun h => (ho 23).2 (Or.inr (hS.c23 (o 24 (by decide) h))), fun h => (hS.r30 (o 30 (by decide) h)).below hb, fun h => (ho 30).2 (Or.inr (hS.c30 (o 31 (by decide) h)))⟩
theorem one_26 {W w' : World} {k7 : Nat} {o7 : Option Addr} {l7 : List Nat} {k8 : Nat} {o8 : Option Addr} {l8 : List Nat} {k9 : Nat} {o9 : Option Addr} {l9 : List Nat} {k10 : Nat} {o10 : Option Addr} {l10 : List Nat} {k13 : Nat} {o13 : Option Addr} {l13 : List Nat} {L : Array Bool} {v0 v1 v2 v3 v4 v5 v6 v7 v8 v9 v10 v11 v12 v13 v14 v15 v16 v17 v18 v19 v20 v21 v22 v23 v24 v25 v26 v27 v28 v29 v30 v31 v32 v33 v34 : Value} {g2' g8' g15' g23' g30' : Nat} (hS : OneS W k7 o7 l7 k8 o8 l8 k9 o9 l9 k10 o10 l10 k13 o13 l13 L w' v0 v1 v2 v3 v4 v5 v6 v7 v8 v9 v10 v11 v12 v13 v14 v15 v16 v17 v18 v19 v20 v21 v22 v23 v24 v25 v26 v27 v28 v29 v30 v31 v32 v33 v34 g2' g8' g15' g23' g30') (ho : ∀ k, On (L.setIfInBounds 26 true) k ↔ k = 26 ∨ On L k) : OneS W k7 o7 l7 k8 o8 l8 k9 o9 l9 k10 o10 l10 k13 o13 l13 (L.setIfInBounds 26 true) w' v0 v1 v2 v3 v4 v5 v6 v7 v8 v9 v10 v11 v12 v13 v14 v15 v16 v17 v18 v19 v20 v21 v22 v23 v24 v25 (.bool true) v27 v28 v29 v30 v31 v32 v33 v34 g2' g8' g15' g23' g30' := by
  have o : ∀ k, k ≠ 26 → On (L.setIfInBounds 26 true) k → On L k := fun k hk h => ((ho k).1 h).resolve_left hk
  exact ⟨hS.bel, fun h => hS.d0 (o 0 (by decide) h), fun h => hS.d1 (o 1 (by decide) h), fun h => hS.d2 (o 2 (by decide) h), fun h => hS.d3 (o 3 (by decide) h), fun h => hS.d4 (o 4 (by decide) h), fun h => hS.d5 (o 5 (by decide) h), fun h => hS.d6 (o 6 (by decide) h), fun h => hS.d7 (o 7 (by decide) h), fun h => hS.d8 (o 8 (by decide) h), fun h => hS.d9 (o 9 (by decide) h), fun h => hS.d10 (o 10 (by decide) h), fun h => hS.d11 (o 11 (by decide) h), fun h => hS.d12 (o 12 (by decide) h), fun h => hS.d13 (o 13 (by decide) h), fun h => hS.d14 (o 14 (by decide) h), fun h => hS.d15 (o 15 (by decide) h), fun h => hS.d16 (o 16 (by decide) h), fun h => hS.d17 (o 17 (by decide) h), fun h => hS.d18 (o 18 (by decide) h), fun h => hS.d19 (o 19 (by decide) h), fun h => hS.d20 (o 20 (by decide) h), fun h => hS.d21 (o 21 (by decide) h), fun h => hS.d22 (o 22 (by decide) h), fun h => hS.d23 (o 23 (by decide) h), fun h => hS.d24 (o 24 (by decide) h), fun h => hS.d25 (o 25 (by decide) h), fun _ => rfl, fun h => hS.d27 (o 27 (by decide) h), fun h => hS.d28 (o 28 (by decide) h), fun h => hS.d29 (o 29 (by decide) h), fun h => hS.d30 (o 30 (by decide) h), fun h => hS.d31 (o 31 (by decide) h), fun h => hS.d32 (o 32 (by decide) h), fun h => hS.d33 (o 33 (by decide) h), fun h => hS.d34 (o 34 (by decide) h), fun h => hS.r2 (o 2 (by decide) h), fun h => (ho 2).2 (Or.inr (hS.c2 (o 3 (by decide) h))), fun h => hS.r8 (o 8 (by decide) h), fun h => (ho 8).2 (Or.inr (hS.c8 (o 9 (by decide) h))), fun h => hS.r15 (o 15 (by decide) h), fun h => (ho 15).2 (Or.inr (hS.c15 (o 16 (by decide) h))), fun h => hS.r23 (o 23 (by decide) h), fun h => (ho 23).2 (Or.inr (hS.c23 (o 24 (by decide) h))), fun h => hS.r30 (o 30 (by decide) h), fun h => (ho 30).2 (Or.inr (hS.c30 (o 31 (by decide) h)))⟩
theorem one_27 {W w' : World} {k7 : Nat} {o7 : Option Addr} {l7 : List Nat} {k8 : Nat} {o8 : Option Addr} {l8 : List Nat} {k9 : Nat} {o9 : Option Addr} {l9 : List Nat} {k10 : Nat} {o10 : Option Addr} {l10 : List Nat} {k13 : Nat} {o13 : Option Addr} {l13 : List Nat} {L : Array Bool} {v0 v1 v2 v3 v4 v5 v6 v7 v8 v9 v10 v11 v12 v13 v14 v15 v16 v17 v18 v19 v20 v21 v22 v23 v24 v25 v26 v27 v28 v29 v30 v31 v32 v33 v34 : Value} {g2' g8' g15' g23' g30' : Nat} (hS : OneS W k7 o7 l7 k8 o8 l8 k9 o9 l9 k10 o10 l10 k13 o13 l13 L w' v0 v1 v2 v3 v4 v5 v6 v7 v8 v9 v10 v11 v12 v13 v14 v15 v16 v17 v18 v19 v20 v21 v22 v23 v24 v25 v26 v27 v28 v29 v30 v31 v32 v33 v34 g2' g8' g15' g23' g30') (ho : ∀ k, On (L.setIfInBounds 27 true) k ↔ k = 27 ∨ On L k) : OneS W k7 o7 l7 k8 o8 l8 k9 o9 l9 k10 o10 l10 k13 o13 l13 (L.setIfInBounds 27 true) w' v0 v1 v2 v3 v4 v5 v6 v7 v8 v9 v10 v11 v12 v13 v14 v15 v16 v17 v18 v19 v20 v21 v22 v23 v24 v25 v26 (.bool true) v28 v29 v30 v31 v32 v33 v34 g2' g8' g15' g23' g30' := by
  have o : ∀ k, k ≠ 27 → On (L.setIfInBounds 27 true) k → On L k := fun k hk h => ((ho k).1 h).resolve_left hk
  exact ⟨hS.bel, fun h => hS.d0 (o 0 (by decide) h), fun h => hS.d1 (o 1 (by decide) h), fun h => hS.d2 (o 2 (by decide) h), fun h => hS.d3 (o 3 (by decide) h), fun h => hS.d4 (o 4 (by decide) h), fun h => hS.d5 (o 5 (by decide) h), fun h => hS.d6 (o 6 (by decide) h), fun h => hS.d7 (o 7 (by decide) h), fun h => hS.d8 (o 8 (by decide) h), fun h => hS.d9 (o 9 (by decide) h), fun h => hS.d10 (o 10 (by decide) h), fun h => hS.d11 (o 11 (by decide) h), fun h => hS.d12 (o 12 (by decide) h), fun h => hS.d13 (o 13 (by decide) h), fun h => hS.d14 (o 14 (by decide) h), fun h => hS.d15 (o 15 (by decide) h), fun h => hS.d16 (o 16 (by decide) h), fun h => hS.d17 (o 17 (by decide) h), fun h => hS.d18 (o 18 (by decide) h), fun h => hS.d19 (o 19 (by decide) h), fun h => hS.d20 (o 20 (by decide) h), fun h => hS.d21 (o 21 (by decide) h), fun h => hS.d22 (o 22 (by decide) h), fun h => hS.d23 (o 23 (by decide) h), fun h => hS.d24 (o 24 (by decide) h), fun h => hS.d25 (o 25 (by decide) h), fun h => hS.d26 (o 26 (by decide) h), fun _ => rfl, fun h => hS.d28 (o 28 (by decide) h), fun h => hS.d29 (o 29 (by decide) h), fun h => hS.d30 (o 30 (by decide) h), fun h => hS.d31 (o 31 (by decide) h), fun h => hS.d32 (o 32 (by decide) h), fun h => hS.d33 (o 33 (by decide) h), fun h => hS.d34 (o 34 (by decide) h), fun h => hS.r2 (o 2 (by decide) h), fun h => (ho 2).2 (Or.inr (hS.c2 (o 3 (by decide) h))), fun h => hS.r8 (o 8 (by decide) h), fun h => (ho 8).2 (Or.inr (hS.c8 (o 9 (by decide) h))), fun h => hS.r15 (o 15 (by decide) h), fun h => (ho 15).2 (Or.inr (hS.c15 (o 16 (by decide) h))), fun h => hS.r23 (o 23 (by decide) h), fun h => (ho 23).2 (Or.inr (hS.c23 (o 24 (by decide) h))), fun h => hS.r30 (o 30 (by decide) h), fun h => (ho 30).2 (Or.inr (hS.c30 (o 31 (by decide) h)))⟩
theorem one_28 {W w' : World} {k7 : Nat} {o7 : Option Addr} {l7 : List Nat} {k8 : Nat} {o8 : Option Addr} {l8 : List Nat} {k9 : Nat} {o9 : Option Addr} {l9 : List Nat} {k10 : Nat} {o10 : Option Addr} {l10 : List Nat} {k13 : Nat} {o13 : Option Addr} {l13 : List Nat} {L : Array Bool} {v0 v1 v2 v3 v4 v5 v6 v7 v8 v9 v10 v11 v12 v13 v14 v15 v16 v17 v18 v19 v20 v21 v22 v23 v24 v25 v26 v27 v28 v29 v30 v31 v32 v33 v34 : Value} {g2' g8' g15' g23' g30' : Nat} (hS : OneS W k7 o7 l7 k8 o8 l8 k9 o9 l9 k10 o10 l10 k13 o13 l13 L w' v0 v1 v2 v3 v4 v5 v6 v7 v8 v9 v10 v11 v12 v13 v14 v15 v16 v17 v18 v19 v20 v21 v22 v23 v24 v25 v26 v27 v28 v29 v30 v31 v32 v33 v34 g2' g8' g15' g23' g30') (ho : ∀ k, On (L.setIfInBounds 28 true) k ↔ k = 28 ∨ On L k) : OneS W k7 o7 l7 k8 o8 l8 k9 o9 l9 k10 o10 l10 k13 o13 l13 (L.setIfInBounds 28 true) w' v0 v1 v2 v3 v4 v5 v6 v7 v8 v9 v10 v11 v12 v13 v14 v15 v16 v17 v18 v19 v20 v21 v22 v23 v24 v25 v26 v27 (mxV 2 3 o13 l13.length k13) v29 v30 v31 v32 v33 v34 g2' g8' g15' g23' g30' := by
  have o : ∀ k, k ≠ 28 → On (L.setIfInBounds 28 true) k → On L k := fun k hk h => ((ho k).1 h).resolve_left hk
  exact ⟨hS.bel, fun h => hS.d0 (o 0 (by decide) h), fun h => hS.d1 (o 1 (by decide) h), fun h => hS.d2 (o 2 (by decide) h), fun h => hS.d3 (o 3 (by decide) h), fun h => hS.d4 (o 4 (by decide) h), fun h => hS.d5 (o 5 (by decide) h), fun h => hS.d6 (o 6 (by decide) h), fun h => hS.d7 (o 7 (by decide) h), fun h => hS.d8 (o 8 (by decide) h), fun h => hS.d9 (o 9 (by decide) h), fun h => hS.d10 (o 10 (by decide) h), fun h => hS.d11 (o 11 (by decide) h), fun h => hS.d12 (o 12 (by decide) h), fun h => hS.d13 (o 13 (by decide) h), fun h => hS.d14 (o 14 (by decide) h), fun h => hS.d15 (o 15 (by decide) h), fun h => hS.d16 (o 16 (by decide) h), fun h => hS.d17 (o 17 (by decide) h), fun h => hS.d18 (o 18 (by decide) h), fun h => hS.d19 (o 19 (by decide) h), fun h => hS.d20 (o 20 (by decide) h), fun h => hS.d21 (o 21 (by decide) h), fun h => hS.d22 (o 22 (by decide) h), fun h => hS.d23 (o 23 (by decide) h), fun h => hS.d24 (o 24 (by decide) h), fun h => hS.d25 (o 25 (by decide) h), fun h => hS.d26 (o 26 (by decide) h), fun h => hS.d27 (o 27 (by decide) h), fun _ => rfl, fun h => hS.d29 (o 29 (by decide) h), fun h => hS.d30 (o 30 (by decide) h), fun h => hS.d31 (o 31 (by decide) h), fun h => hS.d32 (o 32 (by decide) h), fun h => hS.d33 (o 33 (by decide) h), fun h => hS.d34 (o 34 (by decide) h), fun h => hS.r2 (o 2 (by decide) h), fun h => (ho 2).2 (Or.inr (hS.c2 (o 3 (by decide) h))), fun h => hS.r8 (o 8 (by decide) h), fun h => (ho 8).2 (Or.inr (hS.c8 (o 9 (by decide) h))), fun h => hS.r15 (o 15 (by decide) h), fun h => (ho 15).2 (Or.inr (hS.c15 (o 16 (by decide) h))), fun h => hS.r23 (o 23 (by decide) h), fun h => (ho 23).2 (Or.inr (hS.c23 (o 24 (by decide) h))), fun h => hS.r30 (o 30 (by decide) h), fun h => (ho 30).2 (Or.inr (hS.c30 (o 31 (by decide) h)))⟩
theorem one_29 {W w' : World} {k7 : Nat} {o7 : Option Addr} {l7 : List Nat} {k8 : Nat} {o8 : Option Addr} {l8 : List Nat} {k9 : Nat} {o9 : Option Addr} {l9 : List Nat} {k10 : Nat} {o10 : Option Addr} {l10 : List Nat} {k13 : Nat} {o13 : Option Addr} {l13 : List Nat} {L : Array Bool} {v0 v1 v2 v3 v4 v5 v6 v7 v8 v9 v10 v11 v12 v13 v14 v15 v16 v17 v18 v19 v20 v21 v22 v23 v24 v25 v26 v27 v28 v29 v30 v31 v32 v33 v34 : Value} {g2' g8' g15' g23' g30' : Nat} (hS : OneS W k7 o7 l7 k8 o8 l8 k9 o9 l9 k10 o10 l10 k13 o13 l13 L w' v0 v1 v2 v3 v4 v5 v6 v7 v8 v9 v10 v11 v12 v13 v14 v15 v16 v17 v18 v19 v20 v21 v22 v23 v24 v25 v26 v27 v28 v29 v30 v31 v32 v33 v34 g2' g8' g15' g23' g30') (ho : ∀ k, On (L.setIfInBounds 29 true) k ↔ k = 29 ∨ On L k) : OneS W k7 o7 l7 k8 o8 l8 k9 o9 l9 k10 o10 l10 k13 o13 l13 (L.setIfInBounds 29 true) w' v0 v1 v2 v3 v4 v5 v6 v7 v8 v9 v10 v11 v12 v13 v14 v15 v16 v17 v18 v19 v20 v21 v22 v23 v24 v25 v26 v27 v28 (.int .i64 0) v30 v31 v32 v33 v34 g2' g8' g15' g23' g30' := by
  have o : ∀ k, k ≠ 29 → On (L.setIfInBounds 29 true) k → On L k := fun k hk h => ((ho k).1 h).resolve_left hk
  exact ⟨hS.bel, fun h => hS.d0 (o 0 (by decide) h), fun h => hS.d1 (o 1 (by decide) h), fun h => hS.d2 (o 2 (by decide) h), fun h => hS.d3 (o 3 (by decide) h), fun h => hS.d4 (o 4 (by decide) h), fun h => hS.d5 (o 5 (by decide) h), fun h => hS.d6 (o 6 (by decide) h), fun h => hS.d7 (o 7 (by decide) h), fun h => hS.d8 (o 8 (by decide) h), fun h => hS.d9 (o 9 (by decide) h), fun h => hS.d10 (o 10 (by decide) h), fun h => hS.d11 (o 11 (by decide) h), fun h => hS.d12 (o 12 (by decide) h), fun h => hS.d13 (o 13 (by decide) h), fun h => hS.d14 (o 14 (by decide) h), fun h => hS.d15 (o 15 (by decide) h), fun h => hS.d16 (o 16 (by decide) h), fun h => hS.d17 (o 17 (by decide) h), fun h => hS.d18 (o 18 (by decide) h), fun h => hS.d19 (o 19 (by decide) h), fun h => hS.d20 (o 20 (by decide) h), fun h => hS.d21 (o 21 (by decide) h), fun h => hS.d22 (o 22 (by decide) h), fun h => hS.d23 (o 23 (by decide) h), fun h => hS.d24 (o 24 (by decide) h), fun h => hS.d25 (o 25 (by decide) h), fun h => hS.d26 (o 26 (by decide) h), fun h => hS.d27 (o 27 (by decide) h), fun h => hS.d28 (o 28 (by decide) h), fun _ => rfl, fun h => hS.d30 (o 30 (by decide) h), fun h => hS.d31 (o 31 (by decide) h), fun h => hS.d32 (o 32 (by decide) h), fun h => hS.d33 (o 33 (by decide) h), fun h => hS.d34 (o 34 (by decide) h), fun h => hS.r2 (o 2 (by decide) h), fun h => (ho 2).2 (Or.inr (hS.c2 (o 3 (by decide) h))), fun h => hS.r8 (o 8 (by decide) h), fun h => (ho 8).2 (Or.inr (hS.c8 (o 9 (by decide) h))), fun h => hS.r15 (o 15 (by decide) h), fun h => (ho 15).2 (Or.inr (hS.c15 (o 16 (by decide) h))), fun h => hS.r23 (o 23 (by decide) h), fun h => (ho 23).2 (Or.inr (hS.c23 (o 24 (by decide) h))), fun h => hS.r30 (o 30 (by decide) h), fun h => (ho 30).2 (Or.inr (hS.c30 (o 31 (by decide) h)))⟩
theorem one_30 {W w' : World} {k7 : Nat} {o7 : Option Addr} {l7 : List Nat} {k8 : Nat} {o8 : Option Addr} {l8 : List Nat} {k9 : Nat} {o9 : Option Addr} {l9 : List Nat} {k10 : Nat} {o10 : Option Addr} {l10 : List Nat} {k13 : Nat} {o13 : Option Addr} {l13 : List Nat} {L : Array Bool} {v0 v1 v2 v3 v4 v5 v6 v7 v8 v9 v10 v11 v12 v13 v14 v15 v16 v17 v18 v19 v20 v21 v22 v23 v24 v25 v26 v27 v28 v29 v30 v31 v32 v33 v34 : Value} {g2' g8' g15' g23' g30' : Nat} (hS : OneS W k7 o7 l7 k8 o8 l8 k9 o9 l9 k10 o10 l10 k13 o13 l13 L w' v0 v1 v2 v3 v4 v5 v6 v7 v8 v9 v10 v11 v12 v13 v14 v15 v16 v17 v18 v19 v20 v21 v22 v23 v24 v25 v26 v27 v28 v29 v30 v31 v32 v33 v34 g2' g8' g15' g23' g30') (ho : ∀ k, On (L.setIfInBounds 30 true) k ↔ k = 30 ∨ On L k) {w2 : World} (hb : Below w'.heap.size w' w2) {G : Nat} (hr : GRow w2 (some ⟨G, 0, none⟩) [0, 0, 0, 0, 0, 0]) (hno : ¬ On L 30) : OneS W k7 o7 l7 k8 o8 l8 k9 o9 l9 k10 o10 l10 k13 o13 l13 (L.setIfInBounds 30 true) w2 v0 v1 v2 v3 v4 v5 v6 v7 v8 v9 v10 v11 v12 v13 v14 v15 v16 v17 v18 v19 v20 v21 v22 v23 v24 v25 v26 v27 v28 v29 (.slice (some ⟨G, 0, none⟩) 6 6) v31 v32 v33 v34 g2' g8' g15' g23' G := by
  have o : ∀ k, k ≠ 30 → On (L.setIfInBounds 30 true) k → On L k := fun k hk h => ((ho k).1 h).resolve_left hk
  exact ⟨hS.bel.trans (hb.mono hS.bel.size), fun h => hS.d0 (o 0 (by decide) h), fun h => hS.d1 (o 1 (by decide) h), fun h => hS.d2 (o 2 (by decide) h), fun h => hS.d3 (o 3 (by decide) h), fun h => hS.d4 (o 4 (by decide) h), fun h => hS.d5 (o 5 (by decide) h), fun h => hS.d6 (o 6 (by decide) h), fun h => hS.d7 (o 7 (by decide) h), fun h => hS.d8 (o 8 (by decide) h), fun h => hS.d9 (o 9 (by decide) h), fun h => hS.d10 (o 10 (by decide) h), fun h => hS.d11 (o 11 (by decide) h), fun h => hS.d12 (o 12 (by decide) h), fun h => hS.d13 (o 13 (by decide) h), fun h => hS.d14 (o 14 (by decide) h), fun h => hS.d15 (o 15 (by decide) h), fun h => hS.d16 (o 16 (by decide) h), fun h => hS.d17 (o 17 (by decide) h), fun h => hS.d18 (o 18 (by decide) h), fun h => hS.d19 (o 19 (by decide) h), fun h => hS.d20 (o 20 (by decide) h), fun h => hS.d21 (o 21 (by decide) h), fun h => hS.d22 (o 22 (by decide) h), fun h => hS.d23 (o 23 (by decide) h), fun h => hS.d24 (o 24 (by decide) h), fun h => hS.d25 (o 25 (by decide) h), fun h => hS.d26 (o 26 (by decide) h), fun h => hS.d27 (o 27 (by decide) h), fun h => hS.d28 (o 28 (by decide) h), fun h => hS.d29 (o 29 (by decide) h), fun _ => rfl, fun h => absurd (hS.c30 (o 31 (by decide) h)) hno, fun h => hS.d32 (o 32 (by decide) h), fun h => hS.d33 (o 33 (by decide) h), fun h => hS.d34 (o 34 (by decide) h), fun h => (hS.r2 (o 2 (by decide) h)).below hb, fun h => (ho 2).2 (Or.inr (hS.c2 (o 3 (by decide) h))), fun h => (hS.r8 (o 8 (by decide) h)).below hb, fun h => (ho 8).2 (Or.inr (hS.c8 (o 9 (by decide) h))), fun h => (hS.r15 (o 15 (by decide) h)).below hb, fun h => (ho 15).2 (Or.inr (hS.c15 (o 16 (by decide) h))), fun h => (hS.r23 (o 23 (by decide) h)).below hb, fun h => (ho 23).2 (Or.inr (hS.c23 (o 24 (by decide) h))), fun _ => hr, fun h => absurd (hS.c30 (o 31 (by decide) h)) hno⟩
theorem one_31 {W w' : World} {k7 : Nat} {o7 : Option Addr} {l7 : List Nat} {k8 : Nat} {o8 : Option Addr} {l8 : List Nat} {k9 : Nat} {o9 : Option Addr} {l9 : List Nat} {k10 : Nat} {o10 : Option Addr} {l10 : List Nat} {k13 : Nat} {o13 : Option Addr} {l13 : List Nat} {L : Array Bool} {v0 v1 v2 v3 v4 v5 v6 v7 v8 v9 v10 v11 v12 v13 v14 v15 v16 v17 v18 v19 v20 v21 v22 v23 v24 v25 v26 v27 v28 v29 v30 v31 v32 v33 v34 : Value} {g2' g8' g15' g23' g30' : Nat} (hS : OneS W k7 o7 l7 k8 o8 l8 k9 o9 l9 k10 o10 l10 k13 o13 l13 L w' v0 v1 v2 v3 v4 v5 v6 v7 v8 v9 v10 v11 v12 v13 v14 v15 v16 v17 v18 v19 v20 v21 v22 v23 v24 v25 v26 v27 v28 v29 v30 v31 v32 v33 v34 g2' g8' g15' g23' g30') (ho : ∀ k, On (L.setIfInBounds 31 true) k ↔ k = 31 ∨ On L k) {w2 : World} (hb : Below w'.heap.size w' w2) (dn : On L 30) : OneS W k7 o7 l7 k8 o8 l8 k9 o9 l9 k10 o10 l10 k13 o13 l13 (L.setIfInBounds 31 true) w2 v0 v1 v2 v3 v4 v5 v6 v7 v8 v9 v10 v11 v12 v13 v14 v15 v16 v17 v18 v19 v20 v21 v22 v23 v24 v25 v26 v27 v28 v29 v30 (mxV 2 3 (some ⟨g30', 0, none⟩) 6 6) v32 v33 v34 g2' g8' g15' g23' g30' := by
  have o : ∀ k, k ≠ 31 → On (L.setIfInBounds 31 true) k → On L k := fun k hk h => ((ho k).1 h).resolve_left hk
  exact ⟨hS.bel.trans (hb.mono hS.bel.size), fun h => hS.d0 (o 0 (by decide) h), fun h => hS.d1 (o 1 (by decide) h), fun h => hS.d2 (o 2 (by decide) h), fun h => hS.d3 (o 3 (by decide) h), fun h => hS.d4 (o 4 (by decide) h), fun h => hS.d5 (o 5 (by decide) h), fun h => hS.d6 (o 6 (by decide) h), fun h => hS.d7 (o 7 (by decide) h), fun h => hS.d8 (o 8 (by decide) h), fun h => hS.d9 (o 9 (by decide) h), fun h => hS.d10 (o 10 (by decide) h), fun h => hS.d11 (o 11 (by decide) h), fun h => hS.d12 (o 12 (by decide) h), fun h => hS.d13 (o 13 (by decide) h), fun h => hS.d14 (o 14 (by decide) h), fun h => hS.d15 (o 15 (by decide) h), fun h => hS.d16 (o 16 (by decide) h), fun h => hS.d17 (o 17 (by decide) h), fun h => hS.d18 (o 18 (by decide) h), fun h => hS.d19 (o 19 (by decide) h), fun h => hS.d20 (o 20 (by decide) h), fun h => hS.d21 (o 21 (by decide) h), fun h => hS.d22 (o 22 (by decide) h), fun h => hS.d23 (o 23 (by decide) h), fun h => hS.d24 (o 24 (by decide) h), fun h => hS.d25 (o 25 (by decide) h), fun h => hS.d26 (o 26 (by decide) h), fun h => hS.d27 (o 27 (by decide) h), fun h => hS.d28 (o 28 (by decide) h), fun h => hS.d29 (o 29 (by decide) h), fun h => hS.d30 (o 30 (by decide) h), fun _ => rfl, fun h => hS.d32 (o 32 (by decide) h), fun h => hS.d33 (o 33 (by decide) h), fun h => hS.d34 (o 34 (by decide) h), fun h => (hS.r2 (o 2 (by decide) h)).below hb, fun h => (ho 2).2 (Or.inr (hS.c2 (o 3 (by decide) h))), fun h => (hS.r8 (o 8 (by decide) h)).below hb, fun h => (ho 8).2 (Or.inr (hS.c8 (o 9 (by decide) h))), fun h => (hS.r15 (o 15 (by decide) h)).below hb, fun h => (ho 15).2 (Or.inr (hS.c15 (o 16 (by decide) h))), fun h => (hS.r23 (o 23 (by decide) h)).below hb, fun h => (ho 23).2 (Or.inr (hS.c23 (o 24 (by decide) h))), fun h => (hS.r30 (o 30 (by decide) h)).below hb, fun _ => (ho 30).2 (Or.inr dn)⟩
theorem one_32 {W w' : World} {k7 : Nat} {o7 : Option Addr} {l7 : List Nat} {k8 : Nat} {o8 : Option Addr} {l8 : List Nat} {k9 : Nat} {o9 : Option Addr} {l9 : List Nat} {k10 : Nat} {o10 : Option Addr} {l10 : List Nat} {k13 : Nat} {o13 : Option Addr} {l13 : List Nat} {L : Array Bool} {v0 v1 v2 v3 v4 v5 v6 v7 v8 v9 v10 v11 v12 v13 v14 v15 v16 v17 v18 v19 v20 v21 v22 v23 v24 v25 v26 v27 v28 v29 v30 v31 v32 v33 v34 : Value} {g2' g8' g15' g23' g30' : Nat} (hS : OneS W k7 o7 l7 k8 o8 l8 k9 o9 l9 k10 o10 l10 k13 o13 l13 L w' v0 v1 v2 v3 v4 v5 v6 v7 v8 v9 v10 v11 v12 v13 v14 v15 v16 v17 v18 v19 v20 v21 v22 v23 v24 v25 v26 v27 v28 v29 v30 v31 v32 v33 v34 g2' g8' g15' g23' g30') (ho : ∀ k, On (L.setIfInBounds 32 true) k ↔ k = 32 ∨ On L k) {w2 : World} (hb : Below w'.heap.size w' w2) : OneS W k7 o7 l7 k8 o8 l8 k9 o9 l9 k10 o10 l10 k13 o13 l13 (L.setIfInBounds 32 true) w2 v0 v1 v2 v3 v4 v5 v6 v7 v8 v9 v10 v11 v12 v13 v14 v15 v16 v17 v18 v19 v20 v21 v22 v23 v24 v25 v26 v27 v28 v29 v30 v31 (.bool true) v33 v34 g2' g8' g15' g23' g30' := by
  have o : ∀ k, k ≠ 32 → On (L.setIfInBounds 32 true) k → On L k := fun k hk h => ((ho k).1 h).resolve_left hk
  exact ⟨hS.bel.trans (hb.mono hS.bel.size), fun h => hS.d0 (o 0 (by decide) h), fun h => hS.d1 (o 1 (by decide) h), fun h => hS.d2 (o 2 (by decide) h), fun h => hS.d3 (o 3 (by decide) h), fun h => hS.d4 (o 4 (by decide) h), fun h => hS.d5 (o 5 (by decide) h), fun h => hS.d6 (o 6 (by decide) h), fun h => hS.d7 (o 7 (by decide) h), fun h => hS.d8 (o 8 (by decide) h), fun h => hS.d9 (o 9 (by decide) h), fun h => hS.d10 (o 10 (by decide) h), fun h => hS.d11 (o 11 (by decide) h), fun h => hS.d12 (o 12 (by decide) h), fun h => hS.d13 (o 13 (by decide) h), fun h => hS.d14 (o 14 (by decide) h), fun h => hS.d15 (o 15 (by decide) h), fun h => hS.d16 (o 16 (by decide) h), fun h => hS.d17 (o 17 (by decide) h), fun h => hS.d18 (o 18 (by decide) h), fun h => hS.d19 (o 19 (by decide) h), fun h => hS.d20 (o 20 (by decide) h), fun h => hS.d21 (o 21 (by decide) h), fun h => hS.d22 (o 22 (by decide) h), fun h => hS.d23 (o 23 (by decide) h), fun h => hS.d24 (o 24 (by decide) h), fun h => hS.d25 (o 25 (by decide) h), fun h => hS.d26 (o 26 (by decide) h), fun h => hS.d27 (o 27 (by decide) h), fun h => hS.d28 (o 28 (by decide) h), fun h => hS.d29 (o 29 (by decide) h), fun h => hS.d30 (o 30 (by decide) h), fun h => hS.d31 (o 31 (by decide) h), fun _ => rfl, fun h => hS.d33 (o 33 (by decide) h), fun h => hS.d34 (o 34 (by decide) h), fun h => (hS.r2 (o 2 (by decide) h)).below hb, fun h => (ho 2).2 (Or.inr (hS.c2 (o 3 (by decide) h))), fun h => (hS.r8 (o 8 (by decide) h)).below hb, fun h => (ho 8).2 (Or.inr (hS.c8 (o 9 (by decide) h))), fun h => (hS.r15 (o 15 (by decide) h)).below hb, fun h => (ho 15).2 (Or.inr (hS.c15 (o 16 (by decide) h))), fun h => (hS.r23 (o 23 (by decide) h)).below hb, fun h => (ho 23).2 (Or.inr (hS.c23 (o 24 (by decide) h))), fun h => (hS.r30 (o 30 (by decide) h)).below hb, fun h => (ho 30).2 (Or.inr (hS.c30 (o 31 (by decide) h)))⟩
theorem one_33 {W w' : World} {k7 : Nat} {o7 : Option Addr} {l7 : List Nat} {k8 : Nat} {o8 : Option Addr} {l8 : List Nat} {k9 : Nat} {o9 : Option Addr} {l9 : List Nat} {k10 : Nat} {o10 : Option Addr} {l10 : List Nat} {k13 : Nat} {o13 : Option Addr} {l13 : List Nat} {L : Array Bool} {v0 v1 v2 v3 v4 v5 v6 v7 v8 v9 v10 v11 v12 v13 v14 v15 v16 v17 v18 v19 v20 v21 v22 v23 v24 v25 v26 v27 v28 v29 v30 v31 v32 v33 v34 : Value} {g2' g8' g15' g23' g30' : Nat} (hS : OneS W k7 o7 l7 k8 o8 l8 k9 o9 l9 k10 o10 l10 k13 o13 l13 L w' v0 v1 v2 v3 v4 v5 v6 v7 v8 v9 v10 v11 v12 v13 v14 v15 v16 v17 v18 v19 v20 v21 v22 v23 v24 v25 v26 v27 v28 v29 v30 v31 v32 v33 v34 g2' g8' g15' g23' g30') (ho : ∀ k, On (L.setIfInBounds 33 true) k ↔ k = 33 ∨ On L k) : OneS W k7 o7 l7 k8 o8 l8 k9 o9 l9 k10 o10 l10 k13 o13 l13 (L.setIfInBounds 33 true) w' v0 v1 v2 v3 v4 v5 v6 v7 v8 v9 v10 v11 v12 v13 v14 v15 v16 v17 v18 v19 v20 v21 v22 v23 v24 v25 v26 v27 v28 v29 v30 v31 v32 (.bool true) v34 g2' g8' g15' g23' g30' := by
  have o : ∀ k, k ≠ 33 → On (L.setIfInBounds 33 true) k → On L k := fun k hk h => ((ho k).1 h).resolve_left hk
  exact ⟨hS.bel, fun h => hS.d0 (o 0 (by decide) h), fun h => hS.d1 (o 1 (by decide) h), fun h => hS.d2 (o 2 (by decide) h), fun h => hS.d3 (o 3 (by decide) h), fun h => hS.d4 (o 4 (by decide) h), fun h => hS.d5 (o 5 (by decide) h), fun h => hS.d6 (o 6 (by decide) h), fun h => hS.d7 (o 7 (by decide) h), fun h => hS.d8 (o 8 (by decide) h), fun h => hS.d9 (o 9 (by decide) h), fun h => hS.d10 (o 10 (by decide) h), fun h => hS.d11 (o 11 (by decide) h), fun h => hS.d12 (o 12 (by decide) h), fun h => hS.d13 (o 13 (by decide) h), fun h => hS.d14 (o 14 (by decide) h), fun h => hS.d15 (o 15 (by decide) h), fun h => hS.d16 (o 16 (by decide) h), fun h => hS.d17 (o 17 (by decide) h), fun h => hS.d18 (o 18 (by decide) h), fun h => hS.d19 (o 19 (by decide) h), fun h => hS.d20 (o 20 (by decide) h), fun h => hS.d21 (o 21 (by decide) h), fun h => hS.d22 (o 22 (by decide) h), fun h => hS.d23 (o 23 (by decide) h), fun h => hS.d24 (o 24 (by decide) h), fun h => hS.d25 (o 25 (by decide) h), fun h => hS.d26 (o 26 (by decide) h), fun h => hS.d27 (o 27 (by decide) h), fun h => hS.d28 (o 28 (by decide) h), fun h => hS.d29 (o 29 (by decide) h), fun h => hS.d30 (o 30 (by decide) h), fun h => hS.d31 (o 31 (by decide) h), fun h => hS.d32 (o 32 (by decide) h), fun _ => rfl, fun h => hS.d34 (o 34 (by decide) h), fun h => hS.r2 (o 2 (by decide) h), fun h => (ho 2).2 (Or.inr (hS.c2 (o 3 (by decide) h))), fun h => hS.r8 (o 8 (by decide) h), fun h => (ho 8).2 (Or.inr (hS.c8 (o 9 (by decide) h))), fun h => hS.r15 (o 15 (by decide) h), fun h => (ho 15).2 (Or.inr (hS.c15 (o 16 (by decide) h))), fun h => hS.r23 (o 23 (by decide) h), fun h => (ho 23).2 (Or.inr (hS.c23 (o 24 (by decide) h))), fun h => hS.r30 (o 30 (by decide) h), fun h => (ho 30).2 (Or.inr (hS.c30 (o 31 (by decide) h)))⟩
theorem one_34 {W w' : World} {k7 : Nat} {o7 : Option Addr} {l7 : List Nat} {k8 : Nat} {o8 : Option Addr} {l8 : List Nat} {k9 : Nat} {o9 : Option Addr} {l9 : List Nat} {k10 : Nat} {o10 : Option Addr} {l10 : List Nat} {k13 : Nat} {o13 : Option Addr} {l13 : List Nat} {L : Array Bool} {v0 v1 v2 v3 v4 v5 v6 v7 v8 v9 v10 v11 v12 v13 v14 v15 v16 v17 v18 v19 v20 v21 v22 v23 v24 v25 v26 v27 v28 v29 v30 v31 v32 v33 v34 : Value} {g2' g8' g15' g23' g30' : Nat} (hS : OneS W k7 o7 l7 k8 o8 l8 k9 o9 l9 k10 o10 l10 k13 o13 l13 L w' v0 v1 v2 v3 v4 v5 v6 v7 v8 v9 v10 v11 v12 v13 v14 v15 v16 v17 v18 v19 v20 v21 v22 v23 v24 v25 v26 v27 v28 v29 v30 v31 v32 v33 v34 g2' g8' g15' g23' g30') (ho : ∀ k, On (L.setIfInBounds 34 true) k ↔ k = 34 ∨ On L k) : OneS W k7 o7 l7 k8 o8 l8 k9 o9 l9 k10 o10 l10 k13 o13 l13 (L.setIfInBounds 34 true) w' v0 v1 v2 v3 v4 v5 v6 v7 v8 v9 v10 v11 v12 v13 v14 v15 v16 v17 v18 v19 v20 v21 v22 v23 v24 v25 v26 v27 v28 v29 v30 v31 v32 v33 (.bool true) g2' g8' g15' g23' g30' := by
  have o : ∀ k, k ≠ 34 → On (L.setIfInBounds 34 true) k → On L k := fun k hk h => ((ho k).1 h).resolve_left hk
  exact ⟨hS.bel, fun h => hS.d0 (o 0 (by decide) h), fun h => hS.d1 (o 1 (by decide) h), fun h => hS.d2 (o 2 (by decide) h), fun h => hS.d3 (o 3 (by decide) h), fun h => hS.d4 (o 4 (by decide) h), fun h => hS.d5 (o 5 (by decide) h), fun h => hS.d6 (o 6 (by decide) h), fun h => hS.d7 (o 7 (by decide) h), fun h => hS.d8 (o 8 (by decide) h), fun h => hS.d9 (o 9 (by decide) h), fun h => hS.d10 (o 10 (by decide) h), fun h => hS.d11 (o 11 (by decide) h), fun h => hS.d12 (o 12 (by decide) h), fun h => hS.d13 (o 13 (by decide) h), fun h => hS.d14 (o 14 (by decide) h), fun h => hS.d15 (o 15 (by decide) h), fun h => hS.d16 (o 16 (by decide) h), fun h => hS.d17 (o 17 (by decide) h), fun h => hS.d18 (o 18 (by decide) h), fun h => hS.d19 (o 19 (by decide) h), fun h => hS.d20 (o 20 (by decide) h), fun h => hS.d21 (o 21 (by decide) h), fun h => hS.d22 (o 22 (by decide) h), fun h => hS.d23 (o 23 (by decide) h), fun h => hS.d24 (o 24 (by decide) h), fun h => hS.d25 (o 25 (by decide) h), fun h => hS.d26 (o 26 (by decide) h), fun h => hS.d27 (o 27 (by decide) h), fun h => hS.d28 (o 28 (by decide) h), fun h => hS.d29 (o 29 (by decide) h), fun h => hS.d30 (o 30 (by decide) h), fun h => hS.d31 (o 31 (by decide) h), fun h => hS.d32 (o 32 (by decide) h), fun h => hS.d33 (o 33 (by decide) h), fun _ => rfl, fun h => hS.r2 (o 2 (by decide) h), fun h => (ho 2).2 (Or.inr (hS.c2 (o 3 (by decide) h))), fun h => hS.r8 (o 8 (by decide) h), fun h => (ho 8).2 (Or.inr (hS.c8 (o 9 (by decide) h))), fun h => hS.r15 (o 15 (by decide) h), fun h => (ho 15).2 (Or.inr (hS.c15 (o 16 (by decide) h))), fun h => hS.r23 (o 23 (by decide) h), fun h => (ho 23).2 (Or.inr (hS.c23 (o 24 (by decide) h))), fun h => hS.r30 (o 30 (by decide) h), fun h => (ho 30).2 (Or.inr (hS.c30 (o 31 (by decide) h)))⟩
set_option maxRecDepth 100000 in
set_option maxHeartbeats 8000000 in
theorem numbers_law (w : World) : Calls Try.prog 3 #[] w fun e w' => e = .returned (.bool true) ∧ Below w.heap.size w w' := by
  have HB : Below w.heap.size w w := Below.refl _ _
  have cA := fun W => mmake_any 48 48 W
  have cB := fun W => mmake_any 49 1 W
  have cC := fun W => mmake_any 1 (-1) W
  have cD := fun W => mident_any 49 W
  have cI := fun W => mmake_any 2 0 W
  obtain ⟨os0, e0, l0⟩ := nm_mk0
  rw [e0] at cA
  rw [nm_mk1] at cB
  rw [nm_mk2] at cC
  rw [nm_id] at cD
  rw [nm_mk3] at cI
  clear e0
  go_enter Try.func3, Try.ntmps3
  go_upto_region 2 with (go_at_call 9; refine (cA _).mono ?_; rintro e z1 ⟨_, rfl, o1, k1, l1, rfl, hz⟩; have hv : GvL _ os0 o1 k1 l1 z1 := hz; clear hz)
  have X1 := hv.2.2.2.2.alloc hv.2.2.2.2.size (.cells #[.int .i64 48, .int .i64 48, .slice o1 l1.length k1] 24)
  have b1 := B3.new z1 (.int .i64 48) (.int .i64 48) (.slice o1 l1.length k1) 24
  have g1 := hv.2.1.below (below_one z1 (.cells #[.int .i64 48, .int .i64 48, .slice o1 l1.length k1] 24))
  have n1 := hv.1
  replace HB := HB.trans (X1.mono HB.size)
  clear X1 hv
  generalize z1.alloc (.cells #[.int .i64 48, .int .i64 48, .slice o1 l1.length k1] 24) = W1 at *
  generalize z1.heap.size = P1 at *
  go_upto_region 3 with (go_at_call 9; refine (cB _).mono ?_; rintro e z2 ⟨_, rfl, o2, k2, l2, rfl, hz⟩; have hv : GvL _ [] o2 k2 l2 z2 := hz; clear hz)
  have X1 := hv.2.2.2.2.alloc hv.2.2.2.2.size (.cells #[.int .i64 0, .int .i64 0, .slice o2 l2.length k2] 24)
  have b2 := B3.new z2 (.int .i64 0) (.int .i64 0) (.slice o2 l2.length k2) 24
  have g2 := hv.2.1.below (below_one z2 (.cells #[.int .i64 0, .int .i64 0, .slice o2 l2.length k2] 24))
  have n2 := hv.1
  replace b1 := b1.below X1
  replace g1 := g1.below X1
  replace HB := HB.trans (X1.mono HB.size)
  clear X1 hv
  generalize z2.alloc (.cells #[.int .i64 0, .int .i64 0, .slice o2 l2.length k2] 24) = W2 at *
  generalize z2.heap.size = P2 at *
  go_upto_region 4 with (go_at_call 9; refine (cC _).mono ?_; rintro e z3 ⟨_, rfl, o3, k3, l3, rfl, hz⟩; have hv : GvL _ [] o3 k3 l3 z3 := hz; clear hz)
  have X1 := hv.2.2.2.2.alloc hv.2.2.2.2.size (.cells #[.int .i64 0, .int .i64 0, .slice o3 l3.length k3] 24)
  have b3 := B3.new z3 (.int .i64 0) (.int .i64 0) (.slice o3 l3.length k3) 24
  have g3 := hv.2.1.below (below_one z3 (.cells #[.int .i64 0, .int .i64 0, .slice o3 l3.length k3] 24))
  have n3 := hv.1
  replace b1 := b1.below X1
  replace g1 := g1.below X1
  replace b2 := b2.below X1
  replace g2 := g2.below X1
  replace HB := HB.trans (X1.mono HB.size)
  clear X1 hv
  generalize z3.alloc (.cells #[.int .i64 0, .int .i64 0, .slice o3 l3.length k3] 24) = W3 at *
  generalize z3.heap.size = P3 at *
  go_upto_region 5 with (go_at_call 10; refine (cD _).mono ?_; rintro e z4 ⟨_, rfl, o4, k4, l4, rfl, hz⟩; have hv : GvL _ [] o4 k4 l4 z4 := hz; clear hz)
  have X1 := hv.2.2.2.2.alloc hv.2.2.2.2.size (.cells #[.int .i64 0, .int .i64 0, .slice o4 l4.length k4] 24)
  have b4 := B3.new z4 (.int .i64 0) (.int .i64 0) (.slice o4 l4.length k4) 24
  have g4 := hv.2.1.below (below_one z4 (.cells #[.int .i64 0, .int .i64 0, .slice o4 l4.length k4] 24))
  have n4 := hv.1
  replace b1 := b1.below X1
  replace g1 := g1.below X1
  replace b2 := b2.below X1
  replace g2 := g2.below X1
  replace b3 := b3.below X1
  replace g3 := g3.below X1
  replace HB := HB.trans (X1.mono HB.size)
  clear X1 hv
  generalize z4.alloc (.cells #[.int .i64 0, .int .i64 0, .slice o4 l4.length k4] 24) = W4 at *
  generalize z4.heap.size = P4 at *
  go_upto_region 6 with (go_at_call 9; refine (cI _).mono ?_; rintro e z5 ⟨_, rfl, o5, k5, l5, rfl, hz⟩; have hv : GvL _ [] o5 k5 l5 z5 := hz; clear hz)
  have X1 := hv.2.2.2.2.alloc hv.2.2.2.2.size (.cells #[.int .i64 2, .int .i64 0, .slice o5 l5.length k5] 24)
  have b5 := B3.new z5 (.int .i64 2) (.int .i64 0) (.slice o5 l5.length k5) 24
  have g5 := hv.2.1.below (below_one z5 (.cells #[.int .i64 2, .int .i64 0, .slice o5 l5.length k5] 24))
  have n5 := hv.1
  replace b1 := b1.below X1
  replace g1 := g1.below X1
  replace b2 := b2.below X1
  replace g2 := g2.below X1
  replace b3 := b3.below X1
  replace g3 := g3.below X1
  replace b4 := b4.below X1
  replace g4 := g4.below X1
  replace HB := HB.trans (X1.mono HB.size)
  clear X1 hv
  generalize z5.alloc (.cells #[.int .i64 2, .int .i64 0, .slice o5 l5.length k5] 24) = W5 at *
  generalize z5.heap.size = P5 at *
  have q1 : ((l1.length : Int) != 2304) = false := by rw [n1.1, l0]; rfl
  have hne : Nonempty (LOf W5) := LOf.any _
  have m10 : ∀ u : LOf W5, u.val.cell? ⟨P1, 0, none⟩ = some (.int .i64 48) := fun u => u.cell b1.1
  have m11 : ∀ u : LOf W5, u.val.cell? ⟨P1, 1, none⟩ = some (.int .i64 48) := fun u => u.cell b1.2.1
  have m12 : ∀ u : LOf W5, u.val.cell? ⟨P1, 2, none⟩ = some (.slice o1 l1.length k1) := fun u => u.cell b1.2.2.1
  have j1 : ∀ u : LOf W5, GRow u.val o1 l1 := fun u => u.row g1
  have m20 : ∀ u : LOf W5, u.val.cell? ⟨P2, 0, none⟩ = some (.int .i64 0) := fun u => u.cell b2.1
  have m21 : ∀ u : LOf W5, u.val.cell? ⟨P2, 1, none⟩ = some (.int .i64 0) := fun u => u.cell b2.2.1
  have m22 : ∀ u : LOf W5, u.val.cell? ⟨P2, 2, none⟩ = some (.slice o2 l2.length k2) := fun u => u.cell b2.2.2.1
  have j2 : ∀ u : LOf W5, GRow u.val o2 l2 := fun u => u.row g2
  have m30 : ∀ u : LOf W5, u.val.cell? ⟨P3, 0, none⟩ = some (.int .i64 0) := fun u => u.cell b3.1
  have m31 : ∀ u : LOf W5, u.val.cell? ⟨P3, 1, none⟩ = some (.int .i64 0) := fun u => u.cell b3.2.1
  have m32 : ∀ u : LOf W5, u.val.cell? ⟨P3, 2, none⟩ = some (.slice o3 l3.length k3) := fun u => u.cell b3.2.2.1
  have j3 : ∀ u : LOf W5, GRow u.val o3 l3 := fun u => u.row g3
  have m40 : ∀ u : LOf W5, u.val.cell? ⟨P4, 0, none⟩ = some (.int .i64 0) := fun u => u.cell b4.1
  have m41 : ∀ u : LOf W5, u.val.cell? ⟨P4, 1, none⟩ = some (.int .i64 0) := fun u => u.cell b4.2.1
  have m42 : ∀ u : LOf W5, u.val.cell? ⟨P4, 2, none⟩ = some (.slice o4 l4.length k4) := fun u => u.cell b4.2.2.1
  have j4 : ∀ u : LOf W5, GRow u.val o4 l4 := fun u => u.row g4
  have m50 : ∀ u : LOf W5, u.val.cell? ⟨P5, 0, none⟩ = some (.int .i64 2) := fun u => u.cell b5.1
  have m51 : ∀ u : LOf W5, u.val.cell? ⟨P5, 1, none⟩ = some (.int .i64 0) := fun u => u.cell b5.2.1
  have m52 : ∀ u : LOf W5, u.val.cell? ⟨P5, 2, none⟩ = some (.slice o5 l5.length k5) := fun u => u.cell b5.2.2.1
  have j5 : ∀ u : LOf W5, GRow u.val o5 l5 := fun u => u.row g5
  have ln : LN [] [] := ⟨rfl, fun i h => absurd h (Nat.not_lt_zero i)⟩
  have y2 : ∀ u : LOf W5, Calls Try.prog 11 #[mxV 0 0 o2 l2.length k2, .int .i64 2, mxV 0 0 none 0 0, .int .i64 2] u.val fun e w'' => e = .returned (.bool true) ∧ ∃ u' : LOf W5, w'' = u'.val := fun u => later_of (lis_LN 0 0 2 n2 ln o2 none k2 0 u.val (j2 u) (Or.inl rfl) (Nat.zero_le _))
  have y3 : ∀ u : LOf W5, Calls Try.prog 11 #[mxV 0 0 o3 l3.length k3, .int .i64 2, mxV 0 0 none 0 0, .int .i64 2] u.val fun e w'' => e = .returned (.bool true) ∧ ∃ u' : LOf W5, w'' = u'.val := fun u => later_of (lis_LN 0 0 2 n3 ln o3 none k3 0 u.val (j3 u) (Or.inl rfl) (Nat.zero_le _))
  have y4 : ∀ u : LOf W5, Calls Try.prog 11 #[mxV 0 0 o4 l4.length k4, .int .i64 2, mxV 0 0 none 0 0, .int .i64 2] u.val fun e w'' => e = .returned (.bool true) ∧ ∃ u' : LOf W5, w'' = u'.val := fun u => later_of (lis_LN 0 0 2 n4 ln o4 none k4 0 u.val (j4 u) (Or.inl rfl) (Nat.zero_le _))
  have y5 : ∀ u : LOf W5, Calls Try.prog 11 #[mxV 2 0 o5 l5.length k5, .int .i64 0, mxV 2 0 none 0 0, .int .i64 0] u.val fun e w'' => e = .returned (.bool true) ∧ ∃ u' : LOf W5, w'' = u'.val := fun u => later_of (lis_LN 2 0 0 n5 ln o5 none k5 0 u.val (j5 u) (Or.inl rfl) (Nat.zero_le _))
  have yo := fun u : LOf W5 => later_of (lof_any 2 0 none 0 0 u.val)
  refine region_later (by kernel_rfl) (by kernel_rfl) ?_
  repeat (quiet_step (first
    | (go_at_call 12; exact yo _)
    | (go_at_call 11; first | with_reducible exact y2 _ | with_reducible exact y3 _ | with_reducible exact y4 _ | with_reducible exact y5 _)))
  refine wpQuiet_nil ?_
  intro w8 hw8
  obtain ⟨u8, rfl⟩ := hw8
  replace HB := HB.trans (u8.below.mono HB.size)
  clear m10 m11 m12 m20 m21 m22 m30 m31 m32 m40 m41 m42 m50 m51 m52 j1 b1 g1 n1 j2 b2 g2 n2 j3 b3 g3 n3 j4 b4 g4 n4 j5 b5 g5 n5 y2 y3 y4 y5 yo hne q1 l0 cA cB cC cD cI
  generalize u8.val = W6 at *
  clear u8
  go_upto_region 9 with (go_at_call 12; refine (lof_any 3 1 _ 3 3 _).mono ?_; rintro e z6 ⟨rfl, bz⟩; have g6 := (row_at (w := W6) (xs := [4607182418800017408, 4607182418800017408, 4607182418800017408]) (t := 31) rfl rfl).below bz; replace HB := HB.trans (((below_one W6 _).trans (bz.mono (below_one W6 _).size)).mono HB.size))
  have b6 := B3.new z6 (.int .i64 3) (.int .i64 1) (.slice (some ⟨W6.heap.size, 0, none⟩) 3 3) 24
  replace HB := HB.trans ((below_one z6 (.cells #[.int .i64 3, .int .i64 1, .slice (some ⟨W6.heap.size, 0, none⟩) 3 3] 24)).mono HB.size)
  replace g6 := g6.below (below_one z6 (.cells #[.int .i64 3, .int .i64 1, .slice (some ⟨W6.heap.size, 0, none⟩) 3 3] 24))
  clear bz
  generalize z6.alloc (.cells #[.int .i64 3, .int .i64 1, .slice (some ⟨W6.heap.size, 0, none⟩) 3 3] 24) = W7 at *
  generalize z6.heap.size = P6 at *
  generalize W6.heap.size = Q6 at *
  have cm := fun w ao g1 => nm_mul nm_m1 rfl (fw_lit _ (by decide)) ao (some ⟨Q6, 0, none⟩) w g1
  refine region_inv (by kernel_rfl) (fun L a w' => ∃ v0 v1 v2 v3 v4 v5 v6 v7 v9 g P zo zc zs, a = ⟨#[(.bool false), (.pointer (some ⟨P1, 0, none⟩)), (.int .i64 0), (.pointer (some ⟨P2, 0, none⟩)), (.int .i64 2), (.pointer (some ⟨P3, 0, none⟩)), (.int .i64 2), (.pointer (some ⟨P4, 0, none⟩)), (.int .i64 2), (.pointer (some ⟨P5, 0, none⟩)), (.int .i64 0), (.pointer (some ⟨P6, 0, none⟩)), v7, v9, undef, undef, undef, undef, undef, undef, undef, undef, undef, undef, undef, undef, undef, undef, undef, undef, (.tuple #[(mxV 48 48 o1 l1.length k1), .int .i64 0]), (.tuple #[(mxV 48 48 o1 l1.length k1), .int .i64 0]), (mxV 48 48 o1 l1.length k1), (.int .i64 0), (.tuple #[(mxV 0 0 o2 l2.length k2), .int .i64 2]), (.tuple #[(mxV 0 0 o2 l2.length k2), .int .i64 2]), (mxV 0 0 o2 l2.length k2), (.int .i64 2), (.tuple #[(mxV 0 0 o3 l3.length k3), .int .i64 2]), (.tuple #[(mxV 0 0 o3 l3.length k3), .int .i64 2]), (mxV 0 0 o3 l3.length k3), (.int .i64 2), (.tuple #[(mxV 0 0 o4 l4.length k4), .int .i64 2]), (.tuple #[(mxV 0 0 o4 l4.length k4), .int .i64 2]), (mxV 0 0 o4 l4.length k4), (.int .i64 2), (.tuple #[(mxV 2 0 o5 l5.length k5), .int .i64 0]), (.tuple #[(mxV 2 0 o5 l5.length k5), .int .i64 0]), (mxV 2 0 o5 l5.length k5), (.int .i64 0), (.int .i64 0), (.bool false), (.bool false), (.pointer (some ⟨P1, 2, none⟩)), (.slice o1 l1.length k1), (.int .i64 l1.length), (.bool false), (.bool false), (.bool false), (mxV 0 0 o2 l2.length k2), (.int .i64 2), (mxV 0 0 none 0 0), (.bool true), (.bool false), (.bool false), (.bool false), (mxV 0 0 o3 l3.length k3), (.int .i64 2), (mxV 0 0 none 0 0), (.bool true), (.bool false), (.bool false), (.bool false), (mxV 0 0 o4 l4.length k4), (.int .i64 2), (mxV 0 0 none 0 0), (.bool true), (.bool false), (.bool false), (.bool false), (mxV 2 0 o5 l5.length k5), (.int .i64 0), (mxV 2 0 none 0 0), (.bool true), (.bool false), (.bool false), (.slice (some ⟨Q6, 0, none⟩) 3 3), (mxV 3 1 (some ⟨Q6, 0, none⟩) 3 3), v4, v0, v1, v2, v3, v5, v6, undef, undef, undef, undef, undef, undef, undef, undef, undef, undef, undef, undef, undef, undef, undef, undef, undef, undef, undef, undef, undef, undef, undef, undef, undef, undef, undef, undef, undef, undef, undef, undef, undef, undef, undef, undef, undef, undef, undef, undef, undef, undef, undef, undef, undef, undef, undef, undef, undef, undef, undef, undef, undef, undef, undef, undef, undef, undef, undef, undef, undef, undef, undef, undef, undef, undef, undef, undef, undef, undef, undef, undef, undef, undef, undef, undef, undef, undef, undef, undef, undef, undef, undef, undef, undef, undef, undef, undef, undef, undef, undef, undef, undef, undef, undef, undef, undef, undef, undef, undef, undef, undef, undef, undef, undef, undef, undef, undef, undef, undef, undef, undef, undef, undef, undef, undef, undef, undef, undef, undef, undef, undef, undef, undef, undef, undef, undef, undef], []⟩ ∧ MulS W7 [4845873199050653696, 4607182418800017408, 14069245235905429504] [some 0] (some ⟨Q6, 0, none⟩) L w' v0 v1 v2 v3 v4 v5 v6 v7 v9 g P zo zc zs) ?_ ?_ ?_
  · refine ⟨undef, undef, undef, undef, undef, undef, undef, undef, undef, 0, 0, none, 0, [], rfl, ?_⟩
    have nn : ∀ i, ¬ On (Array.replicate 10 false) i := fun i => on_none
    exact ⟨(Below.refl _ _).drew, fun h => absurd h (nn _), fun h => absurd h (nn _), fun h => absurd h (nn _), fun h => absurd h (nn _), fun h => absurd h (nn _), fun h => absurd h (nn _), fun h => absurd h (nn _), fun h => absurd h (nn _), fun h => absurd h (nn _), fun h => absurd h (nn _), fun h => absurd h (nn _), fun h => absurd h (nn _), fun h => absurd h (nn _), fun h => absurd h (nn _), fun h => absurd h (nn _), fun h => absurd h (nn _), fun h => absurd h (nn _), fun h => absurd h (nn _), fun h => absurd h (nn _), fun h => absurd h (nn _)⟩
  · rintro L a w' i hL ⟨v0, v1, v2, v3, v4, v5, v6, v7, v9, g, P, zo, zc, zs, rfl, hS⟩ hi
    obtain ⟨h1, h2, h3⟩ := mem_ready hi
    have h1 : i < 10 := h1
    have hL : L.size = 10 := hL
    have hno := not_on (by rw [hL]; exact h1) h2
    have ho := on_set (L := L) (i := i) (by rw [hL]; exact h1)
    have hcs : i = 0 ∨ i = 1 ∨ i = 2 ∨ i = 3 ∨ i = 4 ∨ i = 5 ∨ i = 6 ∨ i = 7 ∨ i = 8 ∨ i = 9 := by omega
    have o : ∀ k, k ≠ i → On (L.setIfInBounds i true) k → On L k := fun k hk h => ((ho k).1 h).resolve_left hk
    have bx7 : On L 7 → P < w'.heap.size := fun h => (hS.r7 h).1.elim fun x hx => hx.elim fun y hy => hy.elim fun z hz => hz.2.2.2.2.2.2
    have hWw := hS.bel.size
    rcases hcs with rfl | rfl | rfl | rfl | rfl | rfl | rfl | rfl | rfl | rfl
    · refine wpOp_free (fun K hK => ?_)
      unfold wpOp
      go_simp
      refine Or.inl ?_
      refine hK _ _ ⟨_, _, _, _, _, _, _, _, _, w'.heap.size, P, zo, zc, zs, rfl, ?_⟩
      exact ⟨hS.bel.trans (((below_one _ _)).mono hS.bel.size), fun _ => rfl, fun _ _ => row_at rfl rfl, fun h => absurd (hS.c1 (o 1 (by decide) h)) hno, fun h => hS.d2 (o 2 (by decide) h), fun h => absurd ((hS.c3 (o 3 (by decide) h)).1) hno, fun h => absurd ((hS.c3 (o 3 (by decide) h)).1) hno, fun h => absurd ((hS.c4 (o 4 (by decide) h)).1) hno, fun h => absurd ((hS.c5 (o 5 (by decide) h)).1) hno, fun h => absurd ((hS.c6 (o 6 (by decide) h)).1) hno, fun h => hS.d7 (o 7 (by decide) h), fun h => ⟨((hS.r7 (o 7 (by decide) h)).1.elim fun x hx => hx.elim fun y hy => hy.elim fun z hz => ⟨x, y, z, hz.alloc _⟩), (hS.r7 (o 7 (by decide) h)).2.1, fun h' => (hS.r7 (o 7 (by decide) h)).2.2 (o 3 (by decide) h')⟩, fun h => absurd ((hS.c8 (o 8 (by decide) h)).1) hno, fun h => absurd ((hS.c9 (o 9 (by decide) h)).1) hno, fun h => absurd (hS.c1 (o 1 (by decide) h)) hno, fun h => absurd ((hS.c3 (o 3 (by decide) h)).1) hno, fun h => absurd ((hS.c4 (o 4 (by decide) h)).1) hno, fun h => absurd ((hS.c5 (o 5 (by decide) h)).1) hno, fun h => absurd ((hS.c6 (o 6 (by decide) h)).1) hno, fun h => absurd ((hS.c8 (o 8 (by decide) h)).1) hno, fun h => absurd ((hS.c9 (o 9 (by decide) h)).1) hno⟩
    · have dn0 := ready_dep hi 0 (by kernel_rfl)
      obtain rfl := hS.d0 dn0
      refine wpOp_free (fun K hK => ?_)
      unfold wpOp
      go_simp
      refine Or.inl ?_
      refine (lof_any 1 3 _ 3 3 _).mono (fun e wq => ?_)
      rintro ⟨rfl, bq⟩
      refine hK _ _ ⟨_, _, _, _, _, _, _, _, _, g, P, zo, zc, zs, rfl, ?_⟩
      exact ⟨hS.bel.trans ((bq).mono hS.bel.size), fun h => hS.d0 (o 0 (by decide) h), fun h h' => (hS.r0 (o 0 (by decide) h) (fun q => h' ((ho 3).2 (Or.inr q)))).below bq, fun _ => rfl, fun h => hS.d2 (o 2 (by decide) h), fun h => absurd ((hS.c3 (o 3 (by decide) h)).2.1) hno, fun h => absurd ((hS.c3 (o 3 (by decide) h)).2.1) hno, fun h => absurd ((hS.c4 (o 4 (by decide) h)).2.1) hno, fun h => absurd ((hS.c5 (o 5 (by decide) h)).2.1) hno, fun h => absurd ((hS.c6 (o 6 (by decide) h)).2.1) hno, fun h => hS.d7 (o 7 (by decide) h), fun h => ⟨((hS.r7 (o 7 (by decide) h)).1.elim fun x hx => hx.elim fun y hy => hy.elim fun z hz => ⟨x, y, z, hz.below bq⟩), (hS.r7 (o 7 (by decide) h)).2.1, fun h' => (hS.r7 (o 7 (by decide) h)).2.2 (o 3 (by decide) h')⟩, fun h => absurd ((hS.c8 (o 8 (by decide) h)).2.1) hno, fun h => absurd ((hS.c9 (o 9 (by decide) h)).2.1) hno, fun _ => (ho 0).2 (Or.inr (dn0)), fun h => absurd ((hS.c3 (o 3 (by decide) h)).2.1) hno, fun h => absurd ((hS.c4 (o 4 (by decide) h)).2.1) hno, fun h => absurd ((hS.c5 (o 5 (by decide) h)).2.1) hno, fun h => absurd ((hS.c6 (o 6 (by decide) h)).2.1) hno, fun h => absurd ((hS.c8 (o 8 (by decide) h)).2.1) hno, fun h => absurd ((hS.c9 (o 9 (by decide) h)).2.1) hno⟩
    · obtain ⟨a0, a1, a2, _⟩ := b6.below hS.bel
      refine wpOp_free (fun K hK => ?_)
      unfold wpOp
      go_simp
      refine Or.inl ?_
      refine hK _ _ ⟨_, _, _, _, _, _, _, _, _, g, P, zo, zc, zs, rfl, ?_⟩
      exact ⟨hS.bel, fun h => hS.d0 (o 0 (by decide) h), fun h h' => hS.r0 (o 0 (by decide) h) (fun q => h' ((ho 3).2 (Or.inr q))), fun h => hS.d1 (o 1 (by decide) h), fun _ => rfl, fun h => absurd ((hS.c3 (o 3 (by decide) h)).2.2) hno, fun h => absurd ((hS.c3 (o 3 (by decide) h)).2.2) hno, fun h => absurd ((hS.c4 (o 4 (by decide) h)).2.2.1) hno, fun h => absurd ((hS.c5 (o 5 (by decide) h)).2.2.1) hno, fun h => absurd ((hS.c6 (o 6 (by decide) h)).2.2.1) hno, fun h => hS.d7 (o 7 (by decide) h), fun h => ⟨((hS.r7 (o 7 (by decide) h)).1.elim fun x hx => hx.elim fun y hy => hy.elim fun z hz => ⟨x, y, z, hz⟩), (hS.r7 (o 7 (by decide) h)).2.1, fun h' => (hS.r7 (o 7 (by decide) h)).2.2 (o 3 (by decide) h')⟩, fun h => absurd ((hS.c8 (o 8 (by decide) h)).2.2.1) hno, fun h => absurd ((hS.c9 (o 9 (by decide) h)).2.2.1) hno, fun h => (ho 0).2 (Or.inr (hS.c1 (o 1 (by decide) h))), fun h => absurd ((hS.c3 (o 3 (by decide) h)).2.2) hno, fun h => absurd ((hS.c4 (o 4 (by decide) h)).2.2.1) hno, fun h => absurd ((hS.c5 (o 5 (by decide) h)).2.2.1) hno, fun h => absurd ((hS.c6 (o 6 (by decide) h)).2.2.1) hno, fun h => absurd ((hS.c8 (o 8 (by decide) h)).2.2.1) hno, fun h => absurd ((hS.c9 (o 9 (by decide) h)).2.2.1) hno⟩
    · have dn1 := ready_dep hi 1 (by kernel_rfl)
      have dn2 := ready_dep hi 2 (by kernel_rfl)
      have dn0 := hS.c1 dn1
      have hrow := hS.r0 dn0 hno
      obtain rfl := hS.d1 dn1
      obtain rfl := hS.d2 dn2
      refine wpOp_free (fun K hK => ?_)
      unfold wpOp
      go_simp
      refine Or.inl ?_
      refine (cm _ _ hrow (g6.below hS.bel)).mono (fun e wq => ?_)
      rintro ⟨zo', zc', zs', rfl, hv⟩
      have bq := hv.2.2.2.2
      refine hK _ _ ⟨_, _, _, _, _, _, _, _, _, g, P, zo', zc', zs', rfl, ?_⟩
      exact ⟨hS.bel.trans ((bq).mono hS.bel.size), fun h => hS.d0 (o 0 (by decide) h), fun h h' => absurd ((ho 3).2 (Or.inl rfl)) h', fun h => hS.d1 (o 1 (by decide) h), fun h => hS.d2 (o 2 (by decide) h), fun _ => rfl, fun _ => ⟨hv.1, hv.2.1, row_lt hv.2.1 (by rw [hv.1.1]; decide)⟩, fun h => absurd ((hS.c4 (o 4 (by decide) h)).2.2.2) hno, fun h => absurd ((hS.c5 (o 5 (by decide) h)).2.2.2.1) hno, fun h => absurd ((hS.c6 (o 6 (by decide) h)).2.2.2.1) hno, fun h => hS.d7 (o 7 (by decide) h), fun h => ⟨((hS.r7 (o 7 (by decide) h)).1.elim fun x hx => hx.elim fun y hy => hy.elim fun z hz => ⟨x, y, z, hz.below bq⟩), (hS.r7 (o 7 (by decide) h)).2.1, fun _ q e => (by have := bx7 (o 7 (by decide) h); have := hv.2.2.2.1 q e; omega)⟩, fun h => absurd ((hS.c8 (o 8 (by decide) h)).2.2.2.1) hno, fun h => absurd ((hS.c9 (o 9 (by decide) h)).2.2.2.1) hno, fun h => (ho 0).2 (Or.inr (hS.c1 (o 1 (by decide) h))), fun _ => ⟨(ho 0).2 (Or.inr (hS.c1 dn1)), (ho 1).2 (Or.inr (dn1)), (ho 2).2 (Or.inr (dn2))⟩, fun h => absurd ((hS.c4 (o 4 (by decide) h)).2.2.2) hno, fun h => absurd ((hS.c5 (o 5 (by decide) h)).2.2.2.1) hno, fun h => absurd ((hS.c6 (o 6 (by decide) h)).2.2.2.1) hno, fun h => absurd ((hS.c8 (o 8 (by decide) h)).2.2.2.1) hno, fun h => absurd ((hS.c9 (o 9 (by decide) h)).2.2.2.1) hno⟩
    · have dn3 := ready_dep hi 3 (by kernel_rfl)
      obtain rfl := hS.d3 dn3
      refine wpOp_free (fun K hK => ?_)
      unfold wpOp
      go_simp
      refine Or.inl ?_
      refine hK _ _ ⟨_, _, _, _, _, _, _, _, _, g, P, zo, zc, zs, rfl, ?_⟩
      exact ⟨hS.bel, fun h => hS.d0 (o 0 (by decide) h), fun h h' => hS.r0 (o 0 (by decide) h) (fun q => h' ((ho 3).2 (Or.inr q))), fun h => hS.d1 (o 1 (by decide) h), fun h => hS.d2 (o 2 (by decide) h), fun h => hS.d3 (o 3 (by decide) h), fun h => hS.r3 (o 3 (by decide) h), fun _ => rfl, fun h => absurd ((hS.c5 (o 5 (by decide) h)).2.2.2.2) hno, fun h => absurd ((hS.c6 (o 6 (by decide) h)).2.2.2.2) hno, fun h => hS.d7 (o 7 (by decide) h), fun h => ⟨((hS.r7 (o 7 (by decide) h)).1.elim fun x hx => hx.elim fun y hy => hy.elim fun z hz => ⟨x, y, z, hz⟩), (hS.r7 (o 7 (by decide) h)).2.1, fun h' => (hS.r7 (o 7 (by decide) h)).2.2 (o 3 (by decide) h')⟩, fun h => absurd ((hS.c8 (o 8 (by decide) h)).2.2.2.2.1) hno, fun h => absurd ((hS.c9 (o 9 (by decide) h)).2.2.2.2.1) hno, fun h => (ho 0).2 (Or.inr (hS.c1 (o 1 (by decide) h))), fun h => ⟨(ho 0).2 (Or.inr ((hS.c3 (o 3 (by decide) h)).1)), (ho 1).2 (Or.inr ((hS.c3 (o 3 (by decide) h)).2.1)), (ho 2).2 (Or.inr ((hS.c3 (o 3 (by decide) h)).2.2))⟩, fun _ => ⟨(ho 0).2 (Or.inr ((hS.c3 dn3).1)), (ho 1).2 (Or.inr ((hS.c3 dn3).2.1)), (ho 2).2 (Or.inr ((hS.c3 dn3).2.2)), (ho 3).2 (Or.inr (dn3))⟩, fun h => absurd ((hS.c5 (o 5 (by decide) h)).2.2.2.2) hno, fun h => absurd ((hS.c6 (o 6 (by decide) h)).2.2.2.2) hno, fun h => absurd ((hS.c8 (o 8 (by decide) h)).2.2.2.2.1) hno, fun h => absurd ((hS.c9 (o 9 (by decide) h)).2.2.2.2.1) hno⟩
    · have dn4 := ready_dep hi 4 (by kernel_rfl)
      obtain rfl := hS.d4 dn4
      refine wpOp_free (fun K hK => ?_)
      unfold wpOp
      go_simp
      refine Or.inl ?_
      refine hK _ _ ⟨_, _, _, _, _, _, _, _, _, g, P, zo, zc, zs, rfl, ?_⟩
      exact ⟨hS.bel, fun h => hS.d0 (o 0 (by decide) h), fun h h' => hS.r0 (o 0 (by decide) h) (fun q => h' ((ho 3).2 (Or.inr q))), fun h => hS.d1 (o 1 (by decide) h), fun h => hS.d2 (o 2 (by decide) h), fun h => hS.d3 (o 3 (by decide) h), fun h => hS.r3 (o 3 (by decide) h), fun h => hS.d4 (o 4 (by decide) h), fun _ => rfl, fun h => hS.d6 (o 6 (by decide) h), fun h => hS.d7 (o 7 (by decide) h), fun h => ⟨((hS.r7 (o 7 (by decide) h)).1.elim fun x hx => hx.elim fun y hy => hy.elim fun z hz => ⟨x, y, z, hz⟩), (hS.r7 (o 7 (by decide) h)).2.1, fun h' => (hS.r7 (o 7 (by decide) h)).2.2 (o 3 (by decide) h')⟩, fun h => absurd ((hS.c8 (o 8 (by decide) h)).2.2.2.2.2.1) hno, fun h => hS.d9 (o 9 (by decide) h), fun h => (ho 0).2 (Or.inr (hS.c1 (o 1 (by decide) h))), fun h => ⟨(ho 0).2 (Or.inr ((hS.c3 (o 3 (by decide) h)).1)), (ho 1).2 (Or.inr ((hS.c3 (o 3 (by decide) h)).2.1)), (ho 2).2 (Or.inr ((hS.c3 (o 3 (by decide) h)).2.2))⟩, fun h => ⟨(ho 0).2 (Or.inr ((hS.c4 (o 4 (by decide) h)).1)), (ho 1).2 (Or.inr ((hS.c4 (o 4 (by decide) h)).2.1)), (ho 2).2 (Or.inr ((hS.c4 (o 4 (by decide) h)).2.2.1)), (ho 3).2 (Or.inr ((hS.c4 (o 4 (by decide) h)).2.2.2))⟩, fun _ => ⟨(ho 0).2 (Or.inr ((hS.c4 dn4).1)), (ho 1).2 (Or.inr ((hS.c4 dn4).2.1)), (ho 2).2 (Or.inr ((hS.c4 dn4).2.2.1)), (ho 3).2 (Or.inr ((hS.c4 dn4).2.2.2)), (ho 4).2 (Or.inr (dn4))⟩, fun h => ⟨(ho 0).2 (Or.inr ((hS.c6 (o 6 (by decide) h)).1)), (ho 1).2 (Or.inr ((hS.c6 (o 6 (by decide) h)).2.1)), (ho 2).2 (Or.inr ((hS.c6 (o 6 (by decide) h)).2.2.1)), (ho 3).2 (Or.inr ((hS.c6 (o 6 (by decide) h)).2.2.2.1)), (ho 4).2 (Or.inr ((hS.c6 (o 6 (by decide) h)).2.2.2.2))⟩, fun h => absurd ((hS.c8 (o 8 (by decide) h)).2.2.2.2.2.1) hno, fun h => ⟨(ho 0).2 (Or.inr ((hS.c9 (o 9 (by decide) h)).1)), (ho 1).2 (Or.inr ((hS.c9 (o 9 (by decide) h)).2.1)), (ho 2).2 (Or.inr ((hS.c9 (o 9 (by decide) h)).2.2.1)), (ho 3).2 (Or.inr ((hS.c9 (o 9 (by decide) h)).2.2.2.1)), (ho 4).2 (Or.inr ((hS.c9 (o 9 (by decide) h)).2.2.2.2.1)), (ho 6).2 (Or.inr ((hS.c9 (o 9 (by decide) h)).2.2.2.2.2))⟩⟩
    · have dn4 := ready_dep hi 4 (by kernel_rfl)
      obtain rfl := hS.d4 dn4
      refine wpOp_free (fun K hK => ?_)
      unfold wpOp
      go_simp
      refine Or.inl ?_
      refine hK _ _ ⟨_, _, _, _, _, _, _, _, _, g, P, zo, zc, zs, rfl, ?_⟩
      exact ⟨hS.bel, fun h => hS.d0 (o 0 (by decide) h), fun h h' => hS.r0 (o 0 (by decide) h) (fun q => h' ((ho 3).2 (Or.inr q))), fun h => hS.d1 (o 1 (by decide) h), fun h => hS.d2 (o 2 (by decide) h), fun h => hS.d3 (o 3 (by decide) h), fun h => hS.r3 (o 3 (by decide) h), fun h => hS.d4 (o 4 (by decide) h), fun h => hS.d5 (o 5 (by decide) h), fun _ => rfl, fun h => hS.d7 (o 7 (by decide) h), fun h => ⟨((hS.r7 (o 7 (by decide) h)).1.elim fun x hx => hx.elim fun y hy => hy.elim fun z hz => ⟨x, y, z, hz⟩), (hS.r7 (o 7 (by decide) h)).2.1, fun h' => (hS.r7 (o 7 (by decide) h)).2.2 (o 3 (by decide) h')⟩, fun h => hS.d8 (o 8 (by decide) h), fun h => absurd ((hS.c9 (o 9 (by decide) h)).2.2.2.2.2) hno, fun h => (ho 0).2 (Or.inr (hS.c1 (o 1 (by decide) h))), fun h => ⟨(ho 0).2 (Or.inr ((hS.c3 (o 3 (by decide) h)).1)), (ho 1).2 (Or.inr ((hS.c3 (o 3 (by decide) h)).2.1)), (ho 2).2 (Or.inr ((hS.c3 (o 3 (by decide) h)).2.2))⟩, fun h => ⟨(ho 0).2 (Or.inr ((hS.c4 (o 4 (by decide) h)).1)), (ho 1).2 (Or.inr ((hS.c4 (o 4 (by decide) h)).2.1)), (ho 2).2 (Or.inr ((hS.c4 (o 4 (by decide) h)).2.2.1)), (ho 3).2 (Or.inr ((hS.c4 (o 4 (by decide) h)).2.2.2))⟩, fun h => ⟨(ho 0).2 (Or.inr ((hS.c5 (o 5 (by decide) h)).1)), (ho 1).2 (Or.inr ((hS.c5 (o 5 (by decide) h)).2.1)), (ho 2).2 (Or.inr ((hS.c5 (o 5 (by decide) h)).2.2.1)), (ho 3).2 (Or.inr ((hS.c5 (o 5 (by decide) h)).2.2.2.1)), (ho 4).2 (Or.inr ((hS.c5 (o 5 (by decide) h)).2.2.2.2))⟩, fun _ => ⟨(ho 0).2 (Or.inr ((hS.c4 dn4).1)), (ho 1).2 (Or.inr ((hS.c4 dn4).2.1)), (ho 2).2 (Or.inr ((hS.c4 dn4).2.2.1)), (ho 3).2 (Or.inr ((hS.c4 dn4).2.2.2)), (ho 4).2 (Or.inr (dn4))⟩, fun h => ⟨(ho 0).2 (Or.inr ((hS.c8 (o 8 (by decide) h)).1)), (ho 1).2 (Or.inr ((hS.c8 (o 8 (by decide) h)).2.1)), (ho 2).2 (Or.inr ((hS.c8 (o 8 (by decide) h)).2.2.1)), (ho 3).2 (Or.inr ((hS.c8 (o 8 (by decide) h)).2.2.2.1)), (ho 4).2 (Or.inr ((hS.c8 (o 8 (by decide) h)).2.2.2.2.1)), (ho 5).2 (Or.inr ((hS.c8 (o 8 (by decide) h)).2.2.2.2.2.1)), (ho 7).2 (Or.inr ((hS.c8 (o 8 (by decide) h)).2.2.2.2.2.2))⟩, fun h => absurd ((hS.c9 (o 9 (by decide) h)).2.2.2.2.2) hno⟩
    · refine wpOp_free (fun K hK => ?_)
      unfold wpOp
      go_simp
      refine Or.inl ?_
      refine hK _ _ ⟨_, _, _, _, _, _, _, _, _, g, w'.heap.size, zo, zc, zs, rfl, ?_⟩
      exact ⟨hS.bel.trans (((below_one _ _)).mono hS.bel.size), fun h => hS.d0 (o 0 (by decide) h), fun h h' => (hS.r0 (o 0 (by decide) h) (fun q => h' ((ho 3).2 (Or.inr q)))).below (below_one _ _), fun h => hS.d1 (o 1 (by decide) h), fun h => hS.d2 (o 2 (by decide) h), fun h => hS.d3 (o 3 (by decide) h), fun h => ⟨(hS.r3 (o 3 (by decide) h)).1, (hS.r3 (o 3 (by decide) h)).2.1.below (below_one _ _), fun q e => Nat.lt_of_lt_of_le ((hS.r3 (o 3 (by decide) h)).2.2 q e) ((below_one _ _)).size⟩, fun h => hS.d4 (o 4 (by decide) h), fun h => hS.d5 (o 5 (by decide) h), fun h => hS.d6 (o 6 (by decide) h), fun _ => rfl, fun _ => ⟨⟨_, _, _, B3.new _ _ _ _ _⟩, hWw, fun h' q e => Nat.ne_of_lt ((hS.r3 (o 3 (by decide) h')).2.2 q e)⟩, fun h => absurd ((hS.c8 (o 8 (by decide) h)).2.2.2.2.2.2) hno, fun h => hS.d9 (o 9 (by decide) h), fun h => (ho 0).2 (Or.inr (hS.c1 (o 1 (by decide) h))), fun h => ⟨(ho 0).2 (Or.inr ((hS.c3 (o 3 (by decide) h)).1)), (ho 1).2 (Or.inr ((hS.c3 (o 3 (by decide) h)).2.1)), (ho 2).2 (Or.inr ((hS.c3 (o 3 (by decide) h)).2.2))⟩, fun h => ⟨(ho 0).2 (Or.inr ((hS.c4 (o 4 (by decide) h)).1)), (ho 1).2 (Or.inr ((hS.c4 (o 4 (by decide) h)).2.1)), (ho 2).2 (Or.inr ((hS.c4 (o 4 (by decide) h)).2.2.1)), (ho 3).2 (Or.inr ((hS.c4 (o 4 (by decide) h)).2.2.2))⟩, fun h => ⟨(ho 0).2 (Or.inr ((hS.c5 (o 5 (by decide) h)).1)), (ho 1).2 (Or.inr ((hS.c5 (o 5 (by decide) h)).2.1)), (ho 2).2 (Or.inr ((hS.c5 (o 5 (by decide) h)).2.2.1)), (ho 3).2 (Or.inr ((hS.c5 (o 5 (by decide) h)).2.2.2.1)), (ho 4).2 (Or.inr ((hS.c5 (o 5 (by decide) h)).2.2.2.2))⟩, fun h => ⟨(ho 0).2 (Or.inr ((hS.c6 (o 6 (by decide) h)).1)), (ho 1).2 (Or.inr ((hS.c6 (o 6 (by decide) h)).2.1)), (ho 2).2 (Or.inr ((hS.c6 (o 6 (by decide) h)).2.2.1)), (ho 3).2 (Or.inr ((hS.c6 (o 6 (by decide) h)).2.2.2.1)), (ho 4).2 (Or.inr ((hS.c6 (o 6 (by decide) h)).2.2.2.2))⟩, fun h => absurd ((hS.c8 (o 8 (by decide) h)).2.2.2.2.2.2) hno, fun h => ⟨(ho 0).2 (Or.inr ((hS.c9 (o 9 (by decide) h)).1)), (ho 1).2 (Or.inr ((hS.c9 (o 9 (by decide) h)).2.1)), (ho 2).2 (Or.inr ((hS.c9 (o 9 (by decide) h)).2.2.1)), (ho 3).2 (Or.inr ((hS.c9 (o 9 (by decide) h)).2.2.2.1)), (ho 4).2 (Or.inr ((hS.c9 (o 9 (by decide) h)).2.2.2.2.1)), (ho 6).2 (Or.inr ((hS.c9 (o 9 (by decide) h)).2.2.2.2.2))⟩⟩
    · have dn5 := ready_dep hi 5 (by kernel_rfl)
      have dn7 := ready_dep hi 7 (by kernel_rfl)
      have dn3 := (hS.c5 dn5).2.2.2.1
      obtain ⟨⟨x, y, z, hbx⟩, hWP, hzP⟩ := hS.r7 dn7
      obtain rfl := hS.d5 dn5
      obtain rfl := hS.d7 dn7
      obtain ⟨c0, c1, c2, f0, f1, f2, _⟩ := id hbx
      refine wpOp_free (fun K hK => ?_)
      unfold wpOp
      go_simp
      refine Or.inl ?_
      refine hK _ _ ⟨_, _, _, _, _, _, _, _, _, g, P, zo, zc, zs, rfl, ?_⟩
      exact ⟨set_three hS.bel hWP _ _ _, fun h => hS.d0 (o 0 (by decide) h), fun h h' => absurd ((ho 3).2 (Or.inr dn3)) h', fun h => hS.d1 (o 1 (by decide) h), fun h => hS.d2 (o 2 (by decide) h), fun h => hS.d3 (o 3 (by decide) h), fun h => ⟨(hS.r3 (o 3 (by decide) h)).1, (hS.r3 (o 3 (by decide) h)).2.1.off3 (hzP dn3) _ _ _, fun q e => Nat.lt_of_lt_of_le ((hS.r3 (o 3 (by decide) h)).2.2 q e) (Nat.le_of_eq (by simp [World.setCell]))⟩, fun h => hS.d4 (o 4 (by decide) h), fun h => hS.d5 (o 5 (by decide) h), fun h => hS.d6 (o 6 (by decide) h), fun h => hS.d7 (o 7 (by decide) h), fun h => ⟨⟨_, _, _, three_put hbx _ _ _⟩, (hS.r7 (o 7 (by decide) h)).2.1, fun h' => (hS.r7 (o 7 (by decide) h)).2.2 (o 3 (by decide) h')⟩, fun _ => three_put hbx _ _ _, fun h => hS.d9 (o 9 (by decide) h), fun h => (ho 0).2 (Or.inr (hS.c1 (o 1 (by decide) h))), fun h => ⟨(ho 0).2 (Or.inr ((hS.c3 (o 3 (by decide) h)).1)), (ho 1).2 (Or.inr ((hS.c3 (o 3 (by decide) h)).2.1)), (ho 2).2 (Or.inr ((hS.c3 (o 3 (by decide) h)).2.2))⟩, fun h => ⟨(ho 0).2 (Or.inr ((hS.c4 (o 4 (by decide) h)).1)), (ho 1).2 (Or.inr ((hS.c4 (o 4 (by decide) h)).2.1)), (ho 2).2 (Or.inr ((hS.c4 (o 4 (by decide) h)).2.2.1)), (ho 3).2 (Or.inr ((hS.c4 (o 4 (by decide) h)).2.2.2))⟩, fun h => ⟨(ho 0).2 (Or.inr ((hS.c5 (o 5 (by decide) h)).1)), (ho 1).2 (Or.inr ((hS.c5 (o 5 (by decide) h)).2.1)), (ho 2).2 (Or.inr ((hS.c5 (o 5 (by decide) h)).2.2.1)), (ho 3).2 (Or.inr ((hS.c5 (o 5 (by decide) h)).2.2.2.1)), (ho 4).2 (Or.inr ((hS.c5 (o 5 (by decide) h)).2.2.2.2))⟩, fun h => ⟨(ho 0).2 (Or.inr ((hS.c6 (o 6 (by decide) h)).1)), (ho 1).2 (Or.inr ((hS.c6 (o 6 (by decide) h)).2.1)), (ho 2).2 (Or.inr ((hS.c6 (o 6 (by decide) h)).2.2.1)), (ho 3).2 (Or.inr ((hS.c6 (o 6 (by decide) h)).2.2.2.1)), (ho 4).2 (Or.inr ((hS.c6 (o 6 (by decide) h)).2.2.2.2))⟩, fun _ => ⟨(ho 0).2 (Or.inr ((hS.c5 dn5).1)), (ho 1).2 (Or.inr ((hS.c5 dn5).2.1)), (ho 2).2 (Or.inr ((hS.c5 dn5).2.2.1)), (ho 3).2 (Or.inr ((hS.c5 dn5).2.2.2.1)), (ho 4).2 (Or.inr ((hS.c5 dn5).2.2.2.2)), (ho 5).2 (Or.inr (dn5)), (ho 7).2 (Or.inr (dn7))⟩, fun h => ⟨(ho 0).2 (Or.inr ((hS.c9 (o 9 (by decide) h)).1)), (ho 1).2 (Or.inr ((hS.c9 (o 9 (by decide) h)).2.1)), (ho 2).2 (Or.inr ((hS.c9 (o 9 (by decide) h)).2.2.1)), (ho 3).2 (Or.inr ((hS.c9 (o 9 (by decide) h)).2.2.2.1)), (ho 4).2 (Or.inr ((hS.c9 (o 9 (by decide) h)).2.2.2.2.1)), (ho 6).2 (Or.inr ((hS.c9 (o 9 (by decide) h)).2.2.2.2.2))⟩⟩
    · have dn6 := ready_dep hi 6 (by kernel_rfl)
      obtain rfl := hS.d6 dn6
      refine wpOp_free (fun K hK => ?_)
      unfold wpOp
      go_simp
      refine Or.inl ?_
      refine hK _ _ ⟨_, _, _, _, _, _, _, _, _, g, P, zo, zc, zs, rfl, ?_⟩
      exact ⟨hS.bel, fun h => hS.d0 (o 0 (by decide) h), fun h h' => hS.r0 (o 0 (by decide) h) (fun q => h' ((ho 3).2 (Or.inr q))), fun h => hS.d1 (o 1 (by decide) h), fun h => hS.d2 (o 2 (by decide) h), fun h => hS.d3 (o 3 (by decide) h), fun h => hS.r3 (o 3 (by decide) h), fun h => hS.d4 (o 4 (by decide) h), fun h => hS.d5 (o 5 (by decide) h), fun h => hS.d6 (o 6 (by decide) h), fun h => hS.d7 (o 7 (by decide) h), fun h => ⟨((hS.r7 (o 7 (by decide) h)).1.elim fun x hx => hx.elim fun y hy => hy.elim fun z hz => ⟨x, y, z, hz⟩), (hS.r7 (o 7 (by decide) h)).2.1, fun h' => (hS.r7 (o 7 (by decide) h)).2.2 (o 3 (by decide) h')⟩, fun h => hS.d8 (o 8 (by decide) h), fun _ => rfl, fun h => (ho 0).2 (Or.inr (hS.c1 (o 1 (by decide) h))), fun h => ⟨(ho 0).2 (Or.inr ((hS.c3 (o 3 (by decide) h)).1)), (ho 1).2 (Or.inr ((hS.c3 (o 3 (by decide) h)).2.1)), (ho 2).2 (Or.inr ((hS.c3 (o 3 (by decide) h)).2.2))⟩, fun h => ⟨(ho 0).2 (Or.inr ((hS.c4 (o 4 (by decide) h)).1)), (ho 1).2 (Or.inr ((hS.c4 (o 4 (by decide) h)).2.1)), (ho 2).2 (Or.inr ((hS.c4 (o 4 (by decide) h)).2.2.1)), (ho 3).2 (Or.inr ((hS.c4 (o 4 (by decide) h)).2.2.2))⟩, fun h => ⟨(ho 0).2 (Or.inr ((hS.c5 (o 5 (by decide) h)).1)), (ho 1).2 (Or.inr ((hS.c5 (o 5 (by decide) h)).2.1)), (ho 2).2 (Or.inr ((hS.c5 (o 5 (by decide) h)).2.2.1)), (ho 3).2 (Or.inr ((hS.c5 (o 5 (by decide) h)).2.2.2.1)), (ho 4).2 (Or.inr ((hS.c5 (o 5 (by decide) h)).2.2.2.2))⟩, fun h => ⟨(ho 0).2 (Or.inr ((hS.c6 (o 6 (by decide) h)).1)), (ho 1).2 (Or.inr ((hS.c6 (o 6 (by decide) h)).2.1)), (ho 2).2 (Or.inr ((hS.c6 (o 6 (by decide) h)).2.2.1)), (ho 3).2 (Or.inr ((hS.c6 (o 6 (by decide) h)).2.2.2.1)), (ho 4).2 (Or.inr ((hS.c6 (o 6 (by decide) h)).2.2.2.2))⟩, fun h => ⟨(ho 0).2 (Or.inr ((hS.c8 (o 8 (by decide) h)).1)), (ho 1).2 (Or.inr ((hS.c8 (o 8 (by decide) h)).2.1)), (ho 2).2 (Or.inr ((hS.c8 (o 8 (by decide) h)).2.2.1)), (ho 3).2 (Or.inr ((hS.c8 (o 8 (by decide) h)).2.2.2.1)), (ho 4).2 (Or.inr ((hS.c8 (o 8 (by decide) h)).2.2.2.2.1)), (ho 5).2 (Or.inr ((hS.c8 (o 8 (by decide) h)).2.2.2.2.2.1)), (ho 7).2 (Or.inr ((hS.c8 (o 8 (by decide) h)).2.2.2.2.2.2))⟩, fun _ => ⟨(ho 0).2 (Or.inr ((hS.c6 dn6).1)), (ho 1).2 (Or.inr ((hS.c6 dn6).2.1)), (ho 2).2 (Or.inr ((hS.c6 dn6).2.2.1)), (ho 3).2 (Or.inr ((hS.c6 dn6).2.2.2.1)), (ho 4).2 (Or.inr ((hS.c6 dn6).2.2.2.2)), (ho 6).2 (Or.inr (dn6))⟩⟩
  rintro L a U7 hL ⟨v0, v1, v2, v3, v4, v5, v6, v7, v9, G7, P7, o7, k7, l7, rfl, hS⟩ hnone
  have hd := all_done hL hnone (by kernel_rfl)
  have od := fun i (h : i < 10) => hd i h
  obtain rfl := hS.d0 (od 0 (by omega))
  obtain rfl := hS.d1 (od 1 (by omega))
  obtain rfl := hS.d2 (od 2 (by omega))
  obtain rfl := hS.d3 (od 3 (by omega))
  obtain rfl := hS.d4 (od 4 (by omega))
  obtain rfl := hS.d5 (od 5 (by omega))
  obtain rfl := hS.d6 (od 6 (by omega))
  obtain rfl := hS.d7 (od 7 (by omega))
  obtain rfl := hS.d9 (od 9 (by omega))
  have b7 := hS.d8 (od 8 (by omega))
  obtain ⟨n7, g7, _⟩ := hS.r3 (od 3 (by omega))
  have X1 := hS.bel
  clear hS hd od hnone hL
  replace HB := HB.trans (X1.mono HB.size)
  replace b6 := b6.below X1
  replace g6 := g6.below X1
  clear X1 cm
  go_upto_region 10 with fail
  have cm := fun w ao g1 => nm_mul nm_m2 rfl (fw_lit _ (by decide)) ao (some ⟨Q6, 0, none⟩) w g1
  refine region_inv (by kernel_rfl) (fun L a w' => ∃ v0 v1 v2 v3 v4 v5 v6 v7 v9 g P zo zc zs, a = ⟨#[(.bool false), (.pointer (some ⟨P1, 0, none⟩)), (.int .i64 0), (.pointer (some ⟨P2, 0, none⟩)), (.int .i64 2), (.pointer (some ⟨P3, 0, none⟩)), (.int .i64 2), (.pointer (some ⟨P4, 0, none⟩)), (.int .i64 2), (.pointer (some ⟨P5, 0, none⟩)), (.int .i64 0), (.pointer (some ⟨P6, 0, none⟩)), (.pointer (some ⟨P7, 0, none⟩)), (.int .i64 0), v7, v9, undef, undef, undef, undef, undef, undef, undef, undef, undef, undef, undef, undef, undef, undef, (.tuple #[(mxV 48 48 o1 l1.length k1), .int .i64 0]), (.tuple #[(mxV 48 48 o1 l1.length k1), .int .i64 0]), (mxV 48 48 o1 l1.length k1), (.int .i64 0), (.tuple #[(mxV 0 0 o2 l2.length k2), .int .i64 2]), (.tuple #[(mxV 0 0 o2 l2.length k2), .int .i64 2]), (mxV 0 0 o2 l2.length k2), (.int .i64 2), (.tuple #[(mxV 0 0 o3 l3.length k3), .int .i64 2]), (.tuple #[(mxV 0 0 o3 l3.length k3), .int .i64 2]), (mxV 0 0 o3 l3.length k3), (.int .i64 2), (.tuple #[(mxV 0 0 o4 l4.length k4), .int .i64 2]), (.tuple #[(mxV 0 0 o4 l4.length k4), .int .i64 2]), (mxV 0 0 o4 l4.length k4), (.int .i64 2), (.tuple #[(mxV 2 0 o5 l5.length k5), .int .i64 0]), (.tuple #[(mxV 2 0 o5 l5.length k5), .int .i64 0]), (mxV 2 0 o5 l5.length k5), (.int .i64 0), (.int .i64 0), (.bool false), (.bool false), (.pointer (some ⟨P1, 2, none⟩)), (.slice o1 l1.length k1), (.int .i64 l1.length), (.bool false), (.bool false), (.bool false), (mxV 0 0 o2 l2.length k2), (.int .i64 2), (mxV 0 0 none 0 0), (.bool true), (.bool false), (.bool false), (.bool false), (mxV 0 0 o3 l3.length k3), (.int .i64 2), (mxV 0 0 none 0 0), (.bool true), (.bool false), (.bool false), (.bool false), (mxV 0 0 o4 l4.length k4), (.int .i64 2), (mxV 0 0 none 0 0), (.bool true), (.bool false), (.bool false), (.bool false), (mxV 2 0 o5 l5.length k5), (.int .i64 0), (mxV 2 0 none 0 0), (.bool true), (.bool false), (.bool false), (.slice (some ⟨Q6, 0, none⟩) 3 3), (mxV 3 1 (some ⟨Q6, 0, none⟩) 3 3), (.tuple #[(mxV 1 1 o7 l7.length k7), .int .i64 0]), (.slice (some ⟨G7, 0, none⟩) 3 3), (mxV 1 3 (some ⟨G7, 0, none⟩) 3 3), (mxV 3 1 (some ⟨Q6, 0, none⟩) 3 3), (.tuple #[(mxV 1 1 o7 l7.length k7), .int .i64 0]), (mxV 1 1 o7 l7.length k7), (.int .i64 0), v4, v0, v1, v2, v3, v5, v6, undef, undef, undef, undef, undef, undef, undef, undef, undef, undef, undef, undef, undef, undef, undef, undef, undef, undef, undef, undef, undef, undef, undef, undef, undef, undef, undef, undef, undef, undef, undef, undef, undef, undef, undef, undef, undef, undef, undef, undef, undef, undef, undef, undef, undef, undef, undef, undef, undef, undef, undef, undef, undef, undef, undef, undef, undef, undef, undef, undef, undef, undef, undef, undef, undef, undef, undef, undef, undef, undef, undef, undef, undef, undef, undef, undef, undef, undef, undef, undef, undef, undef, undef, undef, undef, undef, undef, undef, undef, undef, undef, undef, undef, undef, undef, undef, undef, undef, undef, undef, undef, undef, undef, undef, undef, undef, undef, undef, undef, undef, undef, undef, undef, undef, undef, undef, undef, undef, undef, undef, undef], []⟩ ∧ MulS U7 [4845873199050653696, 14069245235905429504, 4607182418800017408] [some 4607182418800017408] (some ⟨Q6, 0, none⟩) L w' v0 v1 v2 v3 v4 v5 v6 v7 v9 g P zo zc zs) ?_ ?_ ?_
  · refine ⟨undef, undef, undef, undef, undef, undef, undef, undef, undef, 0, 0, none, 0, [], rfl, ?_⟩
    have nn : ∀ i, ¬ On (Array.replicate 10 false) i := fun i => on_none
    exact ⟨(Below.refl _ _).drew, fun h => absurd h (nn _), fun h => absurd h (nn _), fun h => absurd h (nn _), fun h => absurd h (nn _), fun h => absurd h (nn _), fun h => absurd h (nn _), fun h => absurd h (nn _), fun h => absurd h (nn _), fun h => absurd h (nn _), fun h => absurd h (nn _), fun h => absurd h (nn _), fun h => absurd h (nn _), fun h => absurd h (nn _), fun h => absurd h (nn _), fun h => absurd h (nn _), fun h => absurd h (nn _), fun h => absurd h (nn _), fun h => absurd h (nn _), fun h => absurd h (nn _), fun h => absurd h (nn _)⟩
  · rintro L a w' i hL ⟨v0, v1, v2, v3, v4, v5, v6, v7, v9, g, P, zo, zc, zs, rfl, hS⟩ hi
    obtain ⟨h1, h2, h3⟩ := mem_ready hi
    have h1 : i < 10 := h1
    have hL : L.size = 10 := hL
    have hno := not_on (by rw [hL]; exact h1) h2
    have ho := on_set (L := L) (i := i) (by rw [hL]; exact h1)
    have hcs : i = 0 ∨ i = 1 ∨ i = 2 ∨ i = 3 ∨ i = 4 ∨ i = 5 ∨ i = 6 ∨ i = 7 ∨ i = 8 ∨ i = 9 := by omega
    have o : ∀ k, k ≠ i → On (L.setIfInBounds i true) k → On L k := fun k hk h => ((ho k).1 h).resolve_left hk
    have bx7 : On L 7 → P < w'.heap.size := fun h => (hS.r7 h).1.elim fun x hx => hx.elim fun y hy => hy.elim fun z hz => hz.2.2.2.2.2.2
    have hWw := hS.bel.size
    rcases hcs with rfl | rfl | rfl | rfl | rfl | rfl | rfl | rfl | rfl | rfl
    · refine wpOp_free (fun K hK => ?_)
      unfold wpOp
      go_simp
      refine Or.inl ?_
      refine hK _ _ ⟨_, _, _, _, _, _, _, _, _, w'.heap.size, P, zo, zc, zs, rfl, ?_⟩
      exact ⟨hS.bel.trans (((below_one _ _)).mono hS.bel.size), fun _ => rfl, fun _ _ => row_at rfl rfl, fun h => absurd (hS.c1 (o 1 (by decide) h)) hno, fun h => hS.d2 (o 2 (by decide) h), fun h => absurd ((hS.c3 (o 3 (by decide) h)).1) hno, fun h => absurd ((hS.c3 (o 3 (by decide) h)).1) hno, fun h => absurd ((hS.c4 (o 4 (by decide) h)).1) hno, fun h => absurd ((hS.c5 (o 5 (by decide) h)).1) hno, fun h => absurd ((hS.c6 (o 6 (by decide) h)).1) hno, fun h => hS.d7 (o 7 (by decide) h), fun h => ⟨((hS.r7 (o 7 (by decide) h)).1.elim fun x hx => hx.elim fun y hy => hy.elim fun z hz => ⟨x, y, z, hz.alloc _⟩), (hS.r7 (o 7 (by decide) h)).2.1, fun h' => (hS.r7 (o 7 (by decide) h)).2.2 (o 3 (by decide) h')⟩, fun h => absurd ((hS.c8 (o 8 (by decide) h)).1) hno, fun h => absurd ((hS.c9 (o 9 (by decide) h)).1) hno, fun h => absurd (hS.c1 (o 1 (by decide) h)) hno, fun h => absurd ((hS.c3 (o 3 (by decide) h)).1) hno, fun h => absurd ((hS.c4 (o 4 (by decide) h)).1) hno, fun h => absurd ((hS.c5 (o 5 (by decide) h)).1) hno, fun h => absurd ((hS.c6 (o 6 (by decide) h)).1) hno, fun h => absurd ((hS.c8 (o 8 (by decide) h)).1) hno, fun h => absurd ((hS.c9 (o 9 (by decide) h)).1) hno⟩
    · have dn0 := ready_dep hi 0 (by kernel_rfl)
      obtain rfl := hS.d0 dn0
      refine wpOp_free (fun K hK => ?_)
      unfold wpOp
      go_simp
      refine Or.inl ?_
      refine (lof_any 1 3 _ 3 3 _).mono (fun e wq => ?_)
      rintro ⟨rfl, bq⟩
      refine hK _ _ ⟨_, _, _, _, _, _, _, _, _, g, P, zo, zc, zs, rfl, ?_⟩
      exact ⟨hS.bel.trans ((bq).mono hS.bel.size), fun h => hS.d0 (o 0 (by decide) h), fun h h' => (hS.r0 (o 0 (by decide) h) (fun q => h' ((ho 3).2 (Or.inr q)))).below bq, fun _ => rfl, fun h => hS.d2 (o 2 (by decide) h), fun h => absurd ((hS.c3 (o 3 (by decide) h)).2.1) hno, fun h => absurd ((hS.c3 (o 3 (by decide) h)).2.1) hno, fun h => absurd ((hS.c4 (o 4 (by decide) h)).2.1) hno, fun h => absurd ((hS.c5 (o 5 (by decide) h)).2.1) hno, fun h => absurd ((hS.c6 (o 6 (by decide) h)).2.1) hno, fun h => hS.d7 (o 7 (by decide) h), fun h => ⟨((hS.r7 (o 7 (by decide) h)).1.elim fun x hx => hx.elim fun y hy => hy.elim fun z hz => ⟨x, y, z, hz.below bq⟩), (hS.r7 (o 7 (by decide) h)).2.1, fun h' => (hS.r7 (o 7 (by decide) h)).2.2 (o 3 (by decide) h')⟩, fun h => absurd ((hS.c8 (o 8 (by decide) h)).2.1) hno, fun h => absurd ((hS.c9 (o 9 (by decide) h)).2.1) hno, fun _ => (ho 0).2 (Or.inr (dn0)), fun h => absurd ((hS.c3 (o 3 (by decide) h)).2.1) hno, fun h => absurd ((hS.c4 (o 4 (by decide) h)).2.1) hno, fun h => absurd ((hS.c5 (o 5 (by decide) h)).2.1) hno, fun h => absurd ((hS.c6 (o 6 (by decide) h)).2.1) hno, fun h => absurd ((hS.c8 (o 8 (by decide) h)).2.1) hno, fun h => absurd ((hS.c9 (o 9 (by decide) h)).2.1) hno⟩
    · obtain ⟨a0, a1, a2, _⟩ := b6.below hS.bel
      refine wpOp_free (fun K hK => ?_)
      unfold wpOp
      go_simp
      refine Or.inl ?_
      refine hK _ _ ⟨_, _, _, _, _, _, _, _, _, g, P, zo, zc, zs, rfl, ?_⟩
      exact ⟨hS.bel, fun h => hS.d0 (o 0 (by decide) h), fun h h' => hS.r0 (o 0 (by decide) h) (fun q => h' ((ho 3).2 (Or.inr q))), fun h => hS.d1 (o 1 (by decide) h), fun _ => rfl, fun h => absurd ((hS.c3 (o 3 (by decide) h)).2.2) hno, fun h => absurd ((hS.c3 (o 3 (by decide) h)).2.2) hno, fun h => absurd ((hS.c4 (o 4 (by decide) h)).2.2.1) hno, fun h => absurd ((hS.c5 (o 5 (by decide) h)).2.2.1) hno, fun h => absurd ((hS.c6 (o 6 (by decide) h)).2.2.1) hno, fun h => hS.d7 (o 7 (by decide) h), fun h => ⟨((hS.r7 (o 7 (by decide) h)).1.elim fun x hx => hx.elim fun y hy => hy.elim fun z hz => ⟨x, y, z, hz⟩), (hS.r7 (o 7 (by decide) h)).2.1, fun h' => (hS.r7 (o 7 (by decide) h)).2.2 (o 3 (by decide) h')⟩, fun h => absurd ((hS.c8 (o 8 (by decide) h)).2.2.1) hno, fun h => absurd ((hS.c9 (o 9 (by decide) h)).2.2.1) hno, fun h => (ho 0).2 (Or.inr (hS.c1 (o 1 (by decide) h))), fun h => absurd ((hS.c3 (o 3 (by decide) h)).2.2) hno, fun h => absurd ((hS.c4 (o 4 (by decide) h)).2.2.1) hno, fun h => absurd ((hS.c5 (o 5 (by decide) h)).2.2.1) hno, fun h => absurd ((hS.c6 (o 6 (by decide) h)).2.2.1) hno, fun h => absurd ((hS.c8 (o 8 (by decide) h)).2.2.1) hno, fun h => absurd ((hS.c9 (o 9 (by decide) h)).2.2.1) hno⟩
    · have dn1 := ready_dep hi 1 (by kernel_rfl)
      have dn2 := ready_dep hi 2 (by kernel_rfl)
      have dn0 := hS.c1 dn1
      have hrow := hS.r0 dn0 hno
      obtain rfl := hS.d1 dn1
      obtain rfl := hS.d2 dn2
      refine wpOp_free (fun K hK => ?_)
      unfold wpOp
      go_simp
      refine Or.inl ?_
      refine (cm _ _ hrow (g6.below hS.bel)).mono (fun e wq => ?_)
      rintro ⟨zo', zc', zs', rfl, hv⟩
      have bq := hv.2.2.2.2
      refine hK _ _ ⟨_, _, _, _, _, _, _, _, _, g, P, zo', zc', zs', rfl, ?_⟩
      exact ⟨hS.bel.trans ((bq).mono hS.bel.size), fun h => hS.d0 (o 0 (by decide) h), fun h h' => absurd ((ho 3).2 (Or.inl rfl)) h', fun h => hS.d1 (o 1 (by decide) h), fun h => hS.d2 (o 2 (by decide) h), fun _ => rfl, fun _ => ⟨hv.1, hv.2.1, row_lt hv.2.1 (by rw [hv.1.1]; decide)⟩, fun h => absurd ((hS.c4 (o 4 (by decide) h)).2.2.2) hno, fun h => absurd ((hS.c5 (o 5 (by decide) h)).2.2.2.1) hno, fun h => absurd ((hS.c6 (o 6 (by decide) h)).2.2.2.1) hno, fun h => hS.d7 (o 7 (by decide) h), fun h => ⟨((hS.r7 (o 7 (by decide) h)).1.elim fun x hx => hx.elim fun y hy => hy.elim fun z hz => ⟨x, y, z, hz.below bq⟩), (hS.r7 (o 7 (by decide) h)).2.1, fun _ q e => (by have := bx7 (o 7 (by decide) h); have := hv.2.2.2.1 q e; omega)⟩, fun h => absurd ((hS.c8 (o 8 (by decide) h)).2.2.2.1) hno, fun h => absurd ((hS.c9 (o 9 (by decide) h)).2.2.2.1) hno, fun h => (ho 0).2 (Or.inr (hS.c1 (o 1 (by decide) h))), fun _ => ⟨(ho 0).2 (Or.inr (hS.c1 dn1)), (ho 1).2 (Or.inr (dn1)), (ho 2).2 (Or.inr (dn2))⟩, fun h => absurd ((hS.c4 (o 4 (by decide) h)).2.2.2) hno, fun h => absurd ((hS.c5 (o 5 (by decide) h)).2.2.2.1) hno, fun h => absurd ((hS.c6 (o 6 (by decide) h)).2.2.2.1) hno, fun h => absurd ((hS.c8 (o 8 (by decide) h)).2.2.2.1) hno, fun h => absurd ((hS.c9 (o 9 (by decide) h)).2.2.2.1) hno⟩
    · have dn3 := ready_dep hi 3 (by kernel_rfl)
      obtain rfl := hS.d3 dn3
      refine wpOp_free (fun K hK => ?_)
      unfold wpOp
      go_simp
      refine Or.inl ?_
      refine hK _ _ ⟨_, _, _, _, _, _, _, _, _, g, P, zo, zc, zs, rfl, ?_⟩
      exact ⟨hS.bel, fun h => hS.d0 (o 0 (by decide) h), fun h h' => hS.r0 (o 0 (by decide) h) (fun q => h' ((ho 3).2 (Or.inr q))), fun h => hS.d1 (o 1 (by decide) h), fun h => hS.d2 (o 2 (by decide) h), fun h => hS.d3 (o 3 (by decide) h), fun h => hS.r3 (o 3 (by decide) h), fun _ => rfl, fun h => absurd ((hS.c5 (o 5 (by decide) h)).2.2.2.2) hno, fun h => absurd ((hS.c6 (o 6 (by decide) h)).2.2.2.2) hno, fun h => hS.d7 (o 7 (by decide) h), fun h => ⟨((hS.r7 (o 7 (by decide) h)).1.elim fun x hx => hx.elim fun y hy => hy.elim fun z hz => ⟨x, y, z, hz⟩), (hS.r7 (o 7 (by decide) h)).2.1, fun h' => (hS.r7 (o 7 (by decide) h)).2.2 (o 3 (by decide) h')⟩, fun h => absurd ((hS.c8 (o 8 (by decide) h)).2.2.2.2.1) hno, fun h => absurd ((hS.c9 (o 9 (by decide) h)).2.2.2.2.1) hno, fun h => (ho 0).2 (Or.inr (hS.c1 (o 1 (by decide) h))), fun h => ⟨(ho 0).2 (Or.inr ((hS.c3 (o 3 (by decide) h)).1)), (ho 1).2 (Or.inr ((hS.c3 (o 3 (by decide) h)).2.1)), (ho 2).2 (Or.inr ((hS.c3 (o 3 (by decide) h)).2.2))⟩, fun _ => ⟨(ho 0).2 (Or.inr ((hS.c3 dn3).1)), (ho 1).2 (Or.inr ((hS.c3 dn3).2.1)), (ho 2).2 (Or.inr ((hS.c3 dn3).2.2)), (ho 3).2 (Or.inr (dn3))⟩, fun h => absurd ((hS.c5 (o 5 (by decide) h)).2.2.2.2) hno, fun h => absurd ((hS.c6 (o 6 (by decide) h)).2.2.2.2) hno, fun h => absurd ((hS.c8 (o 8 (by decide) h)).2.2.2.2.1) hno, fun h => absurd ((hS.c9 (o 9 (by decide) h)).2.2.2.2.1) hno⟩
    · have dn4 := ready_dep hi 4 (by kernel_rfl)
      obtain rfl := hS.d4 dn4
      refine wpOp_free (fun K hK => ?_)
      unfold wpOp
      go_simp
      refine Or.inl ?_
      refine hK _ _ ⟨_, _, _, _, _, _, _, _, _, g, P, zo, zc, zs, rfl, ?_⟩
      exact ⟨hS.bel, fun h => hS.d0 (o 0 (by decide) h), fun h h' => hS.r0 (o 0 (by decide) h) (fun q => h' ((ho 3).2 (Or.inr q))), fun h => hS.d1 (o 1 (by decide) h), fun h => hS.d2 (o 2 (by decide) h), fun h => hS.d3 (o 3 (by decide) h), fun h => hS.r3 (o 3 (by decide) h), fun h => hS.d4 (o 4 (by decide) h), fun _ => rfl, fun h => hS.d6 (o 6 (by decide) h), fun h => hS.d7 (o 7 (by decide) h), fun h => ⟨((hS.r7 (o 7 (by decide) h)).1.elim fun x hx => hx.elim fun y hy => hy.elim fun z hz => ⟨x, y, z, hz⟩), (hS.r7 (o 7 (by decide) h)).2.1, fun h' => (hS.r7 (o 7 (by decide) h)).2.2 (o 3 (by decide) h')⟩, fun h => absurd ((hS.c8 (o 8 (by decide) h)).2.2.2.2.2.1) hno, fun h => hS.d9 (o 9 (by decide) h), fun h => (ho 0).2 (Or.inr (hS.c1 (o 1 (by decide) h))), fun h => ⟨(ho 0).2 (Or.inr ((hS.c3 (o 3 (by decide) h)).1)), (ho 1).2 (Or.inr ((hS.c3 (o 3 (by decide) h)).2.1)), (ho 2).2 (Or.inr ((hS.c3 (o 3 (by decide) h)).2.2))⟩, fun h => ⟨(ho 0).2 (Or.inr ((hS.c4 (o 4 (by decide) h)).1)), (ho 1).2 (Or.inr ((hS.c4 (o 4 (by decide) h)).2.1)), (ho 2).2 (Or.inr ((hS.c4 (o 4 (by decide) h)).2.2.1)), (ho 3).2 (Or.inr ((hS.c4 (o 4 (by decide) h)).2.2.2))⟩, fun _ => ⟨(ho 0).2 (Or.inr ((hS.c4 dn4).1)), (ho 1).2 (Or.inr ((hS.c4 dn4).2.1)), (ho 2).2 (Or.inr ((hS.c4 dn4).2.2.1)), (ho 3).2 (Or.inr ((hS.c4 dn4).2.2.2)), (ho 4).2 (Or.inr (dn4))⟩, fun h => ⟨(ho 0).2 (Or.inr ((hS.c6 (o 6 (by decide) h)).1)), (ho 1).2 (Or.inr ((hS.c6 (o 6 (by decide) h)).2.1)), (ho 2).2 (Or.inr ((hS.c6 (o 6 (by decide) h)).2.2.1)), (ho 3).2 (Or.inr ((hS.c6 (o 6 (by decide) h)).2.2.2.1)), (ho 4).2 (Or.inr ((hS.c6 (o 6 (by decide) h)).2.2.2.2))⟩, fun h => absurd ((hS.c8 (o 8 (by decide) h)).2.2.2.2.2.1) hno, fun h => ⟨(ho 0).2 (Or.inr ((hS.c9 (o 9 (by decide) h)).1)), (ho 1).2 (Or.inr ((hS.c9 (o 9 (by decide) h)).2.1)), (ho 2).2 (Or.inr ((hS.c9 (o 9 (by decide) h)).2.2.1)), (ho 3).2 (Or.inr ((hS.c9 (o 9 (by decide) h)).2.2.2.1)), (ho 4).2 (Or.inr ((hS.c9 (o 9 (by decide) h)).2.2.2.2.1)), (ho 6).2 (Or.inr ((hS.c9 (o 9 (by decide) h)).2.2.2.2.2))⟩⟩
    · have dn4 := ready_dep hi 4 (by kernel_rfl)
      obtain rfl := hS.d4 dn4
      refine wpOp_free (fun K hK => ?_)
      unfold wpOp
      go_simp
      refine Or.inl ?_
      refine hK _ _ ⟨_, _, _, _, _, _, _, _, _, g, P, zo, zc, zs, rfl, ?_⟩
      exact ⟨hS.bel, fun h => hS.d0 (o 0 (by decide) h), fun h h' => hS.r0 (o 0 (by decide) h) (fun q => h' ((ho 3).2 (Or.inr q))), fun h => hS.d1 (o 1 (by decide) h), fun h => hS.d2 (o 2 (by decide) h), fun h => hS.d3 (o 3 (by decide) h), fun h => hS.r3 (o 3 (by decide) h), fun h => hS.d4 (o 4 (by decide) h), fun h => hS.d5 (o 5 (by decide) h), fun _ => rfl, fun h => hS.d7 (o 7 (by decide) h), fun h => ⟨((hS.r7 (o 7 (by decide) h)).1.elim fun x hx => hx.elim fun y hy => hy.elim fun z hz => ⟨x, y, z, hz⟩), (hS.r7 (o 7 (by decide) h)).2.1, fun h' => (hS.r7 (o 7 (by decide) h)).2.2 (o 3 (by decide) h')⟩, fun h => hS.d8 (o 8 (by decide) h), fun h => absurd ((hS.c9 (o 9 (by decide) h)).2.2.2.2.2) hno, fun h => (ho 0).2 (Or.inr (hS.c1 (o 1 (by decide) h))), fun h => ⟨(ho 0).2 (Or.inr ((hS.c3 (o 3 (by decide) h)).1)), (ho 1).2 (Or.inr ((hS.c3 (o 3 (by decide) h)).2.1)), (ho 2).2 (Or.inr ((hS.c3 (o 3 (by decide) h)).2.2))⟩, fun h => ⟨(ho 0).2 (Or.inr ((hS.c4 (o 4 (by decide) h)).1)), (ho 1).2 (Or.inr ((hS.c4 (o 4 (by decide) h)).2.1)), (ho 2).2 (Or.inr ((hS.c4 (o 4 (by decide) h)).2.2.1)), (ho 3).2 (Or.inr ((hS.c4 (o 4 (by decide) h)).2.2.2))⟩, fun h => ⟨(ho 0).2 (Or.inr ((hS.c5 (o 5 (by decide) h)).1)), (ho 1).2 (Or.inr ((hS.c5 (o 5 (by decide) h)).2.1)), (ho 2).2 (Or.inr ((hS.c5 (o 5 (by decide) h)).2.2.1)), (ho 3).2 (Or.inr ((hS.c5 (o 5 (by decide) h)).2.2.2.1)), (ho 4).2 (Or.inr ((hS.c5 (o 5 (by decide) h)).2.2.2.2))⟩, fun _ => ⟨(ho 0).2 (Or.inr ((hS.c4 dn4).1)), (ho 1).2 (Or.inr ((hS.c4 dn4).2.1)), (ho 2).2 (Or.inr ((hS.c4 dn4).2.2.1)), (ho 3).2 (Or.inr ((hS.c4 dn4).2.2.2)), (ho 4).2 (Or.inr (dn4))⟩, fun h => ⟨(ho 0).2 (Or.inr ((hS.c8 (o 8 (by decide) h)).1)), (ho 1).2 (Or.inr ((hS.c8 (o 8 (by decide) h)).2.1)), (ho 2).2 (Or.inr ((hS.c8 (o 8 (by decide) h)).2.2.1)), (ho 3).2 (Or.inr ((hS.c8 (o 8 (by decide) h)).2.2.2.1)), (ho 4).2 (Or.inr ((hS.c8 (o 8 (by decide) h)).2.2.2.2.1)), (ho 5).2 (Or.inr ((hS.c8 (o 8 (by decide) h)).2.2.2.2.2.1)), (ho 7).2 (Or.inr ((hS.c8 (o 8 (by decide) h)).2.2.2.2.2.2))⟩, fun h => absurd ((hS.c9 (o 9 (by decide) h)).2.2.2.2.2) hno⟩
    · refine wpOp_free (fun K hK => ?_)
      unfold wpOp
      go_simp
      refine Or.inl ?_
      refine hK _ _ ⟨_, _, _, _, _, _, _, _, _, g, w'.heap.size, zo, zc, zs, rfl, ?_⟩
      exact ⟨hS.bel.trans (((below_one _ _)).mono hS.bel.size), fun h => hS.d0 (o 0 (by decide) h), fun h h' => (hS.r0 (o 0 (by decide) h) (fun q => h' ((ho 3).2 (Or.inr q)))).below (below_one _ _), fun h => hS.d1 (o 1 (by decide) h), fun h => hS.d2 (o 2 (by decide) h), fun h => hS.d3 (o 3 (by decide) h), fun h => ⟨(hS.r3 (o 3 (by decide) h)).1, (hS.r3 (o 3 (by decide) h)).2.1.below (below_one _ _), fun q e => Nat.lt_of_lt_of_le ((hS.r3 (o 3 (by decide) h)).2.2 q e) ((below_one _ _)).size⟩, fun h => hS.d4 (o 4 (by decide) h), fun h => hS.d5 (o 5 (by decide) h), fun h => hS.d6 (o 6 (by decide) h), fun _ => rfl, fun _ => ⟨⟨_, _, _, B3.new _ _ _ _ _⟩, hWw, fun h' q e => Nat.ne_of_lt ((hS.r3 (o 3 (by decide) h')).2.2 q e)⟩, fun h => absurd ((hS.c8 (o 8 (by decide) h)).2.2.2.2.2.2) hno, fun h => hS.d9 (o 9 (by decide) h), fun h => (ho 0).2 (Or.inr (hS.c1 (o 1 (by decide) h))), fun h => ⟨(ho 0).2 (Or.inr ((hS.c3 (o 3 (by decide) h)).1)), (ho 1).2 (Or.inr ((hS.c3 (o 3 (by decide) h)).2.1)), (ho 2).2 (Or.inr ((hS.c3 (o 3 (by decide) h)).2.2))⟩, fun h => ⟨(ho 0).2 (Or.inr ((hS.c4 (o 4 (by decide) h)).1)), (ho 1).2 (Or.inr ((hS.c4 (o 4 (by decide) h)).2.1)), (ho 2).2 (Or.inr ((hS.c4 (o 4 (by decide) h)).2.2.1)), (ho 3).2 (Or.inr ((hS.c4 (o 4 (by decide) h)).2.2.2))⟩, fun h => ⟨(ho 0).2 (Or.inr ((hS.c5 (o 5 (by decide) h)).1)), (ho 1).2 (Or.inr ((hS.c5 (o 5 (by decide) h)).2.1)), (ho 2).2 (Or.inr ((hS.c5 (o 5 (by decide) h)).2.2.1)), (ho 3).2 (Or.inr ((hS.c5 (o 5 (by decide) h)).2.2.2.1)), (ho 4).2 (Or.inr ((hS.c5 (o 5 (by decide) h)).2.2.2.2))⟩, fun h => ⟨(ho 0).2 (Or.inr ((hS.c6 (o 6 (by decide) h)).1)), (ho 1).2 (Or.inr ((hS.c6 (o 6 (by decide) h)).2.1)), (ho 2).2 (Or.inr ((hS.c6 (o 6 (by decide) h)).2.2.1)), (ho 3).2 (Or.inr ((hS.c6 (o 6 (by decide) h)).2.2.2.1)), (ho 4).2 (Or.inr ((hS.c6 (o 6 (by decide) h)).2.2.2.2))⟩, fun h => absurd ((hS.c8 (o 8 (by decide) h)).2.2.2.2.2.2) hno, fun h => ⟨(ho 0).2 (Or.inr ((hS.c9 (o 9 (by decide) h)).1)), (ho 1).2 (Or.inr ((hS.c9 (o 9 (by decide) h)).2.1)), (ho 2).2 (Or.inr ((hS.c9 (o 9 (by decide) h)).2.2.1)), (ho 3).2 (Or.inr ((hS.c9 (o 9 (by decide) h)).2.2.2.1)), (ho 4).2 (Or.inr ((hS.c9 (o 9 (by decide) h)).2.2.2.2.1)), (ho 6).2 (Or.inr ((hS.c9 (o 9 (by decide) h)).2.2.2.2.2))⟩⟩
    · have dn5 := ready_dep hi 5 (by kernel_rfl)
      have dn7 := ready_dep hi 7 (by kernel_rfl)
      have dn3 := (hS.c5 dn5).2.2.2.1
      obtain ⟨⟨x, y, z, hbx⟩, hWP, hzP⟩ := hS.r7 dn7
      obtain rfl := hS.d5 dn5
      obtain rfl := hS.d7 dn7
      obtain ⟨c0, c1, c2, f0, f1, f2, _⟩ := id hbx
      refine wpOp_free (fun K hK => ?_)
      unfold wpOp
      go_simp
      refine Or.inl ?_
      refine hK _ _ ⟨_, _, _, _, _, _, _, _, _, g, P, zo, zc, zs, rfl, ?_⟩
      exact ⟨set_three hS.bel hWP _ _ _, fun h => hS.d0 (o 0 (by decide) h), fun h h' => absurd ((ho 3).2 (Or.inr dn3)) h', fun h => hS.d1 (o 1 (by decide) h), fun h => hS.d2 (o 2 (by decide) h), fun h => hS.d3 (o 3 (by decide) h), fun h => ⟨(hS.r3 (o 3 (by decide) h)).1, (hS.r3 (o 3 (by decide) h)).2.1.off3 (hzP dn3) _ _ _, fun q e => Nat.lt_of_lt_of_le ((hS.r3 (o 3 (by decide) h)).2.2 q e) (Nat.le_of_eq (by simp [World.setCell]))⟩, fun h => hS.d4 (o 4 (by decide) h), fun h => hS.d5 (o 5 (by decide) h), fun h => hS.d6 (o 6 (by decide) h), fun h => hS.d7 (o 7 (by decide) h), fun h => ⟨⟨_, _, _, three_put hbx _ _ _⟩, (hS.r7 (o 7 (by decide) h)).2.1, fun h' => (hS.r7 (o 7 (by decide) h)).2.2 (o 3 (by decide) h')⟩, fun _ => three_put hbx _ _ _, fun h => hS.d9 (o 9 (by decide) h), fun h => (ho 0).2 (Or.inr (hS.c1 (o 1 (by decide) h))), fun h => ⟨(ho 0).2 (Or.inr ((hS.c3 (o 3 (by decide) h)).1)), (ho 1).2 (Or.inr ((hS.c3 (o 3 (by decide) h)).2.1)), (ho 2).2 (Or.inr ((hS.c3 (o 3 (by decide) h)).2.2))⟩, fun h => ⟨(ho 0).2 (Or.inr ((hS.c4 (o 4 (by decide) h)).1)), (ho 1).2 (Or.inr ((hS.c4 (o 4 (by decide) h)).2.1)), (ho 2).2 (Or.inr ((hS.c4 (o 4 (by decide) h)).2.2.1)), (ho 3).2 (Or.inr ((hS.c4 (o 4 (by decide) h)).2.2.2))⟩, fun h => ⟨(ho 0).2 (Or.inr ((hS.c5 (o 5 (by decide) h)).1)), (ho 1).2 (Or.inr ((hS.c5 (o 5 (by decide) h)).2.1)), (ho 2).2 (Or.inr ((hS.c5 (o 5 (by decide) h)).2.2.1)), (ho 3).2 (Or.inr ((hS.c5 (o 5 (by decide) h)).2.2.2.1)), (ho 4).2 (Or.inr ((hS.c5 (o 5 (by decide) h)).2.2.2.2))⟩, fun h => ⟨(ho 0).2 (Or.inr ((hS.c6 (o 6 (by decide) h)).1)), (ho 1).2 (Or.inr ((hS.c6 (o 6 (by decide) h)).2.1)), (ho 2).2 (Or.inr ((hS.c6 (o 6 (by decide) h)).2.2.1)), (ho 3).2 (Or.inr ((hS.c6 (o 6 (by decide) h)).2.2.2.1)), (ho 4).2 (Or.inr ((hS.c6 (o 6 (by decide) h)).2.2.2.2))⟩, fun _ => ⟨(ho 0).2 (Or.inr ((hS.c5 dn5).1)), (ho 1).2 (Or.inr ((hS.c5 dn5).2.1)), (ho 2).2 (Or.inr ((hS.c5 dn5).2.2.1)), (ho 3).2 (Or.inr ((hS.c5 dn5).2.2.2.1)), (ho 4).2 (Or.inr ((hS.c5 dn5).2.2.2.2)), (ho 5).2 (Or.inr (dn5)), (ho 7).2 (Or.inr (dn7))⟩, fun h => ⟨(ho 0).2 (Or.inr ((hS.c9 (o 9 (by decide) h)).1)), (ho 1).2 (Or.inr ((hS.c9 (o 9 (by decide) h)).2.1)), (ho 2).2 (Or.inr ((hS.c9 (o 9 (by decide) h)).2.2.1)), (ho 3).2 (Or.inr ((hS.c9 (o 9 (by decide) h)).2.2.2.1)), (ho 4).2 (Or.inr ((hS.c9 (o 9 (by decide) h)).2.2.2.2.1)), (ho 6).2 (Or.inr ((hS.c9 (o 9 (by decide) h)).2.2.2.2.2))⟩⟩
    · have dn6 := ready_dep hi 6 (by kernel_rfl)
      obtain rfl := hS.d6 dn6
      refine wpOp_free (fun K hK => ?_)
      unfold wpOp
      go_simp
      refine Or.inl ?_
      refine hK _ _ ⟨_, _, _, _, _, _, _, _, _, g, P, zo, zc, zs, rfl, ?_⟩
      exact ⟨hS.bel, fun h => hS.d0 (o 0 (by decide) h), fun h h' => hS.r0 (o 0 (by decide) h) (fun q => h' ((ho 3).2 (Or.inr q))), fun h => hS.d1 (o 1 (by decide) h), fun h => hS.d2 (o 2 (by decide) h), fun h => hS.d3 (o 3 (by decide) h), fun h => hS.r3 (o 3 (by decide) h), fun h => hS.d4 (o 4 (by decide) h), fun h => hS.d5 (o 5 (by decide) h), fun h => hS.d6 (o 6 (by decide) h), fun h => hS.d7 (o 7 (by decide) h), fun h => ⟨((hS.r7 (o 7 (by decide) h)).1.elim fun x hx => hx.elim fun y hy => hy.elim fun z hz => ⟨x, y, z, hz⟩), (hS.r7 (o 7 (by decide) h)).2.1, fun h' => (hS.r7 (o 7 (by decide) h)).2.2 (o 3 (by decide) h')⟩, fun h => hS.d8 (o 8 (by decide) h), fun _ => rfl, fun h => (ho 0).2 (Or.inr (hS.c1 (o 1 (by decide) h))), fun h => ⟨(ho 0).2 (Or.inr ((hS.c3 (o 3 (by decide) h)).1)), (ho 1).2 (Or.inr ((hS.c3 (o 3 (by decide) h)).2.1)), (ho 2).2 (Or.inr ((hS.c3 (o 3 (by decide) h)).2.2))⟩, fun h => ⟨(ho 0).2 (Or.inr ((hS.c4 (o 4 (by decide) h)).1)), (ho 1).2 (Or.inr ((hS.c4 (o 4 (by decide) h)).2.1)), (ho 2).2 (Or.inr ((hS.c4 (o 4 (by decide) h)).2.2.1)), (ho 3).2 (Or.inr ((hS.c4 (o 4 (by decide) h)).2.2.2))⟩, fun h => ⟨(ho 0).2 (Or.inr ((hS.c5 (o 5 (by decide) h)).1)), (ho 1).2 (Or.inr ((hS.c5 (o 5 (by decide) h)).2.1)), (ho 2).2 (Or.inr ((hS.c5 (o 5 (by decide) h)).2.2.1)), (ho 3).2 (Or.inr ((hS.c5 (o 5 (by decide) h)).2.2.2.1)), (ho 4).2 (Or.inr ((hS.c5 (o 5 (by decide) h)).2.2.2.2))⟩, fun h => ⟨(ho 0).2 (Or.inr ((hS.c6 (o 6 (by decide) h)).1)), (ho 1).2 (Or.inr ((hS.c6 (o 6 (by decide) h)).2.1)), (ho 2).2 (Or.inr ((hS.c6 (o 6 (by decide) h)).2.2.1)), (ho 3).2 (Or.inr ((hS.c6 (o 6 (by decide) h)).2.2.2.1)), (ho 4).2 (Or.inr ((hS.c6 (o 6 (by decide) h)).2.2.2.2))⟩, fun h => ⟨(ho 0).2 (Or.inr ((hS.c8 (o 8 (by decide) h)).1)), (ho 1).2 (Or.inr ((hS.c8 (o 8 (by decide) h)).2.1)), (ho 2).2 (Or.inr ((hS.c8 (o 8 (by decide) h)).2.2.1)), (ho 3).2 (Or.inr ((hS.c8 (o 8 (by decide) h)).2.2.2.1)), (ho 4).2 (Or.inr ((hS.c8 (o 8 (by decide) h)).2.2.2.2.1)), (ho 5).2 (Or.inr ((hS.c8 (o 8 (by decide) h)).2.2.2.2.2.1)), (ho 7).2 (Or.inr ((hS.c8 (o 8 (by decide) h)).2.2.2.2.2.2))⟩, fun _ => ⟨(ho 0).2 (Or.inr ((hS.c6 dn6).1)), (ho 1).2 (Or.inr ((hS.c6 dn6).2.1)), (ho 2).2 (Or.inr ((hS.c6 dn6).2.2.1)), (ho 3).2 (Or.inr ((hS.c6 dn6).2.2.2.1)), (ho 4).2 (Or.inr ((hS.c6 dn6).2.2.2.2)), (ho 6).2 (Or.inr (dn6))⟩⟩
  rintro L a U8 hL ⟨v0, v1, v2, v3, v4, v5, v6, v7, v9, G8, P8, o8, k8, l8, rfl, hS⟩ hnone
  have hd := all_done hL hnone (by kernel_rfl)
  have od := fun i (h : i < 10) => hd i h
  obtain rfl := hS.d0 (od 0 (by omega))
  obtain rfl := hS.d1 (od 1 (by omega))
  obtain rfl := hS.d2 (od 2 (by omega))
  obtain rfl := hS.d3 (od 3 (by omega))
  obtain rfl := hS.d4 (od 4 (by omega))
  obtain rfl := hS.d5 (od 5 (by omega))
  obtain rfl := hS.d6 (od 6 (by omega))
  obtain rfl := hS.d7 (od 7 (by omega))
  obtain rfl := hS.d9 (od 9 (by omega))
  have b8 := hS.d8 (od 8 (by omega))
  obtain ⟨n8, g8, _⟩ := hS.r3 (od 3 (by omega))
  have X1 := hS.bel
  clear hS hd od hnone hL
  replace HB := HB.trans (X1.mono HB.size)
  replace b6 := b6.below X1
  replace g6 := g6.below X1
  replace b7 := b7.below X1
  replace g7 := g7.below X1
  clear X1 cm
  go_upto_region 11 with fail
  go_upto_region 12 with (first | (go_at_call 13; refine (nm_mul1 nm_m3 (fw_lit _ (by decide)) (fw_lit _ (by decide)) _ _ _ ga gb).mono ?_; rintro e z9 ⟨o9, k9, l9, rfl, hv⟩; have X0 := Bb.trans (hv.2.2.2.2.mono Bb.size)) | (go_at_call 14; refine (aw_cs _).mono ?_; rintro e w' ⟨rfl, h'⟩; subst w') | (go_at_call_of 12 (Value.slice (some ⟨U8.heap.size, 0, none⟩) 1 1); refine (lof_any _ _ _ _ _ _).mono ?_; rintro e wa9 ⟨rfl, ba⟩; have ga0 := (row_at (w := U8) (xs := [9223372036854775808]) (t := 31) rfl rfl).below ba; have Ba := (below_one U8 _).trans (ba.mono (below_one U8 _).size)) | (go_at_call 12; refine (lof_any _ _ _ _ _ _).mono ?_; rintro e wb9 ⟨rfl, bb⟩; have gb := (row_at (w := wa9) (xs := [4607182418800017408]) (t := 31) rfl rfl).below bb; have ga := (row_on ga0 _).below bb; have Bb := Ba.trans (((below_one wa9 _).trans (bb.mono (below_one wa9 _).size)).mono Ba.size)))
  have X1 := X0.alloc X0.size (.cells #[.int .i64 1, .int .i64 1, .slice o9 l9.length k9] 24)
  replace b6 := b6.below X1
  replace g6 := g6.below X1
  replace b7 := b7.below X1
  replace g7 := g7.below X1
  replace b8 := b8.below X1
  replace g8 := g8.below X1
  replace HB := HB.trans (X1.mono HB.size)
  have b9 := B3.new z9 (.int .i64 1) (.int .i64 1) (.slice o9 l9.length k9) 24
  have g9 := hv.2.1.below (below_one z9 (.cells #[.int .i64 1, .int .i64 1, .slice o9 l9.length k9] 24))
  have n9 := hv.1
  clear X1 X0 hv ga0 ga gb Ba Bb ba bb
  generalize z9.alloc (.cells #[.int .i64 1, .int .i64 1, .slice o9 l9.length k9] 24) = U9 at *
  generalize z9.heap.size = P9 at *
  go_upto_region 13 with (first | (go_at_call 13; refine (nm_mul1 nm_m4 (fw_lit _ (by decide)) (fw_lit _ (by decide)) _ _ _ ga gb).mono ?_; rintro e z10 ⟨o10, k10, l10, rfl, hv⟩; have X0 := Bb.trans (hv.2.2.2.2.mono Bb.size)) | (go_at_call 15; refine (nm_inf _).mono ?_; rintro e w' ⟨rfl, h'⟩; subst w') | (go_at_call_of 12 (Value.slice (some ⟨U9.heap.size, 0, none⟩) 1 1); refine (lof_any _ _ _ _ _ _).mono ?_; rintro e wa10 ⟨rfl, ba⟩; have ga0 := (row_at (w := U9) (xs := [0]) (t := 31) rfl rfl).below ba; have Ba := (below_one U9 _).trans (ba.mono (below_one U9 _).size)) | (go_at_call 12; refine (lof_any _ _ _ _ _ _).mono ?_; rintro e wb10 ⟨rfl, bb⟩; have gb := (row_at (w := wa10) (xs := [9218868437227405312]) (t := 31) rfl rfl).below bb; have ga := (row_on ga0 _).below bb; have Bb := Ba.trans (((below_one wa10 _).trans (bb.mono (below_one wa10 _).size)).mono Ba.size)))
  have X1 := X0.alloc X0.size (.cells #[.int .i64 1, .int .i64 1, .slice o10 l10.length k10] 24)
  replace b6 := b6.below X1
  replace g6 := g6.below X1
  replace b7 := b7.below X1
  replace g7 := g7.below X1
  replace b8 := b8.below X1
  replace g8 := g8.below X1
  replace b9 := b9.below X1
  replace g9 := g9.below X1
  replace HB := HB.trans (X1.mono HB.size)
  have b10 := B3.new z10 (.int .i64 1) (.int .i64 1) (.slice o10 l10.length k10) 24
  have g10 := hv.2.1.below (below_one z10 (.cells #[.int .i64 1, .int .i64 1, .slice o10 l10.length k10] 24))
  have n10 := hv.1
  clear X1 X0 hv ga0 ga gb Ba Bb ba bb
  generalize z10.alloc (.cells #[.int .i64 1, .int .i64 1, .slice o10 l10.length k10] 24) = U10 at *
  generalize z10.heap.size = P10 at *
  go_upto_region 14 with (first | (go_at_call 16; refine (nm_norm 1 2 nm_n1 rfl (fw_lit _ (by decide)) (by decide) _ _ ga0).mono ?_; rintro e U11 ⟨rfl, bz⟩; have X0 := Ba.trans (bz.mono Ba.size)) | (go_at_call_of 12 (Value.slice (some ⟨U10.heap.size, 0, none⟩) 2 2); refine (lof_any _ _ _ _ _ _).mono ?_; rintro e wa ⟨rfl, ba⟩; have ga0 := (row_at (w := U10) (xs := [4845873199050653696, 4607182418800017408]) (t := 31) rfl rfl).below ba; have Ba := (below_one U10 _).trans (ba.mono (below_one U10 _).size)))
  have X1 := X0
  replace b6 := b6.below X1
  replace g6 := g6.below X1
  replace b7 := b7.below X1
  replace g7 := g7.below X1
  replace b8 := b8.below X1
  replace g8 := g8.below X1
  replace b9 := b9.below X1
  replace g9 := g9.below X1
  replace b10 := b10.below X1
  replace g10 := g10.below X1
  replace HB := HB.trans (X1.mono HB.size)
  clear X1 X0 ga0 Ba ba bz
  go_upto_region 15 with (first | (go_at_call 16; refine (nm_norm 1 2 nm_n2 rfl (fw_lit _ (by decide)) (by decide) _ _ ga0).mono ?_; rintro e U12 ⟨rfl, bz⟩; have X0 := Ba.trans (bz.mono Ba.size)) | (go_at_call 17; refine (nm_nan _).mono ?_; rintro e w' ⟨rfl, h'⟩; subst w') | (go_at_call_of 12 (Value.slice (some ⟨U11.heap.size, 0, none⟩) 2 2); refine (lof_any _ _ _ _ _ _).mono ?_; rintro e wa ⟨rfl, ba⟩; have ga0 := (row_at (w := U11) (xs := [4607182418800017408, 9221120237041090561]) (t := 31) rfl rfl).below ba; have Ba := (below_one U11 _).trans (ba.mono (below_one U11 _).size)))
  have X1 := X0
  replace b6 := b6.below X1
  replace g6 := g6.below X1
  replace b7 := b7.below X1
  replace g7 := g7.below X1
  replace b8 := b8.below X1
  replace g8 := g8.below X1
  replace b9 := b9.below X1
  replace g9 := g9.below X1
  replace b10 := b10.below X1
  replace g10 := g10.below X1
  replace HB := HB.trans (X1.mono HB.size)
  clear X1 X0 ga0 Ba ba bz
  go_upto_region 16 with (first | (go_at_call 13; refine (nm_mul0 _).mono ?_; rintro e z13 ⟨o13, k13, l13, rfl, hv⟩; have X0 := B2.trans (hv.2.2.2.2.mono B2.size)) | (go_at_call 12; refine (lof_any _ _ _ _ _ _).mono ?_; rintro e wb ⟨rfl, bb⟩; first | (have B2 := B1.trans (bb.mono B1.size)) | (have B1 := bb)))
  have X1 := X0.alloc X0.size (.cells #[.int .i64 2, .int .i64 3, .slice o13 l13.length k13] 24)
  replace b6 := b6.below X1
  replace g6 := g6.below X1
  replace b7 := b7.below X1
  replace g7 := g7.below X1
  replace b8 := b8.below X1
  replace g8 := g8.below X1
  replace b9 := b9.below X1
  replace g9 := g9.below X1
  replace b10 := b10.below X1
  replace g10 := g10.below X1
  replace HB := HB.trans (X1.mono HB.size)
  have b13 := B3.new z13 (.int .i64 2) (.int .i64 3) (.slice o13 l13.length k13) 24
  have g13 := hv.2.1.below (below_one z13 (.cells #[.int .i64 2, .int .i64 3, .slice o13 l13.length k13] 24))
  have n13 := hv.1
  clear X1 X0 hv B1 B2 bb
  generalize z13.alloc (.cells #[.int .i64 2, .int .i64 3, .slice o13 l13.length k13] 24) = U13 at *
  generalize z13.heap.size = P13 at *
  go_cut [26] from 27 (fun s26 wx => s26 = .bool true ∧ Below U13.heap.size U13 wx)
  case first =>
    have y7 : LN [some 0] [0] := LN_lit rfl (by kernel_rfl)
    have y8 : LN [some 4607182418800017408] [4607182418800017408] := LN_lit rfl (by kernel_rfl)
    have y9 : LN [some 0] [0] := LN_lit rfl (by kernel_rfl)
    have y10 : LN [none] [9221120237041090561] := LN_lit rfl (by kernel_rfl)
    have y13 : LN [some 0, some 0, some 0, some 0, some 0, some 0] [0, 0, 0, 0, 0, 0] := LN_lit rfl (by kernel_rfl)
    refine region_inv (by kernel_rfl) (fun L a w' => ∃ v0 v1 v2 v3 v4 v5 v6 v7 v8 v9 v10 v11 v12 v13 v14 v15 v16 v17 v18 v19 v20 v21 v22 v23 v24 v25 v26 v27 v28 v29 v30 v31 v32 v33 v34 g2' g8' g15' g23' g30', a = ⟨#[(.bool false), (.pointer (some ⟨P1, 0, none⟩)), (.int .i64 0), (.pointer (some ⟨P2, 0, none⟩)), (.int .i64 2), (.pointer (some ⟨P3, 0, none⟩)), (.int .i64 2), (.pointer (some ⟨P4, 0, none⟩)), (.int .i64 2), (.pointer (some ⟨P5, 0, none⟩)), (.int .i64 0), (.pointer (some ⟨P6, 0, none⟩)), (.pointer (some ⟨P7, 0, none⟩)), (.int .i64 0), (.pointer (some ⟨P8, 0, none⟩)), (.int .i64 0), (.pointer (some ⟨P9, 0, none⟩)), (.int .i64 0), (.pointer (some ⟨P10, 0, none⟩)), (.int .i64 0), (.float .f64 4845873199050653697), (.int .i64 0), (.float .f64 0), (.int .i64 5), (.pointer (some ⟨P13, 0, none⟩)), (.int .i64 0), v34, undef, undef, undef, (.tuple #[(mxV 48 48 o1 l1.length k1), .int .i64 0]), (.tuple #[(mxV 48 48 o1 l1.length k1), .int .i64 0]), (mxV 48 48 o1 l1.length k1), (.int .i64 0), (.tuple #[(mxV 0 0 o2 l2.length k2), .int .i64 2]), (.tuple #[(mxV 0 0 o2 l2.length k2), .int .i64 2]), (mxV 0 0 o2 l2.length k2), (.int .i64 2), (.tuple #[(mxV 0 0 o3 l3.length k3), .int .i64 2]), (.tuple #[(mxV 0 0 o3 l3.length k3), .int .i64 2]), (mxV 0 0 o3 l3.length k3), (.int .i64 2), (.tuple #[(mxV 0 0 o4 l4.length k4), .int .i64 2]), (.tuple #[(mxV 0 0 o4 l4.length k4), .int .i64 2]), (mxV 0 0 o4 l4.length k4), (.int .i64 2), (.tuple #[(mxV 2 0 o5 l5.length k5), .int .i64 0]), (.tuple #[(mxV 2 0 o5 l5.length k5), .int .i64 0]), (mxV 2 0 o5 l5.length k5), (.int .i64 0), (.int .i64 0), (.bool false), (.bool false), (.pointer (some ⟨P1, 2, none⟩)), (.slice o1 l1.length k1), (.int .i64 l1.length), (.bool false), (.bool false), (.bool false), (mxV 0 0 o2 l2.length k2), (.int .i64 2), (mxV 0 0 none 0 0), (.bool true), (.bool false), (.bool false), (.bool false), (mxV 0 0 o3 l3.length k3), (.int .i64 2), (mxV 0 0 none 0 0), (.bool true), (.bool false), (.bool false), (.bool false), (mxV 0 0 o4 l4.length k4), (.int .i64 2), (mxV 0 0 none 0 0), (.bool true), (.bool false), (.bool false), (.bool false), (mxV 2 0 o5 l5.length k5), (.int .i64 0), (mxV 2 0 none 0 0), (.bool true), (.bool false), (.bool false), (.slice (some ⟨Q6, 0, none⟩) 3 3), (mxV 3 1 (some ⟨Q6, 0, none⟩) 3 3), (.tuple #[(mxV 1 1 o7 l7.length k7), .int .i64 0]), (.slice (some ⟨G7, 0, none⟩) 3 3), (mxV 1 3 (some ⟨G7, 0, none⟩) 3 3), (mxV 3 1 (some ⟨Q6, 0, none⟩) 3 3), (.tuple #[(mxV 1 1 o7 l7.length k7), .int .i64 0]), (mxV 1 1 o7 l7.length k7), (.int .i64 0), (.tuple #[(mxV 1 1 o8 l8.length k8), .int .i64 0]), (.slice (some ⟨G8, 0, none⟩) 3 3), (mxV 1 3 (some ⟨G8, 0, none⟩) 3 3), (mxV 3 1 (some ⟨Q6, 0, none⟩) 3 3), (.tuple #[(mxV 1 1 o8 l8.length k8), .int .i64 0]), (mxV 1 1 o8 l8.length k8), (.int .i64 0), (.tuple #[(mxV 1 1 o9 l9.length k9), .int .i64 0]), (.float .f64 9223372036854775808), (.slice (some ⟨U8.heap.size, 0, none⟩) 1 1), (mxV 1 1 (some ⟨U8.heap.size, 0, none⟩) 1 1), (.slice (some ⟨wa9.heap.size, 0, none⟩) 1 1), (mxV 1 1 (some ⟨wa9.heap.size, 0, none⟩) 1 1), (.tuple #[(mxV 1 1 o9 l9.length k9), .int .i64 0]), (mxV 1 1 o9 l9.length k9), (.int .i64 0), (.tuple #[(mxV 1 1 o10 l10.length k10), .int .i64 0]), (.slice (some ⟨U9.heap.size, 0, none⟩) 1 1), (mxV 1 1 (some ⟨U9.heap.size, 0, none⟩) 1 1), (.float .f64 9218868437227405312), (.slice (some ⟨wa10.heap.size, 0, none⟩) 1 1), (mxV 1 1 (some ⟨wa10.heap.size, 0, none⟩) 1 1), (.tuple #[(mxV 1 1 o10 l10.length k10), .int .i64 0]), (mxV 1 1 o10 l10.length k10), (.int .i64 0), (.tuple #[.float .f64 4845873199050653697, .int .i64 0]), (.slice (some ⟨U10.heap.size, 0, none⟩) 2 2), (mxV 1 2 (some ⟨U10.heap.size, 0, none⟩) 2 2), (.tuple #[.float .f64 4845873199050653697, .int .i64 0]), (.float .f64 4845873199050653697), (.int .i64 0), (.tuple #[.float .f64 0, .int .i64 5]), (.float .f64 9221120237041090561), (.slice (some ⟨U11.heap.size, 0, none⟩) 2 2), (mxV 1 2 (some ⟨U11.heap.size, 0, none⟩) 2 2), (.tuple #[.float .f64 0, .int .i64 5]), (.float .f64 0), (.int .i64 5), (.tuple #[(mxV 2 3 o13 l13.length k13), .int .i64 0]), (mxV 2 0 none 0 0), (mxV 0 3 none 0 0), (.tuple #[(mxV 2 3 o13 l13.length k13), .int .i64 0]), (mxV 2 3 o13 l13.length k13), (.int .i64 0), v0, v1, v2, v3, v4, v5, v6, v7, v8, v9, v10, v11, v12, v13, v14, v15, v16, v17, v18, v19, v20, v21, v22, v23, v24, v25, v26, v27, v28, v29, v30, v31, v32, v33, undef, undef, undef, undef, undef, undef, undef, undef, undef, undef, undef, undef, undef, undef, undef, undef, undef, undef, undef, undef, undef, undef, undef, undef, undef, undef, undef, undef, undef, undef, undef, undef, undef, undef, undef, undef, undef, undef, undef, undef, undef, undef, undef, undef, undef, undef, undef, undef, undef, undef], []⟩ ∧ OneS U13 k7 o7 l7 k8 o8 l8 k9 o9 l9 k10 o10 l10 k13 o13 l13 L w' v0 v1 v2 v3 v4 v5 v6 v7 v8 v9 v10 v11 v12 v13 v14 v15 v16 v17 v18 v19 v20 v21 v22 v23 v24 v25 v26 v27 v28 v29 v30 v31 v32 v33 v34 g2' g8' g15' g23' g30') ?_ ?_ ?_
    · refine ⟨undef, undef, undef, undef, undef, undef, undef, undef, undef, undef, undef, undef, undef, undef, undef, undef, undef, undef, undef, undef, undef, undef, undef, undef, undef, undef, undef, undef, undef, undef, undef, undef, undef, undef, undef, 0, 0, 0, 0, 0, rfl, ?_⟩
      have nn : ∀ i, ¬ On (Array.replicate 35 false) i := fun i => on_none
      exact ⟨(Below.refl _ _).drew, fun h => absurd h (nn _), fun h => absurd h (nn _), fun h => absurd h (nn _), fun h => absurd h (nn _), fun h => absurd h (nn _), fun h => absurd h (nn _), fun h => absurd h (nn _), fun h => absurd h (nn _), fun h => absurd h (nn _), fun h => absurd h (nn _), fun h => absurd h (nn _), fun h => absurd h (nn _), fun h => absurd h (nn _), fun h => absurd h (nn _), fun h => absurd h (nn _), fun h => absurd h (nn _), fun h => absurd h (nn _), fun h => absurd h (nn _), fun h => absurd h (nn _), fun h => absurd h (nn _), fun h => absurd h (nn _), fun h => absurd h (nn _), fun h => absurd h (nn _), fun h => absurd h (nn _), fun h => absurd h (nn _), fun h => absurd h (nn _), fun h => absurd h (nn _), fun h => absurd h (nn _), fun h => absurd h (nn _), fun h => absurd h (nn _), fun h => absurd h (nn _), fun h => absurd h (nn _), fun h => absurd h (nn _), fun h => absurd h (nn _), fun h => absurd h (nn _), fun h => absurd h (nn _), fun h => absurd h (nn _), fun h => absurd h (nn _), fun h => absurd h (nn _), fun h => absurd h (nn _), fun h => absurd h (nn _), fun h => absurd h (nn _), fun h => absurd h (nn _), fun h => absurd h (nn _), fun h => absurd h (nn _)⟩
    · rintro L a w' i hL ⟨v0, v1, v2, v3, v4, v5, v6, v7, v8, v9, v10, v11, v12, v13, v14, v15, v16, v17, v18, v19, v20, v21, v22, v23, v24, v25, v26, v27, v28, v29, v30, v31, v32, v33, v34, g2', g8', g15', g23', g30', rfl, hS⟩ hi
      obtain ⟨h1, h2, h3⟩ := mem_ready hi
      have h1 : i < 35 := h1
      have hL : L.size = 35 := hL
      have hno := not_on (by rw [hL]; exact h1) h2
      have ho := on_set (L := L) (i := i) (by rw [hL]; exact h1)
      have hcs : i = 0 ∨ i = 1 ∨ i = 2 ∨ i = 3 ∨ i = 4 ∨ i = 5 ∨ i = 6 ∨ i = 7 ∨ i = 8 ∨ i = 9 ∨ i = 10 ∨ i = 11 ∨ i = 12 ∨ i = 13 ∨ i = 14 ∨ i = 15 ∨ i = 16 ∨ i = 17 ∨ i = 18 ∨ i = 19 ∨ i = 20 ∨ i = 21 ∨ i = 22 ∨ i = 23 ∨ i = 24 ∨ i = 25 ∨ i = 26 ∨ i = 27 ∨ i = 28 ∨ i = 29 ∨ i = 30 ∨ i = 31 ∨ i = 32 ∨ i = 33 ∨ i = 34 := by omega
      have o : ∀ k, k ≠ i → On (L.setIfInBounds i true) k → On L k := fun k hk h => ((ho k).1 h).resolve_left hk
      rcases hcs with rfl | rfl | rfl | rfl | rfl | rfl | rfl | rfl | rfl | rfl | rfl | rfl | rfl | rfl | rfl | rfl | rfl | rfl | rfl | rfl | rfl | rfl | rfl | rfl | rfl | rfl | rfl | rfl | rfl | rfl | rfl | rfl | rfl | rfl | rfl
      · obtain ⟨a0, a1, a2, _⟩ := b7.below hS.bel
        refine wpOp_free (fun K hK => ?_)
        unfold wpOp
        go_simp
        refine Or.inl ?_
        exact hK _ _ ⟨_, _, _, _, _, _, _, _, _, _, _, _, _, _, _, _, _, _, _, _, _, _, _, _, _, _, _, _, _, _, _, _, _, _, _, g2', g8', g15', g23', g30', rfl, one_0 hS ho⟩
      · refine wpOp_free (fun K hK => ?_)
        unfold wpOp
        go_simp
        refine Or.inl ?_
        exact hK _ _ ⟨_, _, _, _, _, _, _, _, _, _, _, _, _, _, _, _, _, _, _, _, _, _, _, _, _, _, _, _, _, _, _, _, _, _, _, g2', g8', g15', g23', g30', rfl, one_1 hS ho⟩
      · refine wpOp_free (fun K hK => ?_)
        unfold wpOp
        go_simp
        refine Or.inl ?_
        exact hK _ _ ⟨_, _, _, _, _, _, _, _, _, _, _, _, _, _, _, _, _, _, _, _, _, _, _, _, _, _, _, _, _, _, _, _, _, _, _, w'.heap.size, g8', g15', g23', g30', rfl, one_2 hS ho (below_one _ _) (row_at rfl rfl) hno⟩
      · have dn2 := ready_dep hi 2 (by kernel_rfl)
        obtain rfl := hS.d2 dn2
        refine wpOp_free (fun K hK => ?_)
        unfold wpOp
        go_simp
        refine Or.inl ?_
        refine (lof_any 1 1 _ 1 1 _).mono (fun e wq => ?_)
        rintro ⟨rfl, bq⟩
        exact hK _ _ ⟨_, _, _, _, _, _, _, _, _, _, _, _, _, _, _, _, _, _, _, _, _, _, _, _, _, _, _, _, _, _, _, _, _, _, _, g2', g8', g15', g23', g30', rfl, one_3 hS ho bq dn2⟩
      · have dn0 := ready_dep hi 0 (by kernel_rfl)
        have dn1 := ready_dep hi 1 (by kernel_rfl)
        have dn3 := ready_dep hi 3 (by kernel_rfl)
        have hrow := hS.r2 (hS.c2 dn3)
        have hrow2 := g7.below hS.bel
        obtain rfl := hS.d0 dn0
        obtain rfl := hS.d1 dn1
        obtain rfl := hS.d3 dn3
        refine wpOp_free (fun K hK => ?_)
        unfold wpOp
        go_simp
        refine Or.inl ?_
        refine (nm_is 1 1 0 n7 y7 rfl o7 _ k7 1 _ hrow2 hrow (by decide)).mono (fun e wq => ?_)
        rintro ⟨rfl, bq⟩
        exact hK _ _ ⟨_, _, _, _, _, _, _, _, _, _, _, _, _, _, _, _, _, _, _, _, _, _, _, _, _, _, _, _, _, _, _, _, _, _, _, g2', g8', g15', g23', g30', rfl, one_4 hS ho bq⟩
      · have dn4 := ready_dep hi 4 (by kernel_rfl)
        obtain rfl := hS.d4 dn4
        refine wpOp_free (fun K hK => ?_)
        unfold wpOp
        go_simp
        refine Or.inl ?_
        exact hK _ _ ⟨_, _, _, _, _, _, _, _, _, _, _, _, _, _, _, _, _, _, _, _, _, _, _, _, _, _, _, _, _, _, _, _, _, _, _, g2', g8', g15', g23', g30', rfl, one_5 hS ho⟩
      · have dn5 := ready_dep hi 5 (by kernel_rfl)
        obtain ⟨a0, a1, a2, _⟩ := b8.below hS.bel
        obtain rfl := hS.d5 dn5
        refine wpOp_free (fun K hK => ?_)
        unfold wpOp
        go_simp
        refine Or.inl ?_
        exact hK _ _ ⟨_, _, _, _, _, _, _, _, _, _, _, _, _, _, _, _, _, _, _, _, _, _, _, _, _, _, _, _, _, _, _, _, _, _, _, g2', g8', g15', g23', g30', rfl, one_6 hS ho⟩
      · have dn5 := ready_dep hi 5 (by kernel_rfl)
        obtain rfl := hS.d5 dn5
        refine wpOp_free (fun K hK => ?_)
        unfold wpOp
        go_simp
        refine Or.inl ?_
        exact hK _ _ ⟨_, _, _, _, _, _, _, _, _, _, _, _, _, _, _, _, _, _, _, _, _, _, _, _, _, _, _, _, _, _, _, _, _, _, _, g2', g8', g15', g23', g30', rfl, one_7 hS ho⟩
      · have dn5 := ready_dep hi 5 (by kernel_rfl)
        obtain rfl := hS.d5 dn5
        refine wpOp_free (fun K hK => ?_)
        unfold wpOp
        go_simp
        refine Or.inl ?_
        exact hK _ _ ⟨_, _, _, _, _, _, _, _, _, _, _, _, _, _, _, _, _, _, _, _, _, _, _, _, _, _, _, _, _, _, _, _, _, _, _, g2', w'.heap.size, g15', g23', g30', rfl, one_8 hS ho (below_one _ _) (row_at rfl rfl) hno⟩
      · have dn5 := ready_dep hi 5 (by kernel_rfl)
        have dn8 := ready_dep hi 8 (by kernel_rfl)
        obtain rfl := hS.d5 dn5
        obtain rfl := hS.d8 dn8
        refine wpOp_free (fun K hK => ?_)
        unfold wpOp
        go_simp
        refine Or.inl ?_
        refine (lof_any 1 1 _ 1 1 _).mono (fun e wq => ?_)
        rintro ⟨rfl, bq⟩
        exact hK _ _ ⟨_, _, _, _, _, _, _, _, _, _, _, _, _, _, _, _, _, _, _, _, _, _, _, _, _, _, _, _, _, _, _, _, _, _, _, g2', g8', g15', g23', g30', rfl, one_9 hS ho bq dn8⟩
      · have dn5 := ready_dep hi 5 (by kernel_rfl)
        have dn6 := ready_dep hi 6 (by kernel_rfl)
        have dn7 := ready_dep hi 7 (by kernel_rfl)
        have dn9 := ready_dep hi 9 (by kernel_rfl)
        have hrow := hS.r8 (hS.c8 dn9)
        have hrow2 := g8.below hS.bel
        obtain rfl := hS.d5 dn5
        obtain rfl := hS.d6 dn6
        obtain rfl := hS.d7 dn7
        obtain rfl := hS.d9 dn9
        refine wpOp_free (fun K hK => ?_)
        unfold wpOp
        go_simp
        refine Or.inl ?_
        refine (nm_is 1 1 0 n8 y8 rfl o8 _ k8 1 _ hrow2 hrow (by decide)).mono (fun e wq => ?_)
        rintro ⟨rfl, bq⟩
        exact hK _ _ ⟨_, _, _, _, _, _, _, _, _, _, _, _, _, _, _, _, _, _, _, _, _, _, _, _, _, _, _, _, _, _, _, _, _, _, _, g2', g8', g15', g23', g30', rfl, one_10 hS ho bq⟩
      · have dn5 := ready_dep hi 5 (by kernel_rfl)
        have dn10 := ready_dep hi 10 (by kernel_rfl)
        obtain rfl := hS.d5 dn5
        obtain rfl := hS.d10 dn10
        refine wpOp_free (fun K hK => ?_)
        unfold wpOp
        go_simp
        refine Or.inl ?_
        exact hK _ _ ⟨_, _, _, _, _, _, _, _, _, _, _, _, _, _, _, _, _, _, _, _, _, _, _, _, _, _, _, _, _, _, _, _, _, _, _, g2', g8', g15', g23', g30', rfl, one_11 hS ho⟩
      · have dn11 := ready_dep hi 11 (by kernel_rfl)
        obtain rfl := hS.d11 dn11
        refine wpOp_free (fun K hK => ?_)
        unfold wpOp
        go_simp
        refine Or.inl ?_
        exact hK _ _ ⟨_, _, _, _, _, _, _, _, _, _, _, _, _, _, _, _, _, _, _, _, _, _, _, _, _, _, _, _, _, _, _, _, _, _, _, g2', g8', g15', g23', g30', rfl, one_12 hS ho⟩
      · have dn12 := ready_dep hi 12 (by kernel_rfl)
        obtain ⟨a0, a1, a2, _⟩ := b9.below hS.bel
        obtain rfl := hS.d12 dn12
        refine wpOp_free (fun K hK => ?_)
        unfold wpOp
        go_simp
        refine Or.inl ?_
        exact hK _ _ ⟨_, _, _, _, _, _, _, _, _, _, _, _, _, _, _, _, _, _, _, _, _, _, _, _, _, _, _, _, _, _, _, _, _, _, _, g2', g8', g15', g23', g30', rfl, one_13 hS ho⟩
      · have dn12 := ready_dep hi 12 (by kernel_rfl)
        obtain rfl := hS.d12 dn12
        refine wpOp_free (fun K hK => ?_)
        unfold wpOp
        go_simp
        refine Or.inl ?_
        exact hK _ _ ⟨_, _, _, _, _, _, _, _, _, _, _, _, _, _, _, _, _, _, _, _, _, _, _, _, _, _, _, _, _, _, _, _, _, _, _, g2', g8', g15', g23', g30', rfl, one_14 hS ho⟩
      · have dn12 := ready_dep hi 12 (by kernel_rfl)
        obtain rfl := hS.d12 dn12
        refine wpOp_free (fun K hK => ?_)
        unfold wpOp
        go_simp
        refine Or.inl ?_
        exact hK _ _ ⟨_, _, _, _, _, _, _, _, _, _, _, _, _, _, _, _, _, _, _, _, _, _, _, _, _, _, _, _, _, _, _, _, _, _, _, g2', g8', w'.heap.size, g23', g30', rfl, one_15 hS ho (below_one _ _) (row_at rfl rfl) hno⟩
      · have dn12 := ready_dep hi 12 (by kernel_rfl)
        have dn15 := ready_dep hi 15 (by kernel_rfl)
        obtain rfl := hS.d12 dn12
        obtain rfl := hS.d15 dn15
        refine wpOp_free (fun K hK => ?_)
        unfold wpOp
        go_simp
        refine Or.inl ?_
        refine (lof_any 1 1 _ 1 1 _).mono (fun e wq => ?_)
        rintro ⟨rfl, bq⟩
        exact hK _ _ ⟨_, _, _, _, _, _, _, _, _, _, _, _, _, _, _, _, _, _, _, _, _, _, _, _, _, _, _, _, _, _, _, _, _, _, _, g2', g8', g15', g23', g30', rfl, one_16 hS ho bq dn15⟩
      · have dn12 := ready_dep hi 12 (by kernel_rfl)
        have dn13 := ready_dep hi 13 (by kernel_rfl)
        have dn14 := ready_dep hi 14 (by kernel_rfl)
        have dn16 := ready_dep hi 16 (by kernel_rfl)
        have hrow := hS.r15 (hS.c15 dn16)
        have hrow2 := g9.below hS.bel
        obtain rfl := hS.d12 dn12
        obtain rfl := hS.d13 dn13
        obtain rfl := hS.d14 dn14
        obtain rfl := hS.d16 dn16
        refine wpOp_free (fun K hK => ?_)
        unfold wpOp
        go_simp
        refine Or.inl ?_
        refine (nm_is 1 1 0 n9 y9 rfl o9 _ k9 1 _ hrow2 hrow (by decide)).mono (fun e wq => ?_)
        rintro ⟨rfl, bq⟩
        exact hK _ _ ⟨_, _, _, _, _, _, _, _, _, _, _, _, _, _, _, _, _, _, _, _, _, _, _, _, _, _, _, _, _, _, _, _, _, _, _, g2', g8', g15', g23', g30', rfl, one_17 hS ho bq⟩
      · have dn12 := ready_dep hi 12 (by kernel_rfl)
        have dn17 := ready_dep hi 17 (by kernel_rfl)
        obtain rfl := hS.d12 dn12
        obtain rfl := hS.d17 dn17
        refine wpOp_free (fun K hK => ?_)
        unfold wpOp
        go_simp
        refine Or.inl ?_
        exact hK _ _ ⟨_, _, _, _, _, _, _, _, _, _, _, _, _, _, _, _, _, _, _, _, _, _, _, _, _, _, _, _, _, _, _, _, _, _, _, g2', g8', g15', g23', g30', rfl, one_18 hS ho⟩
      · have dn18 := ready_dep hi 18 (by kernel_rfl)
        obtain rfl := hS.d18 dn18
        refine wpOp_free (fun K hK => ?_)
        unfold wpOp
        go_simp
        refine Or.inl ?_
        exact hK _ _ ⟨_, _, _, _, _, _, _, _, _, _, _, _, _, _, _, _, _, _, _, _, _, _, _, _, _, _, _, _, _, _, _, _, _, _, _, g2', g8', g15', g23', g30', rfl, one_19 hS ho⟩
      · have dn19 := ready_dep hi 19 (by kernel_rfl)
        obtain ⟨a0, a1, a2, _⟩ := b10.below hS.bel
        obtain rfl := hS.d19 dn19
        refine wpOp_free (fun K hK => ?_)
        unfold wpOp
        go_simp
        refine Or.inl ?_
        exact hK _ _ ⟨_, _, _, _, _, _, _, _, _, _, _, _, _, _, _, _, _, _, _, _, _, _, _, _, _, _, _, _, _, _, _, _, _, _, _, g2', g8', g15', g23', g30', rfl, one_20 hS ho⟩
      · have dn19 := ready_dep hi 19 (by kernel_rfl)
        obtain rfl := hS.d19 dn19
        refine wpOp_free (fun K hK => ?_)
        unfold wpOp
        go_simp
        refine Or.inl ?_
        exact hK _ _ ⟨_, _, _, _, _, _, _, _, _, _, _, _, _, _, _, _, _, _, _, _, _, _, _, _, _, _, _, _, _, _, _, _, _, _, _, g2', g8', g15', g23', g30', rfl, one_21 hS ho⟩
      · have dn19 := ready_dep hi 19 (by kernel_rfl)
        obtain rfl := hS.d19 dn19
        refine wpOp_free (fun K hK => ?_)
        unfold wpOp
        go_simp
        refine Or.inl ?_
        refine (nm_nan _).mono (fun e wq => ?_)
        rintro ⟨rfl, rfl⟩
        exact hK _ _ ⟨_, _, _, _, _, _, _, _, _, _, _, _, _, _, _, _, _, _, _, _, _, _, _, _, _, _, _, _, _, _, _, _, _, _, _, g2', g8', g15', g23', g30', rfl, one_22 hS ho⟩
      · have dn19 := ready_dep hi 19 (by kernel_rfl)
        have dn22 := ready_dep hi 22 (by kernel_rfl)
        obtain rfl := hS.d19 dn19
        obtain rfl := hS.d22 dn22
        refine wpOp_free (fun K hK => ?_)
        unfold wpOp
        go_simp
        refine Or.inl ?_
        exact hK _ _ ⟨_, _, _, _, _, _, _, _, _, _, _, _, _, _, _, _, _, _, _, _, _, _, _, _, _, _, _, _, _, _, _, _, _, _, _, g2', g8', g15', w'.heap.size, g30', rfl, one_23 hS ho (below_one _ _) (row_at rfl rfl) hno⟩
      · have dn19 := ready_dep hi 19 (by kernel_rfl)
        have dn23 := ready_dep hi 23 (by kernel_rfl)
        obtain rfl := hS.d19 dn19
        obtain rfl := hS.d23 dn23
        refine wpOp_free (fun K hK => ?_)
        unfold wpOp
        go_simp
        refine Or.inl ?_
        refine (lof_any 1 1 _ 1 1 _).mono (fun e wq => ?_)
        rintro ⟨rfl, bq⟩
        exact hK _ _ ⟨_, _, _, _, _, _, _, _, _, _, _, _, _, _, _, _, _, _, _, _, _, _, _, _, _, _, _, _, _, _, _, _, _, _, _, g2', g8', g15', g23', g30', rfl, one_24 hS ho bq dn23⟩
      · have dn19 := ready_dep hi 19 (by kernel_rfl)
        have dn20 := ready_dep hi 20 (by kernel_rfl)
        have dn21 := ready_dep hi 21 (by kernel_rfl)
        have dn24 := ready_dep hi 24 (by kernel_rfl)
        have hrow := hS.r23 (hS.c23 dn24)
        have hrow2 := g10.below hS.bel
        obtain rfl := hS.d19 dn19
        obtain rfl := hS.d20 dn20
        obtain rfl := hS.d21 dn21
        obtain rfl := hS.d24 dn24
        refine wpOp_free (fun K hK => ?_)
        unfold wpOp
        go_simp
        refine Or.inl ?_
        refine (nm_is 1 1 0 n10 y10 rfl o10 _ k10 1 _ hrow2 hrow (by decide)).mono (fun e wq => ?_)
        rintro ⟨rfl, bq⟩
        exact hK _ _ ⟨_, _, _, _, _, _, _, _, _, _, _, _, _, _, _, _, _, _, _, _, _, _, _, _, _, _, _, _, _, _, _, _, _, _, _, g2', g8', g15', g23', g30', rfl, one_25 hS ho bq⟩
      · have dn19 := ready_dep hi 19 (by kernel_rfl)
        have dn25 := ready_dep hi 25 (by kernel_rfl)
        obtain rfl := hS.d19 dn19
        obtain rfl := hS.d25 dn25
        refine wpOp_free (fun K hK => ?_)
        unfold wpOp
        go_simp
        refine Or.inl ?_
        exact hK _ _ ⟨_, _, _, _, _, _, _, _, _, _, _, _, _, _, _, _, _, _, _, _, _, _, _, _, _, _, _, _, _, _, _, _, _, _, _, g2', g8', g15', g23', g30', rfl, one_26 hS ho⟩
      · have dn26 := ready_dep hi 26 (by kernel_rfl)
        obtain rfl := hS.d26 dn26
        refine wpOp_free (fun K hK => ?_)
        unfold wpOp
        go_simp
        refine Or.inl ?_
        exact hK _ _ ⟨_, _, _, _, _, _, _, _, _, _, _, _, _, _, _, _, _, _, _, _, _, _, _, _, _, _, _, _, _, _, _, _, _, _, _, g2', g8', g15', g23', g30', rfl, one_27 hS ho⟩
      · have dn27 := ready_dep hi 27 (by kernel_rfl)
        obtain ⟨a0, a1, a2, _⟩ := b13.below hS.bel
        obtain rfl := hS.d27 dn27
        refine wpOp_free (fun K hK => ?_)
        unfold wpOp
        go_simp
        refine Or.inl ?_
        exact hK _ _ ⟨_, _, _, _, _, _, _, _, _, _, _, _, _, _, _, _, _, _, _, _, _, _, _, _, _, _, _, _, _, _, _, _, _, _, _, g2', g8', g15', g23', g30', rfl, one_28 hS ho⟩
      · have dn27 := ready_dep hi 27 (by kernel_rfl)
        obtain rfl := hS.d27 dn27
        refine wpOp_free (fun K hK => ?_)
        unfold wpOp
        go_simp
        refine Or.inl ?_
        exact hK _ _ ⟨_, _, _, _, _, _, _, _, _, _, _, _, _, _, _, _, _, _, _, _, _, _, _, _, _, _, _, _, _, _, _, _, _, _, _, g2', g8', g15', g23', g30', rfl, one_29 hS ho⟩
      · have dn27 := ready_dep hi 27 (by kernel_rfl)
        obtain rfl := hS.d27 dn27
        refine wpOp_free (fun K hK => ?_)
        unfold wpOp
        go_simp
        refine Or.inl ?_
        exact hK _ _ ⟨_, _, _, _, _, _, _, _, _, _, _, _, _, _, _, _, _, _, _, _, _, _, _, _, _, _, _, _, _, _, _, _, _, _, _, g2', g8', g15', g23', w'.heap.size, rfl, one_30 hS ho (below_one _ _) (row_at rfl rfl) hno⟩
      · have dn27 := ready_dep hi 27 (by kernel_rfl)
        have dn30 := ready_dep hi 30 (by kernel_rfl)
        obtain rfl := hS.d27 dn27
        obtain rfl := hS.d30 dn30
        refine wpOp_free (fun K hK => ?_)
        unfold wpOp
        go_simp
        refine Or.inl ?_
        refine (lof_any 2 3 _ 6 6 _).mono (fun e wq => ?_)
        rintro ⟨rfl, bq⟩
        exact hK _ _ ⟨_, _, _, _, _, _, _, _, _, _, _, _, _, _, _, _, _, _, _, _, _, _, _, _, _, _, _, _, _, _, _, _, _, _, _, g2', g8', g15', g23', g30', rfl, one_31 hS ho bq dn30⟩
      · have dn27 := ready_dep hi 27 (by kernel_rfl)
        have dn28 := ready_dep hi 28 (by kernel_rfl)
        have dn29 := ready_dep hi 29 (by kernel_rfl)
        have dn31 := ready_dep hi 31 (by kernel_rfl)
        have hrow := hS.r30 (hS.c30 dn31)
        have hrow2 := g13.below hS.bel
        obtain rfl := hS.d27 dn27
        obtain rfl := hS.d28 dn28
        obtain rfl := hS.d29 dn29
        obtain rfl := hS.d31 dn31
        refine wpOp_free (fun K hK => ?_)
        unfold wpOp
        go_simp
        refine Or.inl ?_
        refine (nm_is 2 3 0 n13 y13 rfl o13 _ k13 6 _ hrow2 hrow (by decide)).mono (fun e wq => ?_)
        rintro ⟨rfl, bq⟩
        exact hK _ _ ⟨_, _, _, _, _, _, _, _, _, _, _, _, _, _, _, _, _, _, _, _, _, _, _, _, _, _, _, _, _, _, _, _, _, _, _, g2', g8', g15', g23', g30', rfl, one_32 hS ho bq⟩
      · have dn27 := ready_dep hi 27 (by kernel_rfl)
        have dn32 := ready_dep hi 32 (by kernel_rfl)
        obtain rfl := hS.d27 dn27
        obtain rfl := hS.d32 dn32
        refine wpOp_free (fun K hK => ?_)
        unfold wpOp
        go_simp
        refine Or.inl ?_
        exact hK _ _ ⟨_, _, _, _, _, _, _, _, _, _, _, _, _, _, _, _, _, _, _, _, _, _, _, _, _, _, _, _, _, _, _, _, _, _, _, g2', g8', g15', g23', g30', rfl, one_33 hS ho⟩
      · have dn33 := ready_dep hi 33 (by kernel_rfl)
        obtain rfl := hS.d33 dn33
        refine wpOp_free (fun K hK => ?_)
        unfold wpOp
        go_simp
        refine Or.inl ?_
        exact hK _ _ ⟨_, _, _, _, _, _, _, _, _, _, _, _, _, _, _, _, _, _, _, _, _, _, _, _, _, _, _, _, _, _, _, _, _, _, _, g2', g8', g15', g23', g30', rfl, one_34 hS ho⟩
    rintro L a U14 hL ⟨v0, v1, v2, v3, v4, v5, v6, v7, v8, v9, v10, v11, v12, v13, v14, v15, v16, v17, v18, v19, v20, v21, v22, v23, v24, v25, v26, v27, v28, v29, v30, v31, v32, v33, v34, g2', g8', g15', g23', g30', rfl, hS⟩ hnone
    have hd := all_done hL hnone (by kernel_rfl)
    have od := fun i (h : i < 35) => hd i h
    obtain rfl := hS.d0 (od 0 (by omega))
    obtain rfl := hS.d1 (od 1 (by omega))
    obtain rfl := hS.d2 (od 2 (by omega))
    obtain rfl := hS.d3 (od 3 (by omega))
    obtain rfl := hS.d4 (od 4 (by omega))
    obtain rfl := hS.d5 (od 5 (by omega))
    obtain rfl := hS.d6 (od 6 (by omega))
    obtain rfl := hS.d7 (od 7 (by omega))
    obtain rfl := hS.d8 (od 8 (by omega))
    obtain rfl := hS.d9 (od 9 (by omega))
    obtain rfl := hS.d10 (od 10 (by omega))
    obtain rfl := hS.d11 (od 11 (by omega))
    obtain rfl := hS.d12 (od 12 (by omega))
    obtain rfl := hS.d13 (od 13 (by omega))
    obtain rfl := hS.d14 (od 14 (by omega))
    obtain rfl := hS.d15 (od 15 (by omega))
    obtain rfl := hS.d16 (od 16 (by omega))
    obtain rfl := hS.d17 (od 17 (by omega))
    obtain rfl := hS.d18 (od 18 (by omega))
    obtain rfl := hS.d19 (od 19 (by omega))
    obtain rfl := hS.d20 (od 20 (by omega))
    obtain rfl := hS.d21 (od 21 (by omega))
    obtain rfl := hS.d22 (od 22 (by omega))
    obtain rfl := hS.d23 (od 23 (by omega))
    obtain rfl := hS.d24 (od 24 (by omega))
    obtain rfl := hS.d25 (od 25 (by omega))
    obtain rfl := hS.d26 (od 26 (by omega))
    obtain rfl := hS.d27 (od 27 (by omega))
    obtain rfl := hS.d28 (od 28 (by omega))
    obtain rfl := hS.d29 (od 29 (by omega))
    obtain rfl := hS.d30 (od 30 (by omega))
    obtain rfl := hS.d31 (od 31 (by omega))
    obtain rfl := hS.d32 (od 32 (by omega))
    obtain rfl := hS.d33 (od 33 (by omega))
    obtain rfl := hS.d34 (od 34 (by omega))
    have hbe := hS.bel
    clear hS hd od hnone hL b6 g6 b7 g7 b8 g8 b9 g9 b10 g10 b13 g13 n7 y7 n8 y8 n9 y9 n10 y10 n13 y13
    go_wp2_with fail
    go_meet
    exact ⟨rfl, hbe⟩
  obtain ⟨rfl, hbe⟩ := hcut
  replace HB := HB.trans (hbe.mono HB.size)
  clear hbe b6 g6 b7 g7 b8 g8 b9 g9 b10 g10 b13 g13 n7 n8 n9 n10 n13
  generalize wc = U14 at *
  go_upto_region 18 with (first
    | (go_at_call 14; refine (aw_cs _).mono ?_; rintro e w' ⟨rfl, h'⟩; subst w')
    | (go_at_call 18; refine (nm_sym _ _ ga0).mono ?_; rintro e ws ⟨rfl, bs⟩; have X0 := Ba.trans (bs.mono Ba.size))
    | (go_at_call 19; refine (nm_right _ _).mono ?_; rintro e U15 ⟨rfl, bz⟩; have X3 := X2.trans (bz.mono X2.size))
    | (go_at_call_of 12 (Value.slice (some ⟨U14.heap.size, 0, none⟩) 4 4); refine (lof_any _ _ _ _ _ _).mono ?_; rintro e wa ⟨rfl, ba⟩; have ga0 := (row_at (w := U14) (xs := [4607182418800017408, 0, 9223372036854775808, 4607182418800017408]) (t := 31) rfl rfl).below ba; have Ba := (below_one U14 _).trans (ba.mono (below_one U14 _).size))
    | (go_at_call 12; refine (lof_any _ _ _ _ _ _).mono ?_; rintro e wr ⟨rfl, br⟩; have X2 := X0.trans (((below_one ws _).trans (br.mono (below_one ws _).size)).mono X0.size)))
  replace HB := HB.trans (X3.mono HB.size)
  clear X0 X2 X3 ga0 Ba ba bs br bz
  go_upto_region 19 with (first | (go_at_call 16; refine (nm_norm 2 2 nm_n3 rfl (fw_lit _ (by decide)) (by decide) _ _ ga0).mono ?_; rintro e U16 ⟨rfl, bz⟩; have X0 := Ba.trans (bz.mono Ba.size)) | (go_at_call_of 12 (Value.slice (some ⟨U15.heap.size, 0, none⟩) 1 1); refine (lof_any _ _ _ _ _ _).mono ?_; rintro e wa ⟨rfl, ba⟩; have ga0 := (row_at (w := U15) (xs := [4607182418800017408]) (t := 31) rfl rfl).below ba; have Ba := (below_one U15 _).trans (ba.mono (below_one U15 _).size)))
  have X1 := X0
  replace HB := HB.trans (X1.mono HB.size)
  clear X1 X0 ga0 Ba ba bz
  go_wp2_with (go_at_call 20; refine (mawake _).mono ?_; rintro e w10 ⟨rfl, bz⟩; replace HB := HB.trans (bz.mono HB.size))
  go_ret
  exact ⟨rfl, HB⟩
end Go.Proofs.Ythbnffnoldmcnaa
