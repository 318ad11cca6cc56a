/- The closures of Make, Identity, Transpose, Sub and Mul; a sum of products in order. -/
import Derived.Test.YthbnffnoldmcnaaMx2
import Derived.Test.YthbnffnoldmcnaaAf
import Derived.Deep.RegionHeld3
namespace Go.Proofs.Ythbnffnoldmcnaa
open Go.RowKit

theorem at_lt {R C i j : Nat} (hi : i < R) (hj : j < C) : i * C + j < R * C := by
  have h : (i + 1) * C ≤ R * C := Nat.mul_le_mul hi (Nat.le_refl _)
  rw [Nat.succ_mul] at h
  omega
theorem at_div {C i j : Nat} (hj : j < C) : (i * C + j) / C = i ∧ (i * C + j) % C = j := by
  have hC : 0 < C := by omega
  constructor
  · rw [Nat.add_comm, Nat.add_mul_div_right _ _ hC, Nat.div_eq_of_lt hj, Nat.zero_add]
  · rw [Nat.add_comm, Nat.add_mul_mod_self_right, Nat.mod_eq_of_lt hj]
/-- The entry at (i, j), as a number. -/
def enO (C : Nat) (xs : List Nat) (i j : Nat) : Option Nat := toO (xs.getD (i * C + j) 0)
/-- The sum in order of the first k products of row i and column j. -/
def muO (C D : Nat) (xs ys : List Nat) (i j : Nat) : Nat → Option Nat
  | 0 => some 0
  | k + 1 => opO .add (muO C D xs ys i j k) (opO .mul (enO C xs i k) (enO D ys k j))
set_option maxHeartbeats 400000 in
theorem make1_all (i j : Nat) (w : World) : Calls Try.prog 47 #[.int .i64 i, .int .i64 j] w fun e w' => ∃ r, e = .returned (.float .f64 r) ∧ NR (some 0) r ∧ Below w.heap.size w w' := by
  go_enter Try.func47, Try.ntmps47
  go_wp2
  go_ret
  exact ⟨_, rfl, ⟨by omega, rfl⟩, Below.refl _ _⟩
def idO (i j : Nat) : Option Nat := if i = j then some 4607182418800017408 else some 0
set_option maxHeartbeats 400000 in
theorem ident1_all (i j : Nat) (w : World) : Calls Try.prog 48 #[.int .i64 i, .int .i64 j] w fun e w' => ∃ r, e = .returned (.float .f64 r) ∧ NR (idO i j) r ∧ Below w.heap.size w w' := by
  unfold idO
  by_cases h : i = j
  · rw [if_pos h]
    have b1 : ((i : Int) == (j : Int)) = true := by simp [h]
    clear h
    go_enter Try.func48, Try.ntmps48
    go_wp2
    go_ret
    exact ⟨_, rfl, ⟨by omega, rfl⟩, Below.refl _ _⟩
  · rw [if_neg h]
    have b1 : ((i : Int) == (j : Int)) = false := by simp; omega
    clear h
    go_enter Try.func48, Try.ntmps48
    go_wp2
    go_ret
    exact ⟨_, rfl, ⟨by omega, rfl⟩, Below.refl _ _⟩
set_option maxHeartbeats 400000 in
theorem trans1_all (R C : Nat) (xs : List Nat) (ao : Option Addr) (cap A : Nat) (i j : Nat) (w : World) (hr : GRow w ao xs) (hF : FW xs) (hl : xs.length = R * C) (hR : R ≤ 48) (hC : C ≤ 48) (hi : i < C) (hj : j < R) (hA : B3 w A (.int .i64 R) (.int .i64 C) (.slice ao xs.length cap)) :
    Calls Try.prog 64 #[.int .i64 i, .int .i64 j, .pointer (some ⟨A, 0, none⟩)] w fun e w' => ∃ r, e = .returned (.float .f64 r) ∧ NR (enO C xs j i) r ∧ Below w.heap.size w w' := by
  obtain ⟨a0, a1, a2, _⟩ := hA
  have hp : j * C + i < xs.length := by rw [hl]; exact at_lt hj hi
  have ce := fun w h => mentry_any xs R C j i (j * C + i) xs.length cap ao w h (by omega) hC (by omega) rfl hp rfl
  have HN : Hid (NR (enO C xs j i) (xs.getD (j * C + i) 0)) := toO_NR (hF.at hp)
  generalize xs.getD (j * C + i) 0 = x at *
  clear hp hl
  go_enter Try.func64, Try.ntmps64
  go_wp2_with (go_at_call 52; refine (ce _ hr).mono ?_; rintro e w1 ⟨rfl, b1⟩)
  go_ret
  exact ⟨_, rfl, HN.out, b1⟩
set_option maxHeartbeats 1000000 in
theorem sub1_all (R C : Nat) (xs ys : List Nat) (ao bo : Option Addr) (cap cap2 A B : Nat) (i j : Nat) (w : World) (hr : GRow w ao xs) (hs : GRow w bo ys) (hF : FW xs) (hG : FW ys) (hl : xs.length = R * C) (hm : ys.length = R * C) (hR : R ≤ 48) (hC : C ≤ 48) (hi : i < R) (hj : j < C) (hA : B3 w A (.int .i64 R) (.int .i64 C) (.slice ao xs.length cap)) (hB : B3 w B (.int .i64 R) (.int .i64 C) (.slice bo ys.length cap2)) :
    Calls Try.prog 65 #[.int .i64 i, .int .i64 j, .pointer (some ⟨A, 0, none⟩), .pointer (some ⟨B, 0, none⟩)] w fun e w' => ∃ r, e = .returned (.float .f64 r) ∧ NR (opO .sub (enO C xs i j) (enO C ys i j)) r ∧ Below w.heap.size w w' := by
  have hp : i * C + j < xs.length := by rw [hl]; exact at_lt hi hj
  have hq : i * C + j < ys.length := by rw [hm]; exact at_lt hi hj
  have ce := fun w h => mentry_any xs R C i j (i * C + j) xs.length cap ao w h (by omega) hC (by omega) rfl hp rfl
  have cf := fun w h => mentry_any ys R C i j (i * C + j) ys.length cap2 bo w h (by omega) hC (by omega) rfl hq rfl
  have HN : Hid (∀ W, NR (opO .sub (enO C xs i j) (enO C ys i j)) (opR .sub (xs.getD (i * C + j) 0) (ys.getD (i * C + j) 0) W)) := fun W => opO_NR opS (toO_NR (hF.at hp)) (toO_NR (hG.at hq)) W
  generalize xs.getD (i * C + j) 0 = x at *
  generalize ys.getD (i * C + j) 0 = y at *
  generalize xs.length = n at *
  generalize ys.length = m at *
  clear hp hq hl hm
  have h1 := fun x y w => run_op4 (P := Try.prog) (op := .sub) opS 31 x y w
  have hcv := conv64
  have a := hA.drew
  have b := hB.drew
  have hr' : GRow w.drew ao xs := hr
  have hs' : GRow w.drew bo ys := hs
  have HB := (Below.refl w.heap.size w).drew
  obtain ⟨a0, a1, a2, _⟩ := hA
  obtain ⟨b0, b1, b2, _⟩ := hB
  go_enter Try.func65, Try.ntmps65
  go_wp2
  go_region_with (first
    | (go_at_call_of 52 (Value.agg #[Value.int IntKind.i64 (R : Int), Value.int IntKind.i64 (C : Int), Value.slice ao n cap]); refine (ce _ hr').mono ?_; rintro e w1 ⟨rfl, hb1⟩; obtain ⟨b0', b1', b2', _⟩ := b.below hb1; have hs1 := hs'.below hb1; have HB1 := HB.trans (hb1.mono HB.size))
    | (go_at_call_of 52 (Value.agg #[Value.int IntKind.i64 (R : Int), Value.int IntKind.i64 (C : Int), Value.slice bo m cap2]); refine (cf _ hs1).mono ?_; rintro e w2 ⟨rfl, hb2⟩; have HB2 := HB1.trans (hb2.mono HB1.size)))
  all_goals
    go_wp2
    go_ret
    exact ⟨_, rfl, HN.out _, opW_below .sub x y HB2⟩
set_option maxHeartbeats 1000000 in
theorem mul11_all (R C D : Nat) (xs ys : List Nat) (ao bo : Option Addr) (cap cap2 A B I J : Nat) (i j k : Nat) (w : World) (hr : GRow w ao xs) (hs : GRow w bo ys) (hF : FW xs) (hG : FW ys) (hl : xs.length = R * C) (hm : ys.length = C * D) (hR : R ≤ 48) (hC : C ≤ 48) (hD : D ≤ 48) (hi : i < R) (hj : j < D) (hk : k < C) (hA : B3 w A (.int .i64 R) (.int .i64 C) (.slice ao xs.length cap)) (hB : B3 w B (.int .i64 C) (.int .i64 D) (.slice bo ys.length cap2)) (hI : w.cell? ⟨I, 0, none⟩ = some (.int .i64 i)) (hJ : w.cell? ⟨J, 0, none⟩ = some (.int .i64 j)) :
    Calls Try.prog 51 #[.int .i64 k, .pointer (some ⟨A, 0, none⟩), .pointer (some ⟨I, 0, none⟩), .pointer (some ⟨B, 0, none⟩), .pointer (some ⟨J, 0, none⟩)] w fun e w' => ∃ r, e = .returned (.float .f64 r) ∧ NR (opO .mul (enO C xs i k) (enO D ys k j)) r ∧ Below w.heap.size w w' := by
  have hp : i * C + k < xs.length := by rw [hl]; exact at_lt hi hk
  have hq : k * D + j < ys.length := by rw [hm]; exact at_lt hk hj
  have ce := fun w h => mentry_any xs R C i k (i * C + k) xs.length cap ao w h (by omega) hC (by omega) rfl hp rfl
  have cf := fun w h => mentry_any ys C D k j (k * D + j) ys.length cap2 bo w h (by omega) hD (by omega) rfl hq rfl
  have HN : Hid (∀ W, NR (opO .mul (enO C xs i k) (enO D ys k j)) (opR .mul (xs.getD (i * C + k) 0) (ys.getD (k * D + j) 0) W)) := fun W => opO_NR opMu (toO_NR (hF.at hp)) (toO_NR (hG.at hq)) W
  generalize xs.getD (i * C + k) 0 = x at *
  generalize ys.getD (k * D + j) 0 = y at *
  generalize xs.length = n at *
  generalize ys.length = m at *
  clear hp hq hl hm
  have h1 := fun x y w => run_op4 (P := Try.prog) (op := .mul) opMu 31 x y w
  have hcv := conv64
  have ha := hA.drew
  have b := hB.drew
  have hr' : GRow w.drew ao xs := hr
  have hs' : GRow w.drew bo ys := hs
  have HB := (Below.refl w.heap.size w).drew
  have HJ : ∀ w1, Below w.drew.heap.size w.drew w1 → w1.cell? ⟨J, 0, none⟩ = some (.int .i64 j) := fun w1 h => by rw [h.cell (World.block_lt_of_cell? w _ hJ)]; exact hJ
  obtain ⟨a0, a1, a2, _⟩ := hA
  obtain ⟨b0, b1, b2, _⟩ := hB
  have HA : ∀ w1, Below w.drew.heap.size w.drew w1 → w1.cell? ⟨A, 0, none⟩ = some (.int .i64 R) ∧ w1.cell? ⟨A, 1, none⟩ = some (.int .i64 C) ∧ w1.cell? ⟨A, 2, none⟩ = some (.slice ao n cap) := fun w1 h => by obtain ⟨x0, x1, x2, _⟩ := ha.below h; exact ⟨x0, x1, x2⟩
  have HBc : ∀ w1, Below w.drew.heap.size w.drew w1 → w1.cell? ⟨B, 0, none⟩ = some (.int .i64 C) ∧ w1.cell? ⟨B, 1, none⟩ = some (.int .i64 D) ∧ w1.cell? ⟨B, 2, none⟩ = some (.slice bo m cap2) := fun w1 h => by obtain ⟨x0, x1, x2, _⟩ := b.below h; exact ⟨x0, x1, x2⟩
  have HI : ∀ w1, Below w.drew.heap.size w.drew w1 → w1.cell? ⟨I, 0, none⟩ = some (.int .i64 i) := fun w1 h => by rw [h.cell (World.block_lt_of_cell? w _ hI)]; exact hI
  have hop : ∀ W a, (opW .mul x y W).cell? a = W.cell? a := fun W a => by unfold World.cell?; rw [opW_heap]
  go_enter Try.func51, Try.ntmps51
  go_wp2
  first | (go_region_held (fun w' => w'.cell? ⟨A, 0, none⟩ = some (.int .i64 R) ∧ w'.cell? ⟨A, 1, none⟩ = some (.int .i64 C) ∧ w'.cell? ⟨A, 2, none⟩ = some (.slice ao n cap) ∧ w'.cell? ⟨B, 0, none⟩ = some (.int .i64 C) ∧ w'.cell? ⟨B, 1, none⟩ = some (.int .i64 D) ∧ w'.cell? ⟨B, 2, none⟩ = some (.slice bo m cap2) ∧ w'.cell? ⟨I, 0, none⟩ = some (.int .i64 i) ∧ w'.cell? ⟨J, 0, none⟩ = some (.int .i64 j)) (go_keep)
   (first
    | (go_at_call_of 52 (Value.agg #[Value.int IntKind.i64 (R : Int), Value.int IntKind.i64 (C : Int), Value.slice ao n cap]); refine (ce _ hr').mono ?_; rintro e w1 ⟨rfl, hb1⟩; have hA1 := HA _ hb1; have hBc1 := HBc _ hb1; have hJ1 := HJ _ hb1; have hI1 := HI _ hb1; have hs1 := hs'.below hb1; have HB1 := HB.trans (hb1.mono HB.size))
    | (go_at_call_of 52 (Value.agg #[Value.int IntKind.i64 (C : Int), Value.int IntKind.i64 (D : Int), Value.slice bo m cap2]); refine (cf _ hs1).mono ?_; rintro e w2 ⟨rfl, hb2⟩; have HB2 := HB1.trans (hb2.mono HB1.size); have hb3 := hb1.trans (hb2.mono hb1.size); have hA2 := HA _ hb3; have hBc2 := HBc _ hb3; have hJ2 := HJ _ hb3; have hI2 := HI _ hb3))) | fail
  all_goals
    go_wp2
    go_ret
    exact ⟨_, rfl, HN.out _, opW_below .mul x y HB2⟩
set_option maxHeartbeats 1000000 in
theorem inord_all (o : Nat → Option Nat) (S : Nat → Option Nat) (n A I B J : Nat) (w : World) (hn : n ≤ 48) (h0 : S 0 = some 0) (hS : ∀ k, S (k + 1) = opO .add (S k) (o k)) (hcl : ∀ (k : Nat) (wr : World), k < n → Below w.heap.size w wr → Calls Try.prog 51 #[.int .i64 k, .pointer (some ⟨A, 0, none⟩), .pointer (some ⟨I, 0, none⟩), .pointer (some ⟨B, 0, none⟩), .pointer (some ⟨J, 0, none⟩)] wr fun e w' => ∃ r, e = .returned (.float .f64 r) ∧ NR (o k) r ∧ Below wr.heap.size wr w') :
    Calls Try.prog 50 #[.int .i64 n, .func (.func 51) #[] #[.pointer (some ⟨A, 0, none⟩), .pointer (some ⟨I, 0, none⟩), .pointer (some ⟨B, 0, none⟩), .pointer (some ⟨J, 0, none⟩)]] w fun e w' => ∃ r, e = .returned (.float .f64 r) ∧ NR (S n) r ∧ Below w.heap.size w w' := by
  have h1 := fun x y w => run_op4 (P := Try.prog) (op := .add) (Or.inl rfl) 31 x y w
  have hcv := conv64
  have H0 : Hid (NR (S 0) 0) := (show NR (S 0) 0 by rw [h0]; exact ⟨by omega, rfl⟩)
  have HS : Hid (∀ k, S (k + 1) = opO .add (S k) (o k)) := hS
  clear h0 hS
  go_enter Try.func50, Try.ntmps50
  go_wp2
  go_loopg [5, 8] n (fun g s i wr => ∃ k r : Nat, k ≤ n ∧ g = n - k ∧ s = .float .f64 r ∧ i = .int .i64 k ∧ Hid (NR (S k) r) ∧ Hid (Below w.heap.size w wr))
  case atStart => exact ⟨0, 0, Nat.zero_le _, rfl, rfl, rfl, H0, Below.refl _ _⟩
  case round =>
    obtain ⟨k, r, hk, hg, rfl, rfl, hN, hB⟩ := hrel
    have HG : Hid (gk = n - k) := hg
    clear hg H0
    by_cases hlt : k < n
    · have cc := hcl k wr hlt hB.out
      have i1 : (k : Int) < (n : Int) := by omega
      go_wp2_with (go_at_call 51; refine cc.mono ?_; rintro e w1 ⟨x, rfl, hx, b1⟩; have HB1 := hB.out.trans (b1.mono hB.out.size); have HN1 : Hid (NR (S (k + 1)) (opR .add r x w1)) := (show NR _ _ by rw [HS.out]; exact opO_NR (Or.inl rfl) hN.out hx w1); clear hx)
      go_roundg (n - (k + 1))
      case measure => rw [HG.out]; omega
      case rel => exact ⟨k + 1, _, by omega, rfl, rfl, by go_num, HN1, opW_below .add r x HB1⟩
    · have ek : k = n := by omega
      subst ek
      have i1 : ¬ (k : Int) < (k : Int) := by omega
      go_wp2
      go_ret
      exact ⟨_, rfl, hN.out, hB.out⟩
set_option maxHeartbeats 1000000 in
theorem mul1_all (R C D : Nat) (xs ys : List Nat) (ao bo : Option Addr) (cap cap2 A B : Nat) (i j : Nat) (w : World) (hr : GRow w ao xs) (hs : GRow w bo ys) (hF : FW xs) (hG : FW ys) (hl : xs.length = R * C) (hm : ys.length = C * D) (hR : R ≤ 48) (hC : C ≤ 48) (hD : D ≤ 48) (hi : i < R) (hj : j < D) (hA : B3 w A (.int .i64 R) (.int .i64 C) (.slice ao xs.length cap)) (hB : B3 w B (.int .i64 C) (.int .i64 D) (.slice bo ys.length cap2)) :
    Calls Try.prog 49 #[.int .i64 i, .int .i64 j, .pointer (some ⟨A, 0, none⟩), .pointer (some ⟨B, 0, none⟩)] w fun e w' => ∃ r, e = .returned (.float .f64 r) ∧ NR (muO C D xs ys i j C) r ∧ Below w.heap.size w w' := by
  have hI : ((w.alloc (.cells #[.int .i64 i] 3)).alloc (.cells #[.int .i64 j] 3)).cell? ⟨w.heap.size, 0, none⟩ = some (.int .i64 i) := by go_simp
  have hJ : ((w.alloc (.cells #[.int .i64 i] 3)).alloc (.cells #[.int .i64 j] 3)).cell? ⟨w.heap.size + 1, 0, none⟩ = some (.int .i64 j) := by go_simp
  have hb : Below w.heap.size w ((w.alloc (.cells #[.int .i64 i] 3)).alloc (.cells #[.int .i64 j] 3)) := old_two (Below.refl _ _)
  have cI := inord_all (fun k => opO .mul (enO C xs i k) (enO D ys k j)) (muO C D xs ys i j) C A w.heap.size B (w.heap.size + 1) ((w.alloc (.cells #[.int .i64 i] 3)).alloc (.cells #[.int .i64 j] 3)) hC rfl (fun _ => rfl) (fun k wr hk hbw => by
    have hb2 := hb.trans (hbw.mono hb.size)
    refine mul11_all R C D xs ys ao bo cap cap2 A B w.heap.size (w.heap.size + 1) i j k wr (hr.below hb2) (hs.below hb2) hF hG hl hm hR hC hD hi hj hk (hA.below hb2) (hB.below hb2) ?_ ?_
    · rw [hbw.cell (World.block_lt_of_cell? _ _ hI)]; exact hI
    · rw [hbw.cell (World.block_lt_of_cell? _ _ hJ)]; exact hJ)
  have a1 := ((hA.alloc (.cells #[.int .i64 i] 3)).alloc (.cells #[.int .i64 j] 3)).2.1
  generalize muO C D xs ys i j C = q at *
  clear hr hs hF hG hl hm hA hB hI hJ
  go_enter Try.func49, Try.ntmps49
  go_wp2_with (go_at_call 50; refine cI.mono ?_; rintro e w1 ⟨r, rfl, hr, b1⟩; have B1 := hb.trans (b1.mono hb.size))
  go_ret
  exact ⟨_, rfl, hr, B1⟩
end Go.Proofs.Ythbnffnoldmcnaa
