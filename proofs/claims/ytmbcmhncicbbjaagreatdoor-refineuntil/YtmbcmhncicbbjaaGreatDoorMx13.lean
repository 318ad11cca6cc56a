/- What the kit's LentReals, KeptReals, LentMatrix, KeptMatrix answer: numbers lent, with room behind them that is marked. -/
import Derived.Test.YtmbcmhncicbbjaaGreatDoorMx7
import Derived.Test.YtmbcmhncicbbjaaGreatDoorA1
namespace Go.Proofs.YtmbcmhncicbbjaaGreatDoor
open Go.RowKit

/-- The marks, as floats. -/
def mkF (i : Nat) : Nat := floatOfInt .f64 ((1000003 * 8 + i : Nat) : Int)
theorem mkF_ok : (List.range 12).all (fun i => Nat.blt (mkF i) 9218868437227405312) = true := by kernel_rfl
theorem mkF_lt {i : Nat} (h : i < 12) : mkF i < 9218868437227405312 := by
  have := List.all_eq_true.1 mkF_ok i (List.mem_range.2 h)
  simpa using this
def mkL (n : Nat) : List Nat := (List.range n).map mkF
theorem mkL_len (n : Nat) : (mkL n).length = n := by simp [mkL]
theorem mkL_succ (n : Nat) : mkL (n + 1) = mkL n ++ [mkF n] := by simp [mkL, List.range_succ]
theorem mkL_at {n i : Nat} (h : i < n) : (mkL n).getD i 0 = mkF i := by simp [mkL, List.getD_eq_getElem?_getD, h]
theorem rown_base {w : World} {b c : Nat} {e : TypeId} {v : Value} {n : Nat} {xs : List Value} (h : w.ownsRow b e 1 v n xs) (hc : c ≤ b) : w.ownsRow c e 1 v n xs := by
  refine ⟨h.1, ?_⟩
  rcases h.2 with hn | ⟨g, cap, cur, h1, h2, h3⟩
  · exact Or.inl hn
  · exact Or.inr ⟨g, cap, cur, h1, Nat.le_trans hc h2, h3⟩
/-- Numbers that were lent. -/
def LentF (w : World) (g : Nat) (xs : List Nat) : Prop := w.ownsRow 0 48 1 (.slice (some ⟨g, 0, none⟩) (xs.length + 12) (xs.length + 12)) (xs.length + 12) (fv (xs ++ mkL 12))
theorem LentF.cell {w : World} {g : Nat} {xs : List Nat} (h : LentF w g xs) {j : Nat} (hj : j < xs.length + 12) : w.cell? ⟨g, j, none⟩ = some (.float .f64 ((xs ++ mkL 12).getD j 0)) := by
  have e := World.ownsRow.cellAt h j (by omega)
  rw [e, fv_at (by rw [List.length_append, mkL_len]; exact hj)]
theorem LentF.row {w : World} {g : Nat} {xs : List Nat} (h : LentF w g xs) : GRow w (some ⟨g, 0, none⟩) xs := by
  refine Or.inr ⟨g, 0, rfl, fun j hj => ?_⟩
  rw [Nat.zero_add, h.cell (by omega), List.getD_eq_getElem?_getD, List.getD_eq_getElem?_getD, List.getElem?_append_left hj]
theorem LentF.lt {w : World} {g : Nat} {xs : List Nat} (h : LentF w g xs) : g < w.heap.size := World.block_lt_of_cell? w _ (h.cell (j := 0) (by omega))
theorem LentF.below {w w' : World} {g : Nat} {xs : List Nat} (h : LentF w g xs) (hb : Below w.heap.size w w') : LentF w' g xs := by
  have hl := h.lt
  refine ⟨h.1, ?_⟩
  rcases h.2 with ⟨e, _⟩ | ⟨g', cap, cur, e, h1, h2, h3⟩
  · cases e
  · cases e
    exact Or.inr ⟨g, xs.length + 12, cur, rfl, h1, by rw [hb.block g hl]; exact h2, h3⟩
theorem LentF.far {w : World} {g : Nat} {xs : List Nat} (h : LentF w g xs) {c : Nat} (hc : c ≠ g) (o : Nat) (v : Value) : LentF (w.setCell ⟨c, o, none⟩ v) g xs := by
  refine ⟨h.1, ?_⟩
  rcases h.2 with ⟨e, _⟩ | ⟨g', cap, cur, e, h1, h2, h3⟩
  · cases e
  · cases e
    exact Or.inr ⟨g, xs.length + 12, cur, rfl, h1, by rw [Below.heap_setCell w ⟨c, o, none⟩ v g (Ne.symm hc)]; exact h2, h3⟩
theorem fv_one (xs : List Nat) : ∀ u ∈ fv xs, u.oneCell' = true := fun u hu => by
  obtain ⟨x, _, rfl⟩ := List.mem_map.1 hu
  rfl
set_option maxHeartbeats 400000 in
theorem mmark_any (k i m : Nat) (hk : k ≤ 2) (hi : i ≤ 18000000000000) (hm : 1000003 * (k + 7) + i = m) (w : World) :
    Calls Tryz.prog 23 #[.int .i64 k, .int .i64 i] w fun e w' => e = .returned (.int .i64 (m : Int)) ∧ w' = w := by
  have HM : Hid (1000003 * (k + 7) + i = m) := hm
  clear hm
  go_enter Tryz.func23, Tryz.ntmps23
  go_wp2
  go_ret
  exact ⟨retI (by have := HM.out; omega), rfl⟩
set_option maxHeartbeats 2000000 in
theorem lentR_any (xs : List Nat) (ao : Option Addr) (cap : Nat) (w : World) (hr : GRow w ao xs) (hs : ao = none → cap = 0 ∧ xs.length = 0) (hn : xs.length ≤ 17592186044416) :
    Calls Tryz.prog 9 #[.slice ao xs.length cap] w fun e w' => e = .returned (.slice (some ⟨w.heap.size, 0, none⟩) xs.length (xs.length + 12)) ∧ LentF w' w.heap.size xs ∧ Below w.heap.size w w' := by
  obtain ⟨i0, hi, hz0, hz1, hz2⟩ := info_parts Tryz.infoF
  have hnews : ∀ w1, w.grownBy w1 none → ∀ ad, ao = some ad → ∀ j u, (fv xs)[j]? = some u → w1.cell? (ad.add j) = some u := by
    intro w1 hg ad e j u hu
    have hj : j < xs.length := by
      have := (List.getElem?_eq_some_iff.1 hu).1
      rw [fv_length] at this; exact this
    rw [fv_at hj] at hu
    cases hu
    have hb : Below w.heap.size w w1 := (Below.refl _ _).grown hg (Nat.le_refl _) (fun k hk => by cases hk)
    rcases hr.below hb with h | ⟨b, off, e2, hc⟩
    · omega
    · rw [e2] at e
      cases e
      have g := hc j hj
      simp only [Addr.add]
      split
      · rename_i h; subst h; exact g
      · exact g
  go_enter Tryz.func9, Tryz.ntmps9
  go_wp2_with (first
    | (refine wpList_make_own _ rfl _ _ 22 rfl w.heap.size 48 i0 (.float .f64 0) 1 Tryz.underlying22 hi hz0 hz1 .i64 .i64 _ (xs.length + 12) rfl rfl (by omega) (by rw [hz2]; omega) (by unfold maxLen; omega) (Nat.le_refl _) ?_; intro w1 hown1 hg1)
    | (at_builtin; refine wpList_append_fits_any _ rfl _ _ 22 rfl w.heap.size 48 i0 1 Tryz.underlying22 hi hz1 w.heap.size 0 (xs.length + 12) [] rfl hown1 ao xs.length cap (fv xs) rfl (by rw [fv_length, Nat.mul_one]) (fun h => ⟨(hs h).2, (hs h).1⟩) (hnews _ hg1) (fv_one _) (by omega) ?_; intro w2 hown2 hg2))
  have hb2 : Below w.heap.size w w2 := ((Below.refl _ _).grown hg1 (Nat.le_refl _) (fun k hk => by cases hk)).grown hg2 (by have := hg1.size; omega) (fun k hk => by cases hk; exact Nat.le_refl _)
  rw [List.nil_append, Nat.zero_add] at hown2
  clear hown1 hg1 hg2 hnews
  go_loopg [4, 3] 12 (fun g i v wr => ∃ k : Nat, k ≤ 12 ∧ g = 12 - k ∧ i = .int .i64 k ∧ v = .slice (some ⟨w.heap.size, 0, none⟩) (xs.length + k) (xs.length + 12) ∧ wr.ownsRow w.heap.size 48 1 (.slice (some ⟨w.heap.size, 0, none⟩) (xs.length + k) (xs.length + 12)) (xs.length + k) (fv (xs ++ mkL k)) ∧ Below w.heap.size w wr)
  case atStart => exact ⟨0, by omega, rfl, rfl, rfl, by simpa [mkL] using hown2, hb2⟩
  case round =>
    obtain ⟨k, hk, hg, rfl, rfl, hown, hb⟩ := hrel
    clear hown2 hb2
    have hbs := hb.size
    by_cases hlt : k < 12
    · have j1 : (k : Int) < 12 := by omega
      obtain ⟨m, hm⟩ : ∃ m, 1000003 * (1 + 7) + k = m := ⟨_, rfl⟩
      have hmk := fun w => mmark_any 1 k m (by omega) (by omega) hm w
      obtain ⟨x, hx⟩ : ∃ x, mkF k = x := ⟨_, rfl⟩
      have hcv : floatOfInt .f64 (m : Int) = x := by rw [← hx, ← hm]; rfl
      have HT : Hid (fv (xs ++ mkL (k + 1)) = fv (xs ++ mkL k) ++ [.float .f64 x]) := (show _ = _ by rw [mkL_succ, ← List.append_assoc, fv_app, hx]; rfl)
      have hml : m ≤ 9000000 := by omega
      clear hm hx
      go_wp2_with (first
        | (go_at_call 23; refine (hmk _).mono ?_; rintro e w' ⟨rfl, rfl⟩)
        | (at_builtin; refine wpList_append_fits _ rfl _ _ 22 rfl w.heap.size 48 i0 1 Tryz.underlying22 hi hz1 w.heap.size (xs.length + k) (xs.length + 12) (fv (xs ++ mkL k)) rfl (hown.alloc _) ⟨_, 0, none⟩ 1 1 [.float .f64 x] rfl rfl (World.news_of_block (cs := #[.float .f64 x]) (t := 48) (fr := (0, 0)) (heap_alloc_new _ _)) (by simp [Value.oneCell']) (by omega) ?_; intro w3 hown3 hg3))
      have hown4 : w3.ownsRow w.heap.size 48 1 (.slice (some ⟨w.heap.size, 0, none⟩) (xs.length + (k + 1)) (xs.length + 12)) (xs.length + (k + 1)) (fv (xs ++ mkL (k + 1))) := by rw [HT.out]; exact hown3
      have hb3 : Below w.heap.size w w3 := (hb.alloc hb.size _).grown hg3 (by simp; omega) (fun k hk => by cases hk; exact Nat.le_refl _)
      clear hown3 hg3 hown hb HT
      go_wp2
      go_roundg (12 - (k + 1))
      case measure => omega
      case rel => exact ⟨k + 1, by omega, rfl, by go_num, by go_num, hown4, hb3⟩
    · obtain rfl : k = 12 := by omega
      have hL : LentF wr w.heap.size xs := rown_base hown (Nat.zero_le _)
      have j1 : ((xs.length : Int)) ≤ ((xs.length + 12 : Nat) : Int) := by omega
      go_wp2
      go_ret
      exact ⟨rfl, hL, hb⟩
theorem lentF_low {xs : List Nat} {k : Nat} (h : k < xs.length) : (xs ++ mkL 12).getD k 0 = xs.getD k 0 := by
  rw [List.getD_eq_getElem?_getD, List.getD_eq_getElem?_getD, List.getElem?_append_left h]
theorem lentF_high {xs : List Nat} {k : Nat} (h : xs.length ≤ k) (h2 : k < xs.length + 12) : (xs ++ mkL 12).getD k 0 = mkF (k - xs.length) := by
  rw [List.getD_eq_getElem?_getD, List.getElem?_append_right h, ← List.getD_eq_getElem?_getD, mkL_at (by omega)]
theorem sameB_me (a : Nat) : sameB a a = true := by unfold sameB; cases nanB a <;> simp
set_option maxHeartbeats 4000000 in
set_option maxRecDepth 100000 in
theorem keptR_any (xs : List Nat) (ao : Option Addr) (cap g : Nat) (w : World) (hr : GRow w ao xs) (hF : FW xs) (hl : LentF w g xs) (hn : xs.length ≤ 17592186044416) :
    Calls Tryz.prog 14 #[.slice (some ⟨g, 0, none⟩) xs.length (xs.length + 12), .slice ao xs.length cap] w fun e w' => e = .returned (.bool true) ∧ Below w.heap.size w w' := by
  have c0 : ((xs.length : Int) != (xs.length : Int)) = false := by simp
  have c1 : (xs.length : Int) + 12 ≤ ((xs.length + 12 : Nat) : Int) := by omega
  go_enter Tryz.func14, Tryz.ntmps14
  go_wp2
  go_loopg [6] (xs.length + 12) (fun gg i wr => ∃ k : Nat, k ≤ xs.length + 12 ∧ gg = xs.length + 12 - k ∧ i = .int .i64 k ∧ Below w.heap.size w wr)
  case atStart => exact ⟨0, by omega, rfl, rfl, Below.refl _ _⟩
  case round =>
    obtain ⟨k, hk, hg, rfl, hb⟩ := hrel
    have hr2 := hr.below hb
    have hl2 := hl.below hb
    by_cases hlt : k < xs.length + 12
    · have g1 := hl2.cell hlt
      have i0 : (k : Int) < ((xs.length + 12 : Nat) : Int) := by omega
      have i0' : (k : Int) < (xs.length : Int) + 12 := by omega
      by_cases hlo : k < xs.length
      · rcases hr2 with h | ⟨b, off, rfl, hc⟩
        · omega
        · have g2 := hc k hlo
          rw [lentF_low hlo] at g1
          obtain ⟨x, hx⟩ : ∃ x, xs.getD k 0 = x := ⟨_, rfl⟩
          have hxl := hF.at hlo
          rw [hx] at g1 g2 hxl
          have cs := fun w => samef_any x x hxl hxl w
          rw [sameB_me] at cs
          have i1 : (k : Int) < (xs.length : Int) := by omega
          have i2 : decide ((k : Int) < (xs.length : Int)) = true := decide_eq_true i1
          have i3 : decide (xs.length ≤ k) = false := decide_eq_false (by omega)
          clear hc hx hxl
          go_wp2
          go_quiet ((go_at_call 34; exact Calls.quiet_of_same (cs _)))
          go_wp2
          go_roundg (xs.length + 12 - (k + 1))
          case measure => omega
          case rel => exact ⟨k + 1, by omega, rfl, by go_num, below_drewN hb _⟩
      · rw [lentF_high (by omega) hlt] at g1
        obtain ⟨m, hm⟩ : ∃ m, 1000003 * (1 + 7) + (k - xs.length) = m := ⟨_, rfl⟩
        obtain ⟨x, hx⟩ : ∃ x, mkF (k - xs.length) = x := ⟨_, rfl⟩
        have hcv : floatOfInt .f64 (m : Int) = x := by rw [← hx, ← hm]; rfl
        have hxn := mkF_lt (i := k - xs.length) (by omega)
        rw [hx] at g1 hxn
        have e1 : ((k - xs.length : Nat) : Int) = (k : Int) - (xs.length : Int) := by omega
        have hmk : ∀ w, Calls Tryz.prog 23 #[.int .i64 1, .int .i64 ((k : Int) - (xs.length : Int))] w fun e w' => e = .returned (.int .i64 (m : Int)) ∧ w' = w := fun w => by
          have h := mmark_any 1 (k - xs.length) m (by omega) (by omega) hm w
          rw [e1] at h
          exact h
        have hoe : (FloatKind.f64.format.order x x == some .eq) = true := by rw [ord_same x (by omega), nan_small (by omega)]; rfl
        have hml : m ≤ 9000000 := by omega
        have e2 : IntKind.i64.wrap ((k : Int) - (xs.length : Int)) = (k : Int) - (xs.length : Int) := by rw [IntKind.wrap_i64]; omega
        have i1 : ¬ (k : Int) < (xs.length : Int) := by omega
        have i2 : decide ((k : Int) < (xs.length : Int)) = false := decide_eq_false i1
        have i3 : decide (xs.length ≤ k) = true := decide_eq_true (by omega)
        have i5 : decide (k < xs.length) = false := decide_eq_false (by omega)
        have i4 : (xs.length : Int) ≤ (k : Int) := by omega
        clear hm e1 hx hxn
        go_wp2
        go_quiet ((go_at_call 23; exact Calls.quiet_of_same (hmk _)))
        go_wp2
        go_roundg (xs.length + 12 - (k + 1))
        case measure => omega
        case rel => exact ⟨k + 1, by omega, rfl, by go_num, below_drewN hb _⟩
    · have i0 : ¬ (k : Int) < ((xs.length + 12 : Nat) : Int) := by omega
      have i0' : ¬ (k : Int) < (xs.length : Int) + 12 := by omega
      go_wp2
      go_ret
      exact ⟨rfl, hb⟩
set_option maxHeartbeats 1000000 in
theorem lentM_any (r c : Int) (xs : List Nat) (ao : Option Addr) (cap : Nat) (w : World) (hr : GRow w ao xs) (hs : ao = none → cap = 0 ∧ xs.length = 0) (hn : xs.length ≤ 17592186044416) :
    Calls Tryz.prog 8 #[mxV r c ao xs.length cap] w fun e w' => ∃ g, e = .returned (mxV r c (some ⟨g, 0, none⟩) xs.length (xs.length + 12)) ∧ LentF w' g xs ∧ w.heap.size ≤ g ∧ Below w.heap.size w w' := by
  have hL := fun W h => lentR_any xs ao cap W h hs hn
  have hb0 : ∀ o p, Below w.heap.size w ((w.alloc o).alloc p) := fun o p => old_two (Below.refl _ _)
  go_enter Tryz.func8, Tryz.ntmps8
  go_wp2_with (go_at_call 9; refine (hL _ (hr.below (hb0 _ _))).mono ?_; rintro e w1 ⟨rfl, hrow, b1⟩; have MB := ((B3.new _ _ _ _ _).alloc _).below b1; have RB := (B3.newAt (n := w.heap.size + 1) (by go_simp) _ _ _ _).below b1; obtain ⟨c0, c1, c2, f0, f1, f2, _⟩ := id MB; obtain ⟨d0, d1, d2, g0, g1, g2, _⟩ := id RB)
  have hg : ((w.alloc (.cells #[.int .i64 r, .int .i64 c, .slice ao xs.length cap] 24)).alloc (.cells #[.int .i64 0, .int .i64 0, .slice none 0 0] 24)).heap.size = w.heap.size + 1 + 1 := by go_simp
  rw [hg] at hrow
  refine bodyPost_ret (v := mxV r c (some ⟨w.heap.size + 1 + 1, 0, none⟩) xs.length (xs.length + 12)) (by simp [results, Tryz.results8, go_sem, d0, d1, d2]) rfl ⟨w.heap.size + 1 + 1, rfl, ?_, by omega, ?_⟩
  · exact (((hrow.far (by omega) _ _).far (by omega) _ _).far (by omega) _ _).far (by omega) _ _
  · exact (((((old_two b1).setCell (by simp) _).setCell (by simp) _).setCell (by simp) _).setCell (by simp) _)
set_option maxHeartbeats 1000000 in
theorem keptM_any (r c : Int) (xs : List Nat) (ao : Option Addr) (cap g : Nat) (w : World) (hr : GRow w ao xs) (hF : FW xs) (hl : LentF w g xs) (hn : xs.length ≤ 17592186044416) :
    Calls Tryz.prog 13 #[mxV r c (some ⟨g, 0, none⟩) xs.length (xs.length + 12), mxV r c ao xs.length cap] w fun e w' => e = .returned (.bool true) ∧ Below w.heap.size w w' := by
  have hS := fun W h1 h2 => ksame_any r c xs r c xs (some ⟨g, 0, none⟩) ao (xs.length + 12) cap W h1 h2 hF hF (by omega) (by omega)
  rw [sameM_yes (sameL_yes rfl (fun _ _ => sameB_me _))] at hS
  have hK := fun W h1 h2 => keptR_any xs ao cap g W h1 hF h2 hn
  have hb0 : ∀ o p, Below w.heap.size w ((w.alloc o).alloc p) := fun o p => old_two (Below.refl _ _)
  go_enter Tryz.func13, Tryz.ntmps13
  go_wp2_with (first
    | (go_at_call 35; refine (hS _ (hl.row.below (hb0 _ _)) (hr.below (hb0 _ _))).mono ?_; rintro e w1 ⟨rfl, b1⟩; have bb := old_two b1; obtain ⟨c0, c1, c2, _⟩ := ((B3.new _ _ _ _ _).alloc _).below b1; obtain ⟨d0, d1, d2, _⟩ := (B3.newAt (n := w.heap.size + 1) (by go_simp) _ _ _ _).below b1)
    | (go_at_call 14; refine (hK _ (hr.below bb) (hl.below bb)).mono ?_; rintro e w2 ⟨rfl, b2⟩))
  go_ret
  exact ⟨rfl, bb.trans (b2.mono bb.size)⟩
end Go.Proofs.YtmbcmhncicbbjaaGreatDoor
