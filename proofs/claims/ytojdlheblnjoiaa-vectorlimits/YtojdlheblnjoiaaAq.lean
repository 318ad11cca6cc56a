/- VectorLimits: lists of as many noughts as there may be, and of one more; edges; NaN. -/
import Derived.Test.YtojdlheblnjoiaaAp
namespace Go.Proofs.Ytojdlheblnjoiaa
open Go.RowKit

/-- n noughts. -/
def zr (n : Nat) : List Nat := List.replicate n 0
theorem zr_len (n : Nat) : (zr n).length = n := List.length_replicate
theorem zr_at (n j : Nat) : (zr n).getD j 0 = 0 := by
  unfold zr
  rw [List.getD_eq_getElem?_getD, List.getElem?_replicate]
  split <;> rfl
theorem zr_fw (n : Nat) : FW (zr n) := fun x hx => by
  have := List.eq_of_mem_replicate hx
  omega
/-- A list of n noughts. -/
def ZR (A : List Nat) (n : Nat) : Prop := A.length = n ∧ FW A ∧ ∀ j, A.getD j 0 = 0
theorem zr_row (w : World) (n : Nat) : GRow (w.alloc (.cells (madeCells #[.float .f64 0] n) 22)) (some ⟨w.heap.size, 0, none⟩) (zr n) :=
  (RRow.made w n).grow (zr_len n) (fun j _ => zr_at n j)
theorem zr_ZR (n : Nat) : ZR (zr n) n := ⟨zr_len n, zr_fw n, zr_at n⟩
theorem dt_zero {A B : List Nat} {n m : Nat} (hA : ZR A n) (hB : ZR B m) (k : Nat) : dtO A B k = some 0 := by
  induction k with
  | zero => rfl
  | succ k ih =>
    rw [dtO, ih, hA.2.2, hB.2.2]
    kernel_rfl
theorem dot_zero {A B : List Nat} {n m : Nat} (hA : ZR A n) (hB : ZR B m) : dotF A B = some 0 := by
  unfold dotF
  split
  · exact dt_zero hA hB _
  · rfl
theorem ifFit_zero {n m : Nat} (h : fitN n m = 0) (o : Nat → Option Nat) : (ifFit n m (tab n o)).length = n := by
  unfold ifFit; rw [if_pos h, tab_len]
theorem lim_add (n m : Nat) (A B : List Nat) (ao bo : Option Addr) (w : World) (hA : ZR A n) (hB : ZR B m) (g1 : GRow w ao A) (g2 : GRow w bo B) (hn : n ≤ 5000) (hm : m ≤ 5000) :
    Calls Try.prog 7 #[.slice ao n n, .slice bo m m] w fun e w' => ∃ v, e = .returned (.tuple #[v, .int .i64 (fitN n m)]) ∧ Below w.heap.size w w' := by
  have h := vadd_any A B ao bo n m w g1 g2 hA.2.1 hB.2.1 (by rw [hA.1]; omega) (by rw [hB.1]; omega)
  simp only [hA.1, hB.1] at h
  refine h.mono ?_
  rintro e w' ⟨v, rfl, _, _, _, _, _, _, _, _, hb⟩
  exact ⟨v, rfl, hb⟩
theorem lim_sub (n m : Nat) (A B : List Nat) (ao bo : Option Addr) (w : World) (hA : ZR A n) (hB : ZR B m) (g1 : GRow w ao A) (g2 : GRow w bo B) (hn : n ≤ 5000) (hm : m ≤ 5000) :
    Calls Try.prog 9 #[.slice ao n n, .slice bo m m] w fun e w' => ∃ v, e = .returned (.tuple #[v, .int .i64 (fitN n m)]) ∧ Below w.heap.size w w' := by
  have h := vsub_any A B ao bo n m w g1 g2 hA.2.1 hB.2.1 (by rw [hA.1]; omega) (by rw [hB.1]; omega)
  simp only [hA.1, hB.1] at h
  refine h.mono ?_
  rintro e w' ⟨v, rfl, _, _, _, _, _, _, _, _, hb⟩
  exact ⟨v, rfl, hb⟩
theorem lim_axpy (n m : Nat) (A B : List Nat) (ao bo : Option Addr) (w : World) (hA : ZR A n) (hB : ZR B m) (g1 : GRow w ao A) (g2 : GRow w bo B) (hn : n ≤ 5000) (hm : m ≤ 5000) :
    Calls Try.prog 12 #[.float .f64 4607182418800017408, .slice ao n n, .slice bo m m] w fun e w' => ∃ co k cap, e = .returned (.tuple #[.slice co k cap, .int .i64 (fitN n m)]) ∧ Hid (fitN n m = 0 → k = n) ∧ Below w.heap.size w w' := by
  have h := vaxpy_any 4607182418800017408 A B ao bo n m w (by omega) g1 g2 hA.2.1 hB.2.1 (by rw [hA.1]; omega) (by rw [hB.1]; omega)
  simp only [hA.1, hB.1] at h
  refine h.mono ?_
  rintro e w' ⟨v, rfl, co, cap, rs, rfl, hl, _, _, _, hb⟩
  exact ⟨co, _, cap, rfl, (fun h0 => by rw [hl.1, ifFit_zero h0]), hb⟩
theorem lim_dot (n m : Nat) (A B : List Nat) (ao bo : Option Addr) (w : World) (hA : ZR A n) (hB : ZR B m) (g1 : GRow w ao A) (g2 : GRow w bo B) (hn : n ≤ 5000) (hm : m ≤ 5000) :
    Calls Try.prog 14 #[.slice ao n n, .slice bo m m] w fun e w' => e = .returned (.tuple #[.float .f64 0, .int .i64 (fitN n m)]) ∧ Below w.heap.size w w' := by
  have h := vdot_any A B ao bo n m w g1 g2 hA.2.1 hB.2.1 (by rw [hA.1]; omega) (by rw [hB.1]; omega)
  simp only [hA.1, hB.1, dot_zero hA hB] at h
  refine h.mono ?_
  rintro e w' ⟨r, rfl, hr, hb⟩
  have e0 : r = 0 := hr.2
  subst e0
  exact ⟨rfl, hb⟩
theorem lim_scale (n : Nat) (A : List Nat) (ao : Option Addr) (w : World) (hA : ZR A n) (g1 : GRow w ao A) (hn : n ≤ 5000) :
    Calls Try.prog 17 #[.float .f64 4611686018427387904, .slice ao n n] w fun e w' => ∃ co cap, e = .returned (.slice co n cap) ∧ Below w.heap.size w w' := by
  have h := vscale_any 4611686018427387904 A ao n w (by omega) g1 hA.2.1 (by rw [hA.1]; omega)
  simp only [hA.1] at h
  refine h.mono ?_
  rintro e w' ⟨v, rfl, co, cap, rs, rfl, hl, _, _, _, hb⟩
  have e0 : rs.length = n := by rw [hl.1, tab_len]
  rw [e0]
  exact ⟨co, cap, rfl, hb⟩
theorem fw3 {a b c : Nat} (ha : a < 18446744073709551616) (hb : b < 18446744073709551616) (hc : c < 18446744073709551616) : FW [a, b, c] := fun x hx => by
  simp at hx; rcases hx with rfl | rfl | rfl <;> assumption
theorem lim_sums (t : Nat) (xs ys : List Nat) (ao bo : Option Addr) (w : World) (ht : t < 18446744073709551616) (g1 : GRow w ao xs) (g2 : GRow w bo ys) (h1 : xs.length = 3) (h2 : ys.length = 3) (f1 : FW xs) (f2 : FW ys) :
    Calls Try.prog 3 #[.float .f64 t, .slice ao 3 3, .slice bo 3 3] w fun e w' => e = .returned (.bool true) ∧ Below w.heap.size w w' := by
  have h := sums_row t xs ao 3 ys bo 3 w ht g1 f1 (by omega) (by omega) g2 f2 (by omega) (by omega)
  rw [h1, h2] at h
  exact h
theorem lim_tells (xs ys : List Nat) (ao bo : Option Addr) (w : World) (g1 : GRow w ao xs) (g2 : GRow w bo ys) (h1 : xs.length = 3) (h2 : ys.length = 3) (f1 : FW xs) (f2 : FW ys) :
    Calls Try.prog 4 #[.slice ao 3 3, .slice bo 3 3] w fun e w' => e = .returned (.bool true) ∧ Below w.heap.size w w' := by
  have h := tells_row xs ao 3 ys bo 3 w g1 f1 (by omega) (by omega) g2 f2 (by omega) (by omega)
  rw [h1, h2] at h
  exact h
theorem lim_same (x y : Nat) (ao bo : Option Addr) (cap cap2 : Nat) (w : World) (g1 : GRow w ao [x]) (g2 : GRow w bo [y]) (hx : x < 18446744073709551616) (hy : y < 18446744073709551616) :
    Calls Try.prog 22 #[.slice ao 1 cap, .slice bo 1 cap2] w fun e w' => e = .returned (.bool (sameB x y)) ∧ Below w.heap.size w w' := by
  have h := vsame_any [x] [y] ao bo cap cap2 w g1 g2 (fun z hz => by simp at hz; omega) (fun z hz => by simp at hz; omega) (by simp) (by simp)
  have e : sameL [x] [y] = sameB x y := by
    show (true && (sameB x y && true)) = _
    rw [Bool.true_and, Bool.and_true]
  rw [e] at h
  exact h
theorem row_tail {w : World} {b x y : Nat} (h : GRow w (some ⟨b, 0, none⟩) [x, y]) : GRow w (some ⟨b, 0, none⟩) [x] ∧ GRow w (some ⟨b, 1, none⟩) [y] := by
  rcases h with h | ⟨b', off, e, hc⟩
  · simp at h
  · cases e
    refine ⟨Or.inr ⟨b, 0, rfl, fun j hj => ?_⟩, Or.inr ⟨b, 1, rfl, fun j hj => ?_⟩⟩
    · have : j = 0 := by simp at hj; exact hj
      subst this
      exact hc 0 (by simp)
    · have : j = 0 := by simp at hj; exact hj
      subst this
      exact hc 1 (by simp)
theorem made_zero (n : Nat) (hn : n ≤ 5000) : ∃ (o : Obj) (A : List Nat), ZR A n ∧ (∀ W : World, (Instr.makeSlice 23 (.int .i64 (n : Int)) (.int .i64 (n : Int))).run Try.prog W = .ok (.slice (some ⟨W.heap.size, 0, none⟩) n n) (W.alloc o)) ∧ (∀ W : World, GRow (W.alloc o) (some ⟨W.heap.size, 0, none⟩) A) :=
  ⟨.cells (madeCells #[.float .f64 0] n) 22, zr n, zr_ZR n, fun W => run_make_row' (P := Try.prog) 23 22 (.float .f64 0) 8 Try.underlying23 Try.infoF rfl .i64 .i64 n (by omega) (by omega) W, fun W => zr_row W n⟩
theorem below_then {w W W' : World} (h : Below w.heap.size w W) (b : Below W.heap.size W W') : Below w.heap.size w W' := h.trans (b.mono h.size)
theorem row_at' {w : World} {m n : Nat} {xs : List Nat} (h : GRow w (some ⟨m, 0, none⟩) xs) (e : m = n) : GRow w (some ⟨n, 0, none⟩) xs := by subst e; exact h
set_option maxRecDepth 100000 in
set_option maxHeartbeats 8000000 in
theorem limits_law (w : World) : Calls Try.prog 5 #[] w fun e w' => e = .returned (.bool true) ∧ Below w.heap.size w w' := by
  obtain ⟨oA, A, ZA, hA0, rowA⟩ := made_zero 4097 (by omega)
  obtain ⟨oB, B, ZB, hB1, rowB⟩ := made_zero 4096 (by omega)
  have hmk1 : ∀ W : World, (Instr.makeSlice 23 (.int .i64 4097) (.int .i64 4097)).run Try.prog W = .ok (.slice (some ⟨W.heap.size, 0, none⟩) 4097 4097) (W.alloc oA) := hA0
  have hmk2 : ∀ W : World, (Instr.makeSlice 23 (.int .i64 4096) (.int .i64 4096)).run Try.prog W = .ok (.slice (some ⟨W.heap.size, 0, none⟩) 4096 4096) (W.alloc oB) := hB1
  clear hA0 hB1
  have f1 : fitN 4097 4097 = 3 := by decide
  have f2 : fitN 4097 4096 = 4 := by decide
  have f3 : fitN 4096 4096 = 0 := by decide
  have ff := run_ffrom
  have ra : GRow ((w.drew.alloc oA).alloc oB) (some ⟨w.heap.size, 0, none⟩) A := row_on (rowA w.drew) oB
  have rb : GRow ((w.drew.alloc oA).alloc oB) (some ⟨w.heap.size + 1, 0, none⟩) B := row_at' (rowB _) (by simp)
  have sa : GRow ((w.drew.alloc oB).alloc oA) (some ⟨w.heap.size, 0, none⟩) B := row_on (rowB w.drew) oA
  have sb : GRow ((w.drew.alloc oB).alloc oA) (some ⟨w.heap.size + 1, 0, none⟩) A := row_at' (rowA _) (by simp)
  have hB0 : ∀ o p, Below w.heap.size w ((w.drew.alloc o).alloc p) := fun o p => (((Below.refl w.heap.size w).drew).alloc (Nat.le_refl _) _).alloc (by simp) _
  go_enter Try.func5, Try.ntmps5
  go_wp2
  go_region_with (fail)
  · have ga := ra
    have gb := rb
    have HB := hB0 oA oB
    go_upto_region 11 with (first
      | (go_at_call 7; refine (lim_add _ _ _ _ _ _ _ (by assumption) (by assumption) (by assumption) (by assumption) (by omega) (by omega)).mono ?_; rintro e wz ⟨v, rfl, bz⟩; have ga := GRow.below (xs := A) (by assumption) bz; have gb := GRow.below (xs := B) (by assumption) bz; have HB := HB.trans (bz.mono HB.size))
      | (go_at_call 9; refine (lim_sub _ _ _ _ _ _ _ (by assumption) (by assumption) (by assumption) (by assumption) (by omega) (by omega)).mono ?_; rintro e wz ⟨v, rfl, bz⟩; have ga := GRow.below (xs := A) (by assumption) bz; have gb := GRow.below (xs := B) (by assumption) bz; have HB := HB.trans (bz.mono HB.size))
      | (go_at_call_of 12 (Value.float FloatKind.f64 4607182418800017408); refine (lim_axpy _ _ _ _ _ _ _ (by assumption) (by assumption) (by assumption) (by assumption) (by omega) (by omega)).mono ?_; rintro e wz ⟨co, kk, cap, rfl, hkk, bz⟩; have ga := GRow.below (xs := A) (by assumption) bz; have gb := GRow.below (xs := B) (by assumption) bz; have HB := HB.trans (bz.mono HB.size); try (have hk3 := hkk.out f3; subst hk3))
      | (go_at_call 14; refine (lim_dot _ _ _ _ _ _ _ (by assumption) (by assumption) (by assumption) (by assumption) (by omega) (by omega)).mono ?_; rintro e wz ⟨rfl, bz⟩; have ga := GRow.below (xs := A) (by assumption) bz; have gb := GRow.below (xs := B) (by assumption) bz; have HB := HB.trans (bz.mono HB.size)))
    clear ra rb sa sb hB0 hmk1 hmk2 rowA rowB
    go_wp2
    go_loopg [17] 40 (fun g i wr => ∃ k : Nat, k ≤ 40 ∧ g = 40 - k ∧ i = .int .i64 k ∧ GRow wr (some ⟨w.heap.size, 0, none⟩) A ∧ Below w.heap.size w wr)
    case atStart => exact ⟨0, by omega, rfl, rfl, ga, HB⟩
    case round =>
      clear ga HB
      obtain ⟨k, hk, hg, rfl, ga, HB⟩ := hrel
      have HG : Hid (gk = 40 - k) := hg
      clear hg
      by_cases hlt : k < 40
      · have i1 : (k : Int) < 40 := by omega
        go_upto_region 15 with (go_at_call 26; refine (edge_int _ (by omega) (by omega) _).mono ?_; rintro e w' ⟨r3, rfl, hr3, h'⟩; subst w')
        rename_i r1 hr1 r2 hr2 _ _
        go_upto_region 16 with (go_at_call 26; refine (edge_int _ (by omega) (by omega) _).mono ?_; rintro e w' ⟨r6, rfl, hr6, h'⟩; subst w')
        rename_i r4 hr4 r5 hr5 _ _
        have gl : GRow ((wr.alloc (.cells #[.float .f64 r1, .float .f64 r2, .float .f64 r3] 22)).alloc (.cells #[.float .f64 r4, .float .f64 r5, .float .f64 r6] 22)) (some ⟨wr.heap.size, 0, none⟩) [r1, r2, r3] := row_on (row_at rfl rfl) _
        have gm : GRow ((wr.alloc (.cells #[.float .f64 r1, .float .f64 r2, .float .f64 r3] 22)).alloc (.cells #[.float .f64 r4, .float .f64 r5, .float .f64 r6] 22)) (some ⟨wr.heap.size + 1, 0, none⟩) [r4, r5, r6] := row_at (by simp) rfl
        have fX := fw3 hr1 hr2 hr3
        have fY := fw3 hr4 hr5 hr6
        have lX : [r1, r2, r3].length = 3 := rfl
        have lY : [r4, r5, r6].length = 3 := rfl
        generalize [r1, r2, r3] = X at gl fX lX
        generalize [r4, r5, r6] = Y at gm fY lY
        have gA := row_on (row_on ga (.cells #[.float .f64 r1, .float .f64 r2, .float .f64 r3] 22)) (.cells #[.float .f64 r4, .float .f64 r5, .float .f64 r6] 22)
        have HB := (HB.alloc HB.size (.cells #[.float .f64 r1, .float .f64 r2, .float .f64 r3] 22)).alloc (by have := HB.size; simp; omega) (.cells #[.float .f64 r4, .float .f64 r5, .float .f64 r6] 22)
        go_wp2_with (first
          | (go_at_call 26; refine (edge_int _ (by omega) (by omega) _).mono ?_; rintro e w' ⟨r7, rfl, hr7, h'⟩; subst w')
          | (go_at_call 3; refine (lim_sums _ _ _ _ _ _ hr7 gl gm lX lY fX fY).mono ?_; rintro e wz ⟨rfl, bz⟩; replace gl := gl.below bz; replace gm := gm.below bz; replace gA := gA.below bz; replace HB := HB.trans (bz.mono HB.size))
          | (go_at_call 4; refine (lim_tells _ _ _ _ _ (by assumption) (by assumption) (by assumption) (by assumption) (by assumption) (by assumption)).mono ?_; rintro e wz ⟨rfl, bz⟩; replace gl := gl.below bz; replace gm := gm.below bz; replace gA := gA.below bz; replace HB := HB.trans (bz.mono HB.size)))
        go_roundg (40 - (k + 1))
        case measure => rw [HG.out]; omega
        case rel => exact ⟨k + 1, by omega, rfl, by go_num, gA, HB⟩
      · have i1 : ¬ (k : Int) < 40 := by omega
        have q1 : sameB 9221120237041090561 18444492273895866369 = true := by decide
        have q2 : sameB 9221120237041090561 0 = false := by decide
        have q3 : sameB 0 18444492273895866369 = false := by decide
        go_upto_region 19 with (go_at_call 27; refine (vnan _).mono ?_; rintro e w' ⟨rfl, h'⟩; subst w')
        have gn : GRow (wr.alloc (.cells #[.float .f64 9221120237041090561, .float .f64 18444492273895866369] 22)) (some ⟨wr.heap.size, 0, none⟩) [9221120237041090561, 18444492273895866369] := row_at rfl rfl
        obtain ⟨gn1, gn2⟩ := row_tail gn
        have gA := row_on ga (.cells #[.float .f64 9221120237041090561, .float .f64 18444492273895866369] 22)
        have HB := HB.alloc HB.size (.cells #[.float .f64 9221120237041090561, .float .f64 18444492273895866369] 22)
        clear gn ga
        have dr : ∀ W : World, Below W.heap.size W W.drew := fun W => (Below.refl _ _).drew
        replace gn1 := gn1.below (dr _)
        replace gn2 := gn2.below (dr _)
        replace gA := gA.below (dr _)
        replace HB := below_then HB (dr _)
        go_wp2
        go_region_with (go_at_call 22; refine (lim_same _ _ _ _ _ _ _ (by first | assumption | exact row_on (by assumption) _ | exact row_at rfl rfl) (by first | assumption | exact row_on (by assumption) _ | exact row_at rfl rfl) (by decide) (by decide)).mono ?_; rintro e wz ⟨rfl, bz⟩; have gn1 := GRow.below (by first | exact gn1 | exact row_on gn1 _) bz; have gn2 := GRow.below (by first | exact gn2 | exact row_on gn2 _) bz; have gA := GRow.below (by first | exact gA | exact row_on gA _) bz; have HB := below_then (by first | exact HB | exact HB.alloc HB.size _) bz)
        all_goals
          go_wp2_with (first
            | (go_at_call 17; refine (lim_scale _ _ _ _ ZA gA (by omega)).mono ?_; rintro e wz ⟨co, cap, rfl, bz⟩; have HB := below_then HB bz)
            | (go_at_call 19; refine (vawake _).mono ?_; rintro e wz ⟨rfl, bz⟩; have HB := below_then HB bz))
          go_ret
          exact ⟨rfl, HB⟩
  · have ga := sb
    have gb := sa
    have HB := hB0 oB oA
    go_upto_region 11 with (first
      | (go_at_call 7; refine (lim_add _ _ _ _ _ _ _ (by assumption) (by assumption) (by assumption) (by assumption) (by omega) (by omega)).mono ?_; rintro e wz ⟨v, rfl, bz⟩; have ga := GRow.below (xs := A) (by assumption) bz; have gb := GRow.below (xs := B) (by assumption) bz; have HB := HB.trans (bz.mono HB.size))
      | (go_at_call 9; refine (lim_sub _ _ _ _ _ _ _ (by assumption) (by assumption) (by assumption) (by assumption) (by omega) (by omega)).mono ?_; rintro e wz ⟨v, rfl, bz⟩; have ga := GRow.below (xs := A) (by assumption) bz; have gb := GRow.below (xs := B) (by assumption) bz; have HB := HB.trans (bz.mono HB.size))
      | (go_at_call_of 12 (Value.float FloatKind.f64 4607182418800017408); refine (lim_axpy _ _ _ _ _ _ _ (by assumption) (by assumption) (by assumption) (by assumption) (by omega) (by omega)).mono ?_; rintro e wz ⟨co, kk, cap, rfl, hkk, bz⟩; have ga := GRow.below (xs := A) (by assumption) bz; have gb := GRow.below (xs := B) (by assumption) bz; have HB := HB.trans (bz.mono HB.size); try (have hk3 := hkk.out f3; subst hk3))
      | (go_at_call 14; refine (lim_dot _ _ _ _ _ _ _ (by assumption) (by assumption) (by assumption) (by assumption) (by omega) (by omega)).mono ?_; rintro e wz ⟨rfl, bz⟩; have ga := GRow.below (xs := A) (by assumption) bz; have gb := GRow.below (xs := B) (by assumption) bz; have HB := HB.trans (bz.mono HB.size)))
    clear ra rb sa sb hB0 hmk1 hmk2 rowA rowB
    go_wp2
    go_loopg [17] 40 (fun g i wr => ∃ k : Nat, k ≤ 40 ∧ g = 40 - k ∧ i = .int .i64 k ∧ GRow wr (some ⟨w.heap.size + 1, 0, none⟩) A ∧ Below w.heap.size w wr)
    case atStart => exact ⟨0, by omega, rfl, rfl, ga, HB⟩
    case round =>
      clear ga HB
      obtain ⟨k, hk, hg, rfl, ga, HB⟩ := hrel
      have HG : Hid (gk = 40 - k) := hg
      clear hg
      by_cases hlt : k < 40
      · have i1 : (k : Int) < 40 := by omega
        go_upto_region 15 with (go_at_call 26; refine (edge_int _ (by omega) (by omega) _).mono ?_; rintro e w' ⟨r3, rfl, hr3, h'⟩; subst w')
        rename_i r1 hr1 r2 hr2 _ _
        go_upto_region 16 with (go_at_call 26; refine (edge_int _ (by omega) (by omega) _).mono ?_; rintro e w' ⟨r6, rfl, hr6, h'⟩; subst w')
        rename_i r4 hr4 r5 hr5 _ _
        have gl : GRow ((wr.alloc (.cells #[.float .f64 r1, .float .f64 r2, .float .f64 r3] 22)).alloc (.cells #[.float .f64 r4, .float .f64 r5, .float .f64 r6] 22)) (some ⟨wr.heap.size, 0, none⟩) [r1, r2, r3] := row_on (row_at rfl rfl) _
        have gm : GRow ((wr.alloc (.cells #[.float .f64 r1, .float .f64 r2, .float .f64 r3] 22)).alloc (.cells #[.float .f64 r4, .float .f64 r5, .float .f64 r6] 22)) (some ⟨wr.heap.size + 1, 0, none⟩) [r4, r5, r6] := row_at (by simp) rfl
        have fX := fw3 hr1 hr2 hr3
        have fY := fw3 hr4 hr5 hr6
        have lX : [r1, r2, r3].length = 3 := rfl
        have lY : [r4, r5, r6].length = 3 := rfl
        generalize [r1, r2, r3] = X at gl fX lX
        generalize [r4, r5, r6] = Y at gm fY lY
        have gA := row_on (row_on ga (.cells #[.float .f64 r1, .float .f64 r2, .float .f64 r3] 22)) (.cells #[.float .f64 r4, .float .f64 r5, .float .f64 r6] 22)
        have HB := (HB.alloc HB.size (.cells #[.float .f64 r1, .float .f64 r2, .float .f64 r3] 22)).alloc (by have := HB.size; simp; omega) (.cells #[.float .f64 r4, .float .f64 r5, .float .f64 r6] 22)
        go_wp2_with (first
          | (go_at_call 26; refine (edge_int _ (by omega) (by omega) _).mono ?_; rintro e w' ⟨r7, rfl, hr7, h'⟩; subst w')
          | (go_at_call 3; refine (lim_sums _ _ _ _ _ _ hr7 gl gm lX lY fX fY).mono ?_; rintro e wz ⟨rfl, bz⟩; replace gl := gl.below bz; replace gm := gm.below bz; replace gA := gA.below bz; replace HB := HB.trans (bz.mono HB.size))
          | (go_at_call 4; refine (lim_tells _ _ _ _ _ (by assumption) (by assumption) (by assumption) (by assumption) (by assumption) (by assumption)).mono ?_; rintro e wz ⟨rfl, bz⟩; replace gl := gl.below bz; replace gm := gm.below bz; replace gA := gA.below bz; replace HB := HB.trans (bz.mono HB.size)))
        go_roundg (40 - (k + 1))
        case measure => rw [HG.out]; omega
        case rel => exact ⟨k + 1, by omega, rfl, by go_num, gA, HB⟩
      · have i1 : ¬ (k : Int) < 40 := by omega
        have q1 : sameB 9221120237041090561 18444492273895866369 = true := by decide
        have q2 : sameB 9221120237041090561 0 = false := by decide
        have q3 : sameB 0 18444492273895866369 = false := by decide
        go_upto_region 19 with (go_at_call 27; refine (vnan _).mono ?_; rintro e w' ⟨rfl, h'⟩; subst w')
        have gn : GRow (wr.alloc (.cells #[.float .f64 9221120237041090561, .float .f64 18444492273895866369] 22)) (some ⟨wr.heap.size, 0, none⟩) [9221120237041090561, 18444492273895866369] := row_at rfl rfl
        obtain ⟨gn1, gn2⟩ := row_tail gn
        have gA := row_on ga (.cells #[.float .f64 9221120237041090561, .float .f64 18444492273895866369] 22)
        have HB := HB.alloc HB.size (.cells #[.float .f64 9221120237041090561, .float .f64 18444492273895866369] 22)
        clear gn ga
        have dr : ∀ W : World, Below W.heap.size W W.drew := fun W => (Below.refl _ _).drew
        replace gn1 := gn1.below (dr _)
        replace gn2 := gn2.below (dr _)
        replace gA := gA.below (dr _)
        replace HB := below_then HB (dr _)
        go_wp2
        go_region_with (go_at_call 22; refine (lim_same _ _ _ _ _ _ _ (by first | assumption | exact row_on (by assumption) _ | exact row_at rfl rfl) (by first | assumption | exact row_on (by assumption) _ | exact row_at rfl rfl) (by decide) (by decide)).mono ?_; rintro e wz ⟨rfl, bz⟩; have gn1 := GRow.below (by first | exact gn1 | exact row_on gn1 _) bz; have gn2 := GRow.below (by first | exact gn2 | exact row_on gn2 _) bz; have gA := GRow.below (by first | exact gA | exact row_on gA _) bz; have HB := below_then (by first | exact HB | exact HB.alloc HB.size _) bz)
        all_goals
          go_wp2_with (first
            | (go_at_call 17; refine (lim_scale _ _ _ _ ZA gA (by omega)).mono ?_; rintro e wz ⟨co, cap, rfl, bz⟩; have HB := below_then HB bz)
            | (go_at_call 19; refine (vawake _).mono ?_; rintro e wz ⟨rfl, bz⟩; have HB := below_then HB bz))
          go_ret
          exact ⟨rfl, HB⟩
end Go.Proofs.Ytojdlheblnjoiaa
