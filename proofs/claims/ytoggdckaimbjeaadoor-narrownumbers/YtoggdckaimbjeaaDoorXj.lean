/- What narrow's Split, the document's Bits, Same and Next, and the law's own bits answer, call by call. -/
import Derived.Test.YtoggdckaimbjeaaDoorXg
import Derived.Test.YtoggdckaimbjeaaDoorZr
namespace Go.Proofs.YtoggdckaimbjeaaDoor
open Go.RowKit

theorem nan_fin {c : Nat} (h : nanB c = true) : finB c = false := by
  unfold nanB at h; unfold finB
  have : 9218868437227405312 < rung c := by simpa using h
  simp; omega
theorem s_nan_fin {c : Nat} (h : S.nanB c = true) : S.finB c = false := by
  unfold S.nanB at h; unfold S.finB
  have : 2139095040 < S.rung c := by simpa using h
  simp; omega
/-- A box that has just been laid, in a later world: its cells, none of them frozen; and what is older stands. -/
theorem nbox {w w1 : World} {x0 x1 x2 : Value} {s : TypeId} (hb : Below (w.alloc (.cells #[x0, x1, x2] s)).heap.size (w.alloc (.cells #[x0, x1, x2] s)) w1) :
    (w1.cell? ⟨w.heap.size, 0, none⟩ = some x0 ∧ w1.cell? ⟨w.heap.size, 1, none⟩ = some x1 ∧ w1.cell? ⟨w.heap.size, 2, none⟩ = some x2) ∧
    (w1.frozen? ⟨w.heap.size, 0, none⟩ = false ∧ w1.frozen? ⟨w.heap.size, 1, none⟩ = false ∧ w1.frozen? ⟨w.heap.size, 2, none⟩ = false) ∧ Below w.heap.size w w1 := by
  have h := fun (o : Nat) => hb.cell (p := ⟨w.heap.size, o, none⟩) (by simp)
  have g := fun (o : Nat) => hb.frozen (p := ⟨w.heap.size, o, none⟩) (by simp)
  refine ⟨⟨?_, ?_, ?_⟩, ⟨?_, ?_, ?_⟩, below3 hb⟩
  · rw [h]; simp [go_sem]
  · rw [h]; simp [go_sem]
  · rw [h]; simp [go_sem]
  · rw [g]; simp [go_sem]
  · rw [g]; simp [go_sem]
  · rw [g]; simp [go_sem]
theorem nundrew {w w1 : World} (h : Below w.drew.heap.size w.drew w1) : Below w.heap.size w w1 := ⟨h.os, h.tape, h.output, h.size, h.block⟩
set_option maxHeartbeats 400000 in
theorem n_split_fin (a : Nat) (ha : a < 4294967296) (hf : S.finB a = true) (w : World) (hT : TabW w) :
    Calls Tryd.prog 26 #[.float .f32 a] w fun e w' => e = .returned (.tuple #[.agg #[.bool (sgn (bk a)), .int .u64 (spF (bk a)), .int .i64 (spE (bk a))], .bool true]) ∧ Below w.heap.size w w' := by
  have hn : S.nanB a = false := by
    have : S.rung a < 2139095040 := by simpa [S.finB] using hf
    unfold S.nanB; simp; omega
  have hb3 := (bk_parts hn).2.2.1
  have hbf : finB (bk a) = true := by rw [bk_fin hn]; exact hf
  go_enter Tryd.func26, Tryd.ntmps26
  go_wp2_with (first | (go_at_call 31; refine (n_back_any a ha hn _).mono ?_; rintro e w' ⟨rfl, rfl⟩) | (go_at_call 51; refine (split_fin _ hb3 hbf _ (tabW_below hT ((Below.refl _ _).alloc (Nat.le_refl _) _))).mono ?_; rintro e w1 ⟨rfl, b1⟩; obtain ⟨⟨c0, c1, c2⟩, ⟨f0, f1, f2⟩, ho⟩ := nbox b1))
  exact bodyPost_ret (v := .tuple #[.agg #[.bool (sgn (bk a)), .int .u64 (spF (bk a)), .int .i64 (spE (bk a))], .bool true]) (by simp [results, Tryd.results26, go_sem, c0, c1, c2]) rfl ⟨rfl, ((ho.setCell (by simp) _).setCell (by simp) _).setCell (by simp) _⟩
set_option maxHeartbeats 400000 in
theorem n_split_not (a : Nat) (ha : a < 4294967296) (hf : S.finB a = false) (w : World) :
    Calls Tryd.prog 26 #[.float .f32 a] w fun e w' => e = .returned (.tuple #[.agg #[.bool false, .int .u64 0, .int .i64 0], .bool false]) ∧ Below w.heap.size w w' := by
  cases hn : S.nanB a
  · have hb3 := (bk_parts hn).2.2.1
    have hbf : finB (bk a) = false := by rw [bk_fin hn]; exact hf
    go_enter Tryd.func26, Tryd.ntmps26
    go_wp2_with (first | (go_at_call 31; refine (n_back_any a ha hn _).mono ?_; rintro e w' ⟨rfl, rfl⟩) | (go_at_call 51; refine (split_inf _ hb3 hbf _).mono ?_; rintro e w1 ⟨rfl, b1⟩; obtain ⟨⟨c0, c1, c2⟩, ⟨f0, f1, f2⟩, ho⟩ := nbox b1))
    exact bodyPost_ret (v := .tuple #[.agg #[.bool false, .int .u64 0, .int .i64 0], .bool false]) (by simp [results, Tryd.results26, go_sem, c0, c1, c2]) rfl ⟨rfl, ((ho.setCell (by simp) _).setCell (by simp) _).setCell (by simp) _⟩
  · go_enter Tryd.func26, Tryd.ntmps26
    go_wp2_with (first | (go_at_call 31; refine (n_back_nan a ha hn _).mono ?_; rintro e w' ⟨c, rfl, c1, c2, rfl⟩) | (go_at_call 51; refine (split_inf _ c2 (nan_fin c1) _).mono ?_; rintro e w1 ⟨rfl, b1⟩; replace b1 := nundrew b1; obtain ⟨⟨c0, c1, c2⟩, ⟨f0, f1, f2⟩, ho⟩ := nbox b1))
    exact bodyPost_ret (v := .tuple #[.agg #[.bool false, .int .u64 0, .int .i64 0], .bool false]) (by simp [results, Tryd.results26, go_sem, c0, c1, c2]) rfl ⟨rfl, ((ho.setCell (by simp) _).setCell (by simp) _).setCell (by simp) _⟩
set_option maxHeartbeats 400000 in
theorem r_bits_any (a : Nat) (ha : a < 4294967296) (w : World) :
    Calls Tryd.prog 28 #[.float .f32 a] w fun e w' => e = .returned (.int .u32 (bitsN a)) ∧ w' = w := by
  have fa := run_sbits a
  have h1 := s_ne_self a ha
  unfold bitsN
  cases hn : S.nanB a <;>
  · rw [hn] at h1
    go_enter Tryd.func28, Tryd.ntmps28
    go_wp2
    go_ret
    exact ⟨rfl, rfl⟩
set_option maxHeartbeats 400000 in
theorem r_same_any (a b : Nat) (ha : a < 4294967296) (hb : b < 4294967296) (w : World) :
    Calls Tryd.prog 38 #[.float .f32 a, .float .f32 b] w fun e w' => e = .returned (.bool (sSame a b)) ∧ w' = w := by
  have fa := run_sbits a
  have fb := run_sbits b
  have h1 := s_ne_self a ha
  have h2 := s_ne_self b hb
  by_cases he : a = b
  · have hq : ((a : Int) == (b : Int)) = true := by simp; omega
    have HE : Hid (sSame a b = true) := (show sSame a b = true by unfold sSame; simp [he])
    clear he
    go_enter Tryd.func38, Tryd.ntmps38
    go_wp2
    go_ret
    exact ⟨end_bool HE.out.symm, rfl⟩
  · have hq : ((a : Int) == (b : Int)) = false := by simp; omega
    have HE : Hid (sSame a b = (S.nanB a && S.nanB b)) := (show sSame a b = (S.nanB a && S.nanB b) by unfold sSame; simp [he])
    clear he
    cases na : S.nanB a <;>
    · rw [na] at h1 HE
      go_enter Tryd.func38, Tryd.ntmps38
      go_wp2
      go_ret
      exact ⟨end_bool (by rw [HE.out]; rfl), rfl⟩
set_option maxHeartbeats 400000 in
theorem l_bits_any (a b : Nat) (ha : a < 4294967296) (hb : b < 4294967296) (w : World) :
    Calls Tryd.prog 11 #[.float .f32 a, .float .f32 b] w fun e w' => e = .returned (.bool (sSame a b)) ∧ w' = w := by
  go_enter Tryd.func11, Tryd.ntmps11
  go_wp2_with (go_at_call 38; refine (r_same_any a b ha hb _).mono ?_; rintro e w' ⟨rfl, rfl⟩)
  go_ret
  exact ⟨rfl, rfl⟩
set_option maxHeartbeats 1000000 in
set_option maxRecDepth 100000 in
theorem r_next_num (a : Nat) (up : Bool) (ha : a < 4294967296) (hn : S.nanB a = false) (w : World) :
    Calls Tryd.prog 30 #[.float .f32 a, .bool up] w fun e w' => e = .returned (.float .f32 (sNext a up)) ∧ w' = w := by
  have fa := run_sbits a
  have ff := run_sfrom
  have h1 := s_ne_self a ha
  rw [hn] at h1
  have hr := s_nan_le hn
  have hw := s_rung_of a ha
  obtain ⟨A, hA⟩ : ∃ A : Int, (a : Int) = A := ⟨_, rfl⟩
  have a0 : 0 ≤ A ∧ A < 4294967296 := by omega
  obtain ⟨P, hP⟩ : ∃ P : Int, S.place a = P := ⟨_, rfl⟩
  have HN : Hid (sNext a up = sAt (if up then min P 2139095039 + 1 else max P (-2139095039) - 1)) := (show sNext a up = _ by unfold sNext; rw [hn, hP]; rfl)
  have hb : -2139095040 ≤ P ∧ P ≤ 2139095040 := by rw [← hP]; exact s_place_bd hn
  have hPA : (A < 2147483648 ∧ P = A) ∨ (2147483648 ≤ A ∧ P = 2147483648 - A) := by
    rw [← hP, ← hA]
    unfold S.place S.sgn S.rung
    by_cases h : 2147483648 ≤ a
    · right; simp [h]; omega
    · left; simp [h]; omega
  have hm : A % 2147483648 = if A < 2147483648 then A else A - 2147483648 := by split <;> omega
  rw [hA] at fa
  clear hr hw hP hA
  have HB : Hid (-2139095040 ≤ P ∧ P ≤ 2139095040) := hb
  rcases hPA with ⟨k1, rfl⟩ | ⟨k1, k2⟩
  · rw [if_pos k1] at hm
    cases up <;>
    · go_enter Tryd.func30, Tryd.ntmps30
      go_wp2
      all_goals
        go_ret
        have hB := HB.out
        refine ⟨end_flt32 ?_, rfl⟩
        rw [HN.out]
        simp only [Bool.false_eq_true, if_false, if_true]
        unfold sAt
        split <;> omega
  · rw [if_neg (by omega)] at hm
    obtain rfl : A = 2147483648 - P := by omega
    clear k2
    have hm2 : (2147483648 - P) % 2147483648 = -P := by rw [hm]; omega
    clear hm
    cases up <;>
    · go_enter Tryd.func30, Tryd.ntmps30
      go_wp2
      all_goals
        go_ret
        have hB := HB.out
        refine ⟨end_flt32 ?_, rfl⟩
        rw [HN.out]
        simp only [Bool.false_eq_true, if_false, if_true]
        unfold sAt
        split <;> omega
set_option maxHeartbeats 400000 in
theorem r_next_nan (a : Nat) (up : Bool) (ha : a < 4294967296) (hn : S.nanB a = true) (w : World) :
    Calls Tryd.prog 30 #[.float .f32 a, .bool up] w fun e w' => e = .returned (.float .f32 a) ∧ w' = w := by
  have h1 := s_ne_self a ha
  rw [hn] at h1
  go_enter Tryd.func30, Tryd.ntmps30
  go_wp2
  go_ret
  exact ⟨rfl, rfl⟩
end Go.Proofs.YtoggdckaimbjeaaDoor
