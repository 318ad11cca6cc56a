/- NarrowTells, whatever narrow float and bits it is given: the walk (the library's table lying as its initialiser lays it). -/
import Derived.Test.YtoggdckaimbjeaaDoorXj
namespace Go.Proofs.YtoggdckaimbjeaaDoor
open Go.RowKit

theorem neg_lt32 (a : Nat) (ha : a < 4294967296) : Op.negFloat .f32 a < 4294967296 := by
  have h : Op.negFloat .f32 a = a ^^^ 2147483648 := by unfold Op.negFloat; congr 1
  rw [h]
  exact Nat.xor_lt_two_pow (n := 32) ha (by omega)
theorem sSame_self2 (a : Nat) : sSame a a = true := by unfold sSame; simp
set_option maxHeartbeats 4000000 in
set_option maxRecDepth 100000 in
theorem tells_fin (a u : Nat) (ha : a < 4294967296) (hu : u < 4294967296) (hf : S.finB a = true) (w : World) (hT : TabW w) :
    Calls Tryd.prog 4 #[.float .f32 a, .int .u32 (u : Int)] w fun e w' => e = .returned (.bool true) ∧ Below w.heap.size w w' := by
  have hn : S.nanB a = false := by
    have : S.rung a < 2139095040 := by simpa [S.finB] using hf
    unfold S.nanB; simp; omega
  have hbl := (bk_parts hn).2.2.1
  have hbf : finB (bk a) = true := by rw [bk_fin hn]; exact hf
  have hcv := wide_num (P := Tryd.prog) Tryd.underlying22 Tryd.underlying23 ha hn
  have ff := run_sfrom u
  rw [show ((u : Int)).toNat = u by omega] at ff
  have hng : Op.unary .neg (.float .f32 a) = pure (.float .f32 (Op.negFloat .f32 a)) := rfl
  have hnl := neg_lt32 a ha
  obtain ⟨N, hN⟩ : ∃ N, Op.negFloat .f32 a = N := ⟨_, rfl⟩
  rw [hN] at hng hnl
  clear hN
  have s0 := sSame_self2 u
  have s1 := sSame_self2 (sNext a true)
  have s2 := sSame_self2 (sNext a false)
  go_enter Tryd.func4, Tryd.ntmps4
  go_upto_region 3 with (first | (go_at_call 26; refine (n_split_fin a ha hf _ hT).mono ?_; rintro e w1 ⟨rfl, hb1⟩) | (go_at_call 27; refine (rsplit_fin _ hbl hbf _).mono ?_; rintro e w2 ⟨rfl, hb2⟩))
  have hz := cells3 hb2
  have hB2 := below3 hb2
  have hY := cells3 (Below.refl _ (w2.alloc (.cells #[.bool (sgn (bk a)), .int .u64 (spF (bk a)), .int .i64 (spE (bk a))] 41)))
  have hX := cells_on ((Below.refl w2.heap.size w2).alloc (Nat.le_refl _) (.cells #[.bool (sgn (bk a)), .int .u64 (spF (bk a)), .int .i64 (spE (bk a))] 41)) hz.1
  have hA2 : Below w.heap.size w (w2.alloc (.cells #[.bool (sgn (bk a)), .int .u64 (spF (bk a)), .int .i64 (spE (bk a))] 41)) := (hb1.trans (hB2.mono hb1.size)).alloc (Nat.le_trans hb1.size hB2.size) _
  generalize w2.alloc (.cells #[.bool (sgn (bk a)), .int .u64 (spF (bk a)), .int .i64 (spE (bk a))] 41) = V at *
  obtain ⟨⟨y0, y1, y2⟩, _⟩ := hY
  obtain ⟨x0, x1, x2⟩ := hX
  clear hz hb1 hb2 hB2 hT
  go_wp2_with (first | (go_at_call 15; refine (n_bits_any a ha _).mono ?_; rintro e w3 ⟨rfl, b3⟩) | (go_at_call 28; refine (r_bits_any a ha _).mono ?_; rintro e w' ⟨rfl, rfl⟩) | (go_at_call 17; refine (n_from_any u _).mono ?_; rintro e w' ⟨rfl, rfl⟩) | (go_at_call_of 11 (Value.float FloatKind.f32 N); refine (l_bits_any a N ha hnl _).mono ?_; rintro e w' ⟨rfl, rfl⟩) | (go_at_call 11; refine (l_bits_any _ _ (by first | exact ha | exact hu | exact (s_next_ok hn _).2) (by first | exact hu | exact ha | exact (s_next_ok hn _).2) _).mono ?_; rintro e w' ⟨rfl, rfl⟩) | (go_at_call_of 18 (Value.float FloatKind.f32 N); refine (n_same_any a N ha hnl _).mono ?_; rintro e w5 ⟨rfl, b5⟩) | (go_at_call 18; refine (n_same_any a u ha hu _).mono ?_; rintro e w4 ⟨rfl, b4⟩) | (go_at_call 14; refine (n_next_num _ _ ha hn _).mono ?_; rintro e w' ⟨rfl, rfl⟩) | (go_at_call 30; refine (r_next_num _ _ ha hn _).mono ?_; rintro e w' ⟨rfl, rfl⟩) | (go_at_call 25; refine (n_awake _).mono ?_; rintro e w' ⟨rfl, rfl⟩))
  go_ret
  have B3 := hA2.trans (b3.mono hA2.size)
  have B4 := B3.trans (b4.mono B3.size)
  have B5 := B4.trans (b5.mono B4.size)
  exact ⟨rfl, B5⟩
set_option maxHeartbeats 4000000 in
set_option maxRecDepth 100000 in
theorem tells_inf (a u : Nat) (ha : a < 4294967296) (hu : u < 4294967296) (hn : S.nanB a = false) (hf : S.finB a = false) (w : World) :
    Calls Tryd.prog 4 #[.float .f32 a, .int .u32 (u : Int)] w fun e w' => e = .returned (.bool true) ∧ Below w.heap.size w w' := by
  have hbl := (bk_parts hn).2.2.1
  have hbf : finB (bk a) = false := by rw [bk_fin hn]; exact hf
  have hcv := wide_num (P := Tryd.prog) Tryd.underlying22 Tryd.underlying23 ha hn
  have ff := run_sfrom u
  rw [show ((u : Int)).toNat = u by omega] at ff
  have hng : Op.unary .neg (.float .f32 a) = pure (.float .f32 (Op.negFloat .f32 a)) := rfl
  have hnl := neg_lt32 a ha
  obtain ⟨N, hN⟩ : ∃ N, Op.negFloat .f32 a = N := ⟨_, rfl⟩
  rw [hN] at hng hnl
  clear hN
  have s0 := sSame_self2 u
  have s1 := sSame_self2 (sNext a true)
  have s2 := sSame_self2 (sNext a false)
  go_enter Tryd.func4, Tryd.ntmps4
  go_upto_region 3 with (first | (go_at_call 26; refine (n_split_not a ha hf _).mono ?_; rintro e w1 ⟨rfl, hb1⟩) | (go_at_call 27; refine (rsplit_inf _ hbl hbf _).mono ?_; rintro e w2 ⟨rfl, hb2⟩))
  have hz := cells3 hb2
  have hB2 := below3 hb2
  have hY := cells3 (Below.refl _ (w2.alloc (.cells #[.bool false, .int .u64 0, .int .i64 0] 41)))
  have hX := cells_on ((Below.refl w2.heap.size w2).alloc (Nat.le_refl _) (.cells #[.bool false, .int .u64 0, .int .i64 0] 41)) hz.1
  have hA2 : Below w.heap.size w (w2.alloc (.cells #[.bool false, .int .u64 0, .int .i64 0] 41)) := (hb1.trans (hB2.mono hb1.size)).alloc (Nat.le_trans hb1.size hB2.size) _
  generalize w2.alloc (.cells #[.bool false, .int .u64 0, .int .i64 0] 41) = V at *
  obtain ⟨⟨y0, y1, y2⟩, _⟩ := hY
  obtain ⟨x0, x1, x2⟩ := hX
  clear hz hb1 hb2 hB2
  go_wp2_with (first | (go_at_call 15; refine (n_bits_any a ha _).mono ?_; rintro e w3 ⟨rfl, b3⟩) | (go_at_call 28; refine (r_bits_any a ha _).mono ?_; rintro e w' ⟨rfl, rfl⟩) | (go_at_call 17; refine (n_from_any u _).mono ?_; rintro e w' ⟨rfl, rfl⟩) | (go_at_call_of 11 (Value.float FloatKind.f32 N); refine (l_bits_any a N ha hnl _).mono ?_; rintro e w' ⟨rfl, rfl⟩) | (go_at_call 11; refine (l_bits_any _ _ (by first | exact ha | exact hu | exact (s_next_ok hn _).2) (by first | exact hu | exact ha | exact (s_next_ok hn _).2) _).mono ?_; rintro e w' ⟨rfl, rfl⟩) | (go_at_call_of 18 (Value.float FloatKind.f32 N); refine (n_same_any a N ha hnl _).mono ?_; rintro e w5 ⟨rfl, b5⟩) | (go_at_call 18; refine (n_same_any a u ha hu _).mono ?_; rintro e w4 ⟨rfl, b4⟩) | (go_at_call 14; refine (n_next_num _ _ ha hn _).mono ?_; rintro e w' ⟨rfl, rfl⟩) | (go_at_call 30; refine (r_next_num _ _ ha hn _).mono ?_; rintro e w' ⟨rfl, rfl⟩) | (go_at_call 25; refine (n_awake _).mono ?_; rintro e w' ⟨rfl, rfl⟩))
  go_ret
  have B3 := hA2.trans (b3.mono hA2.size)
  have B4 := B3.trans (b4.mono B3.size)
  have B5 := B4.trans (b5.mono B4.size)
  exact ⟨rfl, B5⟩
set_option maxHeartbeats 4000000 in
set_option maxRecDepth 100000 in
theorem tells_nan (a u : Nat) (ha : a < 4294967296) (hu : u < 4294967296) (hn : S.nanB a = true) (w : World) :
    Calls Tryd.prog 4 #[.float .f32 a, .int .u32 (u : Int)] w fun e w' => e = .returned (.bool true) ∧ Below w.heap.size w w' := by
  have hf := s_nan_fin hn
  have hcv := wide_nan (P := Tryd.prog) Tryd.underlying22 Tryd.underlying23 ha hn
  have hcn := fun w => ncW_nan a w
  have ff := run_sfrom u
  rw [show ((u : Int)).toNat = u by omega] at ff
  have hng : Op.unary .neg (.float .f32 a) = pure (.float .f32 (Op.negFloat .f32 a)) := rfl
  have hnl := neg_lt32 a ha
  obtain ⟨N, hN⟩ : ∃ N, Op.negFloat .f32 a = N := ⟨_, rfl⟩
  rw [hN] at hng hnl
  clear hN
  have s0 := sSame_self2 u
  have s1 := sSame_self2 a
  go_enter Tryd.func4, Tryd.ntmps4
  go_upto_region 3 with (first | (go_at_call 26; refine (n_split_not a ha hf _).mono ?_; rintro e w1 ⟨rfl, hb1⟩) | (go_at_call 27; refine (rsplit_inf _ (hcn _).2 (nan_fin (hcn _).1) _).mono ?_; rintro e w2 ⟨rfl, hb2⟩))
  replace hb2 := nundrew hb2
  have hz := cells3 hb2
  have hB2 := below3 hb2
  have hY := cells3 (Below.refl _ (w2.alloc (.cells #[.bool false, .int .u64 0, .int .i64 0] 41)))
  have hX := cells_on ((Below.refl w2.heap.size w2).alloc (Nat.le_refl _) (.cells #[.bool false, .int .u64 0, .int .i64 0] 41)) hz.1
  have hA2 : Below w.heap.size w (w2.alloc (.cells #[.bool false, .int .u64 0, .int .i64 0] 41)) := (hb1.trans (hB2.mono hb1.size)).alloc (Nat.le_trans hb1.size hB2.size) _
  generalize w2.alloc (.cells #[.bool false, .int .u64 0, .int .i64 0] 41) = V at *
  obtain ⟨⟨y0, y1, y2⟩, _⟩ := hY
  obtain ⟨x0, x1, x2⟩ := hX
  clear hz hb1 hb2 hB2
  go_wp2_with (first | (go_at_call 15; refine (n_bits_any a ha _).mono ?_; rintro e w3 ⟨rfl, b3⟩) | (go_at_call 28; refine (r_bits_any a ha _).mono ?_; rintro e w' ⟨rfl, rfl⟩) | (go_at_call 17; refine (n_from_any u _).mono ?_; rintro e w' ⟨rfl, rfl⟩) | (go_at_call_of 11 (Value.float FloatKind.f32 N); refine (l_bits_any a N ha hnl _).mono ?_; rintro e w' ⟨rfl, rfl⟩) | (go_at_call 11; refine (l_bits_any _ _ (by first | exact ha | exact hu | exact (s_next_ok hn _).2) (by first | exact hu | exact ha | exact (s_next_ok hn _).2) _).mono ?_; rintro e w' ⟨rfl, rfl⟩) | (go_at_call_of 18 (Value.float FloatKind.f32 N); refine (n_same_any a N ha hnl _).mono ?_; rintro e w5 ⟨rfl, b5⟩) | (go_at_call 18; refine (n_same_any a u ha hu _).mono ?_; rintro e w4 ⟨rfl, b4⟩) | (go_at_call 14; refine (n_next_nan _ _ ha hn _).mono ?_; rintro e w' ⟨rfl, rfl⟩) | (go_at_call 30; refine (r_next_nan _ _ ha hn _).mono ?_; rintro e w' ⟨rfl, rfl⟩) | (go_at_call 25; refine (n_awake _).mono ?_; rintro e w' ⟨rfl, rfl⟩))
  go_ret
  have B3 := hA2.trans (b3.mono hA2.size)
  have B4 := B3.trans (b4.mono B3.size)
  have B5 := B4.trans (b5.mono B4.size)
  exact ⟨rfl, B5.drew.drew⟩
theorem law_ntells (a u : Nat) (ha : a < 4294967296) (hu : u < 4294967296) (w : World) (hT : TabW w) :
    Calls Tryd.prog 4 #[.float .f32 a, .int .u32 (u : Int)] w fun e w' => e = .returned (.bool true) ∧ Below w.heap.size w w' := by
  cases hn : S.nanB a
  · cases hf : S.finB a
    · exact tells_inf a u ha hu hn hf w
    · exact tells_fin a u ha hu hf w hT
  · exact tells_nan a u ha hu hn w
end Go.Proofs.YtoggdckaimbjeaaDoor
