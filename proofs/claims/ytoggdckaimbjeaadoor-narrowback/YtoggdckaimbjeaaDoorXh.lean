/- NarrowBack, whatever narrow float and way it is given: the walk. -/
import Derived.Test.YtoggdckaimbjeaaDoorXg
namespace Go.Proofs.YtoggdckaimbjeaaDoor
open Go.RowKit

/-- A finite narrow float less itself is +0. -/
theorem s_sub_self {a : Nat} (ha : a < 4294967296) (hf : S.finB a = true) : floatBits .sub .f32 a a = some 0 := by
  unfold floatBits
  simp only [fmt32, Ieee.Format.sub]
  rw [s_read_fin ha hf]
  simp only [Ieee.Datum.opposite, Ieee.Datum.sum]
  have h0 : ∀ s k, Ieee.signed s (S.mg (S.rung a)) k + Ieee.signed (!s) (S.mg (S.rung a)) k = 0 := by
    intro s k; cases s <;> simp [Ieee.signed] <;> omega
  rw [h0, if_pos rfl]
  simp only [Option.map_some, Ieee.Format.write, Int.natAbs_zero, Bool.and_not_self]
  unfold Ieee.Format.nearest
  rw [if_pos rfl]
  rfl
theorem s_sub_inf {a : Nat} (ha : a < 4294967296) (hf : S.finB a = false) : floatBits .sub .f32 a a = none := by
  have h : ¬ S.rung a < 2139095040 := by unfold S.finB at hf; simpa using hf
  unfold floatBits
  simp only [fmt32, Ieee.Format.sub]
  rw [S.read_eq a ha, if_neg h]
  split
  · simp only [Ieee.Datum.opposite, Ieee.Datum.sum]; cases S.sgn a <;> rfl
  · rfl
/-- The NaN that an operation on narrow floats without an answer draws. -/
def snW (x y : Nat) (w : World) : Nat := (Question.nanBits .f32 x y).cut (w.tape w.drawn (.nanBits .f32 x y))
theorem snW_nan (x y : Nat) (w : World) : S.nanB (snW x y w) = true ∧ snW x y w < 4294967296 := by
  unfold snW Question.cut
  generalize w.tape w.drawn (Question.nanBits .f32 x y) = t
  have h1 := Nat.mod_lt t (show 0 < 2 by omega)
  have h2 := Nat.mod_lt (t / 2) (show 0 < 2 ^ 23 - 1 by omega)
  unfold S.nanB S.rung
  simp only [decide_eq_true_eq]
  generalize t / 2 % (2 ^ 23 - 1) = y at *
  rcases (show t % 2 = 0 ∨ t % 2 = 1 by omega) with h | h
  · rw [h]; omega
  · rw [h]; omega
theorem run_snan {P : Program} (t : TypeId) (x y : Nat) (h : floatBits .sub .f32 x y = none) (w : World) : (binOp .sub t (.float .f32 x) (.float .f32 y)).run P w = .ok (.float .f32 (snW x y w)) w.drew := by
  have h' : Ieee.single.sub x y = none := h
  simp [binOp, Op.floatArith, fmt32, h', Question.forced, snW]
theorem bk_inf : bk 2139095040 = 9218868437227405312 := by decide
theorem s_fin_place {a : Nat} : S.finB a = decide (-2139095040 < S.place a ∧ S.place a < 2139095040) := by
  unfold S.finB S.place
  rw [decide_eq_decide]
  split <;> omega
theorem sSame_self (a : Nat) : sSame a a = true := by unfold sSame; simp
theorem s_neg_inf : Op.unary .neg (.float .f32 2139095040) = pure (.float .f32 4286578688) := by kernel_rfl
set_option maxHeartbeats 4000000 in
set_option maxRecDepth 100000 in
theorem law_back_num (a : Nat) (m : Int) (ha : a < 4294967296) (hn : S.nanB a = false) (w : World) :
    Calls Tryd.prog 6 #[.float .f32 a, .int .i8 m] w fun e w' => e = .returned (.bool true) ∧ Below w.heap.size w w' := by
  obtain ⟨_, _, h3, h4⟩ := bk_parts hn
  have hB := fun w => n_back_any a ha hn w
  have hT := fun w => n_to_num (bk a) a m h3 h4 ha hn (n_near_bk ha hn) w
  simp only [toW_self] at hT
  have hA := fun w => alike_any a a ha ha w
  rw [sSame_self] at hA
  have hI := fun w => n_bits_no a ha hn w
  have hF := fun w => n_fits_bk a ha hn w
  have hS := fun w => n_same_any a a ha ha w
  rw [sSame_self] at hS
  have hN := fun up w => n_next_num a up ha hn w
  obtain ⟨u1, u2, u3⟩ := s_next_up hn
  obtain ⟨d1, d2, d3⟩ := s_next_dn hn
  have hNu := fun w => n_next_num (sNext a true) false u3 u2 w
  have hNd := fun w => n_next_num (sNext a false) true d3 d2 w
  obtain ⟨x1, x2, x3⟩ := s_next_dn u2
  obtain ⟨y1, y2, y3⟩ := s_next_up d2
  have hcv := narrow_num (P := Tryd.prog) Tryd.underlying23 Tryd.underlying22 (b := 2139095040) (by omega) (by decide)
  rw [bk_inf] at hcv
  have hng := s_neg_inf
  have q1 : (FloatKind.f64.format.order (bk a) (bk a) != some .eq) = false := by rw [ord_self _ h3]; exact h4
  have q2 : (FloatKind.f32.format.order a a != some .eq) = false := by rw [s_ne_self a ha]; exact hn
  have hb := s_place_bd hn
  have pT : S.place 2139095040 = 2139095040 := by decide
  have pM : S.place 4286578688 = -2139095040 := by decide
  have nT : S.nanB 2139095040 = false := by decide
  have nM : S.nanB 4286578688 = false := by decide
  have e1 := s_eq_num ha (show 2139095040 < 4294967296 by omega) hn nT
  have e2 := s_ne_num u3 (show 2139095040 < 4294967296 by omega) u2 nT
  have e3 := s_eq_num ha (show 4286578688 < 4294967296 by omega) hn nM
  have e4 := s_ne_num d3 (show 4286578688 < 4294967296 by omega) d2 nM
  have e5 := s_ne_num ha (show 2139095040 < 4294967296 by omega) hn nT
  have e6 := s_gt_num u3 ha u2 hn
  have e7 := s_ne_num ha (show 4286578688 < 4294967296 by omega) hn nM
  have e8 := s_lt_num d3 ha d2 hn
  rw [pT] at e1 e2 e5
  rw [pM] at e3 e4 e7
  rw [u1] at e2 e6
  rw [d1] at e4 e8
  have f1 := s_ne_num x3 ha x2 hn
  have f2 := s_ne_num y3 ha y2 hn
  rw [x1, u1] at f1
  rw [y1, d1] at f2
  have z0 : (FloatKind.f32.format.order 0 0 == some .eq) = true := by kernel_rfl
  have hfp := s_fin_place (a := a)
  rcases (show S.place a = 2139095040 ∨ S.place a = -2139095040 ∨ (-2139095040 < S.place a ∧ S.place a < 2139095040) by omega) with hp | hp | hp
  · rw [decide_eq_true (by omega)] at e1
    rw [decide_eq_false (by omega)] at e2 e3 e5 hfp
    rw [decide_eq_true (by omega)] at e7 e8
    have hsub := run_snan (P := Tryd.prog) 22 a a (s_sub_inf ha hfp)
    have z1 : ∀ w, (FloatKind.f32.format.order (snW a a w) 0 == some .eq) = false := fun w => by rw [s_ord_nan (snW_nan a a w).2 (by omega) (Or.inl (snW_nan a a w).1)]; rfl
    clear hp hb x1 y1 u1 d1 hfp f1 f2 e4 e6
    go_enter Tryd.func6, Tryd.ntmps6
    go_wp2_with (first | (go_at_call 31; refine (hB _).mono ?_; rintro e w' ⟨rfl, rfl⟩) | (go_at_call 12; refine (hT _).mono ?_; rintro e w' ⟨rfl, rfl⟩) | (go_at_call 32; refine (hA _).mono ?_; rintro e w' ⟨rfl, rfl⟩) | (go_at_call 15; refine (hI _).mono ?_; rintro e w' ⟨rfl, rfl⟩) | (go_at_call 17; refine (n_from_any _ _).mono ?_; rintro e w' ⟨rfl, rfl⟩) | (go_at_call 24; refine (hF _).mono ?_; rintro e w' ⟨rfl, rfl⟩) | (go_at_call 18; refine (hS _).mono ?_; rintro e ws ⟨rfl, bs⟩) | (go_at_call_of 14 (Value.float FloatKind.f32 a); refine (hN _ _).mono ?_; rintro e w' ⟨rfl, rfl⟩) | (go_at_call_of 14 (Value.float FloatKind.f32 (sNext a true)); refine (hNu _).mono ?_; rintro e w' ⟨rfl, rfl⟩) | (go_at_call_of 14 (Value.float FloatKind.f32 (sNext a false)); refine (hNd _).mono ?_; rintro e w' ⟨rfl, rfl⟩) | (go_at_call 10; refine (inf_any _).mono ?_; rintro e w' ⟨rfl, rfl⟩) | (go_at_call 25; refine (n_awake _).mono ?_; rintro e w' ⟨rfl, rfl⟩))
    go_ret
    exact ⟨rfl, bs.drew⟩
  · rw [decide_eq_false (by omega)] at e1 e4 e7 hfp
    rw [decide_eq_true (by omega)] at e3 e5 e6
    have hsub := run_snan (P := Tryd.prog) 22 a a (s_sub_inf ha hfp)
    have z1 : ∀ w, (FloatKind.f32.format.order (snW a a w) 0 == some .eq) = false := fun w => by rw [s_ord_nan (snW_nan a a w).2 (by omega) (Or.inl (snW_nan a a w).1)]; rfl
    clear hp hb x1 y1 u1 d1 hfp f1 f2 e2 e8
    go_enter Tryd.func6, Tryd.ntmps6
    go_wp2_with (first | (go_at_call 31; refine (hB _).mono ?_; rintro e w' ⟨rfl, rfl⟩) | (go_at_call 12; refine (hT _).mono ?_; rintro e w' ⟨rfl, rfl⟩) | (go_at_call 32; refine (hA _).mono ?_; rintro e w' ⟨rfl, rfl⟩) | (go_at_call 15; refine (hI _).mono ?_; rintro e w' ⟨rfl, rfl⟩) | (go_at_call 17; refine (n_from_any _ _).mono ?_; rintro e w' ⟨rfl, rfl⟩) | (go_at_call 24; refine (hF _).mono ?_; rintro e w' ⟨rfl, rfl⟩) | (go_at_call 18; refine (hS _).mono ?_; rintro e ws ⟨rfl, bs⟩) | (go_at_call_of 14 (Value.float FloatKind.f32 a); refine (hN _ _).mono ?_; rintro e w' ⟨rfl, rfl⟩) | (go_at_call_of 14 (Value.float FloatKind.f32 (sNext a true)); refine (hNu _).mono ?_; rintro e w' ⟨rfl, rfl⟩) | (go_at_call_of 14 (Value.float FloatKind.f32 (sNext a false)); refine (hNd _).mono ?_; rintro e w' ⟨rfl, rfl⟩) | (go_at_call 10; refine (inf_any _).mono ?_; rintro e w' ⟨rfl, rfl⟩) | (go_at_call 25; refine (n_awake _).mono ?_; rintro e w' ⟨rfl, rfl⟩))
    go_ret
    exact ⟨rfl, bs.drew⟩
  · rw [decide_eq_false (by omega)] at e1 e3 f1 f2
    rw [decide_eq_true (by omega)] at e5 e6 e7 e8 hfp
    have hsub := fun w => run_float_arith (P := Tryd.prog) w .sub 22 .f32 a a 0 (s_sub_self ha hfp)
    clear hp hb x1 y1 u1 d1 hfp e2 e4
    go_enter Tryd.func6, Tryd.ntmps6
    go_wp2_with (first | (go_at_call 31; refine (hB _).mono ?_; rintro e w' ⟨rfl, rfl⟩) | (go_at_call 12; refine (hT _).mono ?_; rintro e w' ⟨rfl, rfl⟩) | (go_at_call 32; refine (hA _).mono ?_; rintro e w' ⟨rfl, rfl⟩) | (go_at_call 15; refine (hI _).mono ?_; rintro e w' ⟨rfl, rfl⟩) | (go_at_call 17; refine (n_from_any _ _).mono ?_; rintro e w' ⟨rfl, rfl⟩) | (go_at_call 24; refine (hF _).mono ?_; rintro e w' ⟨rfl, rfl⟩) | (go_at_call 18; refine (hS _).mono ?_; rintro e ws ⟨rfl, bs⟩) | (go_at_call_of 14 (Value.float FloatKind.f32 a); refine (hN _ _).mono ?_; rintro e w' ⟨rfl, rfl⟩) | (go_at_call_of 14 (Value.float FloatKind.f32 (sNext a true)); refine (hNu _).mono ?_; rintro e w' ⟨rfl, rfl⟩) | (go_at_call_of 14 (Value.float FloatKind.f32 (sNext a false)); refine (hNd _).mono ?_; rintro e w' ⟨rfl, rfl⟩) | (go_at_call 10; refine (inf_any _).mono ?_; rintro e w' ⟨rfl, rfl⟩) | (go_at_call 25; refine (n_awake _).mono ?_; rintro e w' ⟨rfl, rfl⟩))
    go_ret
    exact ⟨rfl, bs⟩
end Go.Proofs.YtoggdckaimbjeaaDoor
