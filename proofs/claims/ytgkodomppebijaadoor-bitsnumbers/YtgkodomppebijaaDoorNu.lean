/- What Copysign, IsInf and NaN answer where BitsNumbers calls them, and that BitsNumbers answers true (the library's table lying as its initialiser lays it). -/
import Derived.Test.YtgkodomppebijaaDoorRl
import Derived.Deep.DeepCutAuto
import Derived.Deep.LoopGhost
namespace Go.Proofs.YtgkodomppebijaaDoor
open Go.RowKit

/-- The word of -0, of minus infinity, of a NaN. -/
def wNought : Nat := 9223372036854775808
def wMinus : Nat := 18442240474082181120
def wNaN : Nat := 9221120237041090561

set_option maxHeartbeats 400000 in
theorem copysign_nought (w : World) :
    Calls Tryd.prog 9 #[.float .f64 0, .float .f64 13830554455654793216] w fun e w' => e = .returned (.float .f64 wNought) ∧ w' = w := by
  have ff := run_ffrom
  have f1 := run_fbits 0
  have f2 := run_fbits 13830554455654793216
  go_enter Tryd.func9, Tryd.ntmps9
  go_wp2
  go_ret
  exact ⟨end_flt (by kernel_rfl), rfl⟩

set_option maxHeartbeats 400000 in
theorem nan_any (w : World) :
    Calls Tryd.prog 19 #[] w fun e w' => e = .returned (.float .f64 wNaN) ∧ w' = w := by
  have ff := run_ffrom
  go_enter Tryd.func19, Tryd.ntmps19
  go_wp2
  go_ret
  exact ⟨rfl, rfl⟩

def infB (a : Nat) (s : Int) : Bool := if s < 0 then FloatKind.f64.format.order (Op.negFloat .f64 a) 9218868437227405311 == some .gt else FloatKind.f64.format.order a 9218868437227405311 == some .gt

set_option maxHeartbeats 400000 in
theorem isinf_any (a : Nat) (s : Int) (h : s = 1 ∨ s = -1) (w : World) :
    Calls Tryd.prog 12 #[.float .f64 a, .int .i64 s] w fun e w' => e = .returned (.bool (infB a s)) ∧ w' = w := by
  have hu : ∀ b, Op.unary .neg (.float .f64 b) = pure (.float .f64 (Op.negFloat .f64 b)) := fun _ => rfl
  rcases h with rfl | rfl
  · go_enter Tryd.func12, Tryd.ntmps12
    go_wp2
    go_ret
    exact ⟨rfl, rfl⟩
  · go_enter Tryd.func12, Tryd.ntmps12
    go_wp2
    go_ret
    exact ⟨rfl, rfl⟩

def wPlus : Nat := 9218868437227405312
def wTop : Nat := 9214364837600034816
def wLeast : Nat := 9223372036854775809

theorem join_int (n : Bool) (F e : Int) (h0 : 0 ≤ F) (h1 : F < 18446744073709551616) (w : World) :
    Calls Tryd.prog 11 #[.agg #[.bool n, .int .u64 F, .int .i64 e]] w fun r w' => r = .returned (.tuple #[.float .f64 (joinF n F.toNat e), .bool (okP F.toNat e)]) ∧ Below w.heap.size w w' := by
  have h := join_any n F.toNat e (by omega) w
  rw [show ((F.toNat : Nat) : Int) = F by omega] at h
  exact h

/-- The nine parts that are none, as they lie in memory. -/
def nine : Obj := .cells #[.bool false, .int .u64 2, .int .i64 0, .bool false, .int .u64 0, .int .i64 1, .bool false, .int .u64 1, .int .i64 1024, .bool false, .int .u64 1, .int .i64 (-1075), .bool false, .int .u64 9007199254740993, .int .i64 0, .bool false, .int .u64 9007199254740991, .int .i64 972, .bool false, .int .u64 18446744073709551615, .int .i64 0, .bool false, .int .u64 3, .int .i64 4611686018427387904, .bool false, .int .u64 1, .int .i64 (-9223372036854775808)] 29
theorem nine_cell {W V : World} (hb : Below (W.alloc nine).heap.size (W.alloc nine) V) (o : Nat) : V.cell? ⟨W.heap.size, o, none⟩ = (W.alloc nine).cell? ⟨W.heap.size, o, none⟩ := hb.cell (p := ⟨W.heap.size, o, none⟩) (by simp)

set_option maxRecDepth 100000 in
set_option maxHeartbeats 1000000 in
theorem law_numbers (w : World) (hT : TabW w) :
    Calls Tryd.prog 3 #[] w fun r w' => r = .returned (.bool true) ∧ Below w.heap.size w w' := by
  have a1 : atF 9218868437227405312 = wPlus := by kernel_rfl
  have a2 : atB 9218868437227405312 = true := by decide
  have a3 : atF (-9218868437227405312) = wMinus := by kernel_rfl
  have a4 : atB (-9218868437227405312) = true := by decide
  have a5 : atB 9218868437227405313 = false := by decide
  have a6 : atB (-9218868437227405313) = false := by decide
  go_enter Tryd.func3, Tryd.ntmps3
  go_upto_region 6 with (first | (go_at_call 9; refine (copysign_nought _).mono ?_; rintro r w' ⟨rfl, rfl⟩) | (go_at_call 10; refine (at_any _ (by omega) (by omega) _).mono ?_; rintro r w' ⟨rfl, rfl⟩))
  clear a1 a2 a3 a4 a5 a6
  have j1 : joinF false 1 1023 = wTop := by kernel_rfl
  have j2 : okP 1 1023 = true := by kernel_rfl
  have j3 : joinF true 1 (-1074) = wLeast := by kernel_rfl
  have j4 : okP 1 (-1074) = true := by kernel_rfl
  go_upto_region 7 with (first | (go_at_call 11; refine (join_int _ _ _ (by omega) (by omega) _).mono ?_; rintro r w1 ⟨rfl, hb1⟩))
  go_upto_region 8 with (first | (go_at_call 11; refine (join_int _ _ _ (by omega) (by omega) _).mono ?_; rintro r w2 ⟨rfl, hb2⟩))
  clear j1 j2 j3 j4
  have o1 : (FloatKind.f64.format.order wTop 9214364837600034816 == some .eq) = true := by kernel_rfl
  have o2 : (FloatKind.f64.format.order wLeast 9223372036854775809 == some .eq) = true := by kernel_rfl
  have i1 : infB wPlus 1 = true := by kernel_rfl
  have i2 : infB wMinus (-1) = true := by kernel_rfl
  go_upto_region 9 with (first | (go_at_call 12; refine (isinf_any _ _ (by omega) _).mono ?_; rintro r w' ⟨rfl, rfl⟩))
  clear o1 o2 i1 i2
  go_wp2
  have hb0 := hb1.trans (hb2.mono hb1.size)
  clear hb1 hb2
  go_loopg [16, 17, 18] 9 (fun g c _ _ wr => ∃ k : Nat, k ≤ 9 ∧ g = 9 - k ∧ c = .int .i64 k ∧ Below (w'.alloc nine).heap.size (w'.alloc nine) wr)
  case atStart => exact ⟨0, by omega, rfl, rfl, Below.refl _ _⟩
  case round =>
    obtain ⟨k, hk, hg, rfl, hbr⟩ := hrel
    have HG : Hid (gk = 9 - k) := hg
    clear hg
    have hc := nine_cell hbr
    have s0 := same_refl 0
    have hz : w'.heap.size < wr.heap.size := by have := hbr.size; simp at this; omega
    rcases (show k = 0 ∨ k = 1 ∨ k = 2 ∨ k = 3 ∨ k = 4 ∨ k = 5 ∨ k = 6 ∨ k = 7 ∨ k = 8 ∨ k = 9 by omega) with rfl | rfl | rfl | rfl | rfl | rfl | rfl | rfl | rfl | rfl
    · have c0 : wr.cell? ⟨w'.heap.size, 0, none⟩ = some (.bool false) := by rw [hc]; simp [nine, go_sem]
      have c1 : wr.cell? ⟨w'.heap.size, 1, none⟩ = some (.int .u64 2) := by rw [hc]; simp [nine, go_sem]
      have c2 : wr.cell? ⟨w'.heap.size, 2, none⟩ = some (.int .i64 0) := by rw [hc]; simp [nine, go_sem]
      have j0 : okP 2 0 = false := by kernel_rfl
      have j1 : joinF false 2 0 = 0 := joinF_no j0 false
      clear hc
      go_wp2_with (first | (go_at_call 11; refine (join_int _ _ _ (by omega) (by omega) _).mono ?_; rintro r w3 ⟨rfl, hb3⟩) | (go_at_call 13; refine (samef_any _ _ (by omega) (by omega) _).mono ?_; rintro r w'' ⟨rfl, hww⟩; subst hww))
      go_roundg 8
      case measure => rw [HG.out]; omega
      case rel => exact ⟨1, by omega, rfl, rfl, hbr.trans (hb3.mono hbr.size)⟩
    · have c0 : wr.cell? ⟨w'.heap.size, 3, none⟩ = some (.bool false) := by rw [hc]; simp [nine, go_sem]
      have c1 : wr.cell? ⟨w'.heap.size, 4, none⟩ = some (.int .u64 0) := by rw [hc]; simp [nine, go_sem]
      have c2 : wr.cell? ⟨w'.heap.size, 5, none⟩ = some (.int .i64 1) := by rw [hc]; simp [nine, go_sem]
      have j0 : okP 0 1 = false := by kernel_rfl
      have j1 : joinF false 0 1 = 0 := joinF_no j0 false
      clear hc
      go_wp2_with (first | (go_at_call 11; refine (join_int _ _ _ (by omega) (by omega) _).mono ?_; rintro r w3 ⟨rfl, hb3⟩) | (go_at_call 13; refine (samef_any _ _ (by omega) (by omega) _).mono ?_; rintro r w'' ⟨rfl, hww⟩; subst hww))
      go_roundg 7
      case measure => rw [HG.out]; omega
      case rel => exact ⟨2, by omega, rfl, rfl, hbr.trans (hb3.mono hbr.size)⟩
    · have c0 : wr.cell? ⟨w'.heap.size, 6, none⟩ = some (.bool false) := by rw [hc]; simp [nine, go_sem]
      have c1 : wr.cell? ⟨w'.heap.size, 7, none⟩ = some (.int .u64 1) := by rw [hc]; simp [nine, go_sem]
      have c2 : wr.cell? ⟨w'.heap.size, 8, none⟩ = some (.int .i64 1024) := by rw [hc]; simp [nine, go_sem]
      have j0 : okP 1 1024 = false := by kernel_rfl
      have j1 : joinF false 1 1024 = 0 := joinF_no j0 false
      clear hc
      go_wp2_with (first | (go_at_call 11; refine (join_int _ _ _ (by omega) (by omega) _).mono ?_; rintro r w3 ⟨rfl, hb3⟩) | (go_at_call 13; refine (samef_any _ _ (by omega) (by omega) _).mono ?_; rintro r w'' ⟨rfl, hww⟩; subst hww))
      go_roundg 6
      case measure => rw [HG.out]; omega
      case rel => exact ⟨3, by omega, rfl, rfl, hbr.trans (hb3.mono hbr.size)⟩
    · have c0 : wr.cell? ⟨w'.heap.size, 9, none⟩ = some (.bool false) := by rw [hc]; simp [nine, go_sem]
      have c1 : wr.cell? ⟨w'.heap.size, 10, none⟩ = some (.int .u64 1) := by rw [hc]; simp [nine, go_sem]
      have c2 : wr.cell? ⟨w'.heap.size, 11, none⟩ = some (.int .i64 (-1075)) := by rw [hc]; simp [nine, go_sem]
      have j0 : okP 1 (-1075) = false := by kernel_rfl
      have j1 : joinF false 1 (-1075) = 0 := joinF_no j0 false
      clear hc
      go_wp2_with (first | (go_at_call 11; refine (join_int _ _ _ (by omega) (by omega) _).mono ?_; rintro r w3 ⟨rfl, hb3⟩) | (go_at_call 13; refine (samef_any _ _ (by omega) (by omega) _).mono ?_; rintro r w'' ⟨rfl, hww⟩; subst hww))
      go_roundg 5
      case measure => rw [HG.out]; omega
      case rel => exact ⟨4, by omega, rfl, rfl, hbr.trans (hb3.mono hbr.size)⟩
    · have c0 : wr.cell? ⟨w'.heap.size, 12, none⟩ = some (.bool false) := by rw [hc]; simp [nine, go_sem]
      have c1 : wr.cell? ⟨w'.heap.size, 13, none⟩ = some (.int .u64 9007199254740993) := by rw [hc]; simp [nine, go_sem]
      have c2 : wr.cell? ⟨w'.heap.size, 14, none⟩ = some (.int .i64 0) := by rw [hc]; simp [nine, go_sem]
      have j0 : okP 9007199254740993 0 = false := by kernel_rfl
      have j1 : joinF false 9007199254740993 0 = 0 := joinF_no j0 false
      clear hc
      go_wp2_with (first | (go_at_call 11; refine (join_int _ _ _ (by omega) (by omega) _).mono ?_; rintro r w3 ⟨rfl, hb3⟩) | (go_at_call 13; refine (samef_any _ _ (by omega) (by omega) _).mono ?_; rintro r w'' ⟨rfl, hww⟩; subst hww))
      go_roundg 4
      case measure => rw [HG.out]; omega
      case rel => exact ⟨5, by omega, rfl, rfl, hbr.trans (hb3.mono hbr.size)⟩
    · have c0 : wr.cell? ⟨w'.heap.size, 15, none⟩ = some (.bool false) := by rw [hc]; simp [nine, go_sem]
      have c1 : wr.cell? ⟨w'.heap.size, 16, none⟩ = some (.int .u64 9007199254740991) := by rw [hc]; simp [nine, go_sem]
      have c2 : wr.cell? ⟨w'.heap.size, 17, none⟩ = some (.int .i64 972) := by rw [hc]; simp [nine, go_sem]
      have j0 : okP 9007199254740991 972 = false := by kernel_rfl
      have j1 : joinF false 9007199254740991 972 = 0 := joinF_no j0 false
      clear hc
      go_wp2_with (first | (go_at_call 11; refine (join_int _ _ _ (by omega) (by omega) _).mono ?_; rintro r w3 ⟨rfl, hb3⟩) | (go_at_call 13; refine (samef_any _ _ (by omega) (by omega) _).mono ?_; rintro r w'' ⟨rfl, hww⟩; subst hww))
      go_roundg 3
      case measure => rw [HG.out]; omega
      case rel => exact ⟨6, by omega, rfl, rfl, hbr.trans (hb3.mono hbr.size)⟩
    · have c0 : wr.cell? ⟨w'.heap.size, 18, none⟩ = some (.bool false) := by rw [hc]; simp [nine, go_sem]
      have c1 : wr.cell? ⟨w'.heap.size, 19, none⟩ = some (.int .u64 18446744073709551615) := by rw [hc]; simp [nine, go_sem]
      have c2 : wr.cell? ⟨w'.heap.size, 20, none⟩ = some (.int .i64 0) := by rw [hc]; simp [nine, go_sem]
      have j0 : okP 18446744073709551615 0 = false := by kernel_rfl
      have j1 : joinF false 18446744073709551615 0 = 0 := joinF_no j0 false
      clear hc
      go_wp2_with (first | (go_at_call 11; refine (join_int _ _ _ (by omega) (by omega) _).mono ?_; rintro r w3 ⟨rfl, hb3⟩) | (go_at_call 13; refine (samef_any _ _ (by omega) (by omega) _).mono ?_; rintro r w'' ⟨rfl, hww⟩; subst hww))
      go_roundg 2
      case measure => rw [HG.out]; omega
      case rel => exact ⟨7, by omega, rfl, rfl, hbr.trans (hb3.mono hbr.size)⟩
    · have c0 : wr.cell? ⟨w'.heap.size, 21, none⟩ = some (.bool false) := by rw [hc]; simp [nine, go_sem]
      have c1 : wr.cell? ⟨w'.heap.size, 22, none⟩ = some (.int .u64 3) := by rw [hc]; simp [nine, go_sem]
      have c2 : wr.cell? ⟨w'.heap.size, 23, none⟩ = some (.int .i64 4611686018427387904) := by rw [hc]; simp [nine, go_sem]
      have j0 : okP 3 4611686018427387904 = false := by kernel_rfl
      have j1 : joinF false 3 4611686018427387904 = 0 := joinF_no j0 false
      clear hc
      go_wp2_with (first | (go_at_call 11; refine (join_int _ _ _ (by omega) (by omega) _).mono ?_; rintro r w3 ⟨rfl, hb3⟩) | (go_at_call 13; refine (samef_any _ _ (by omega) (by omega) _).mono ?_; rintro r w'' ⟨rfl, hww⟩; subst hww))
      go_roundg 1
      case measure => rw [HG.out]; omega
      case rel => exact ⟨8, by omega, rfl, rfl, hbr.trans (hb3.mono hbr.size)⟩
    · have c0 : wr.cell? ⟨w'.heap.size, 24, none⟩ = some (.bool false) := by rw [hc]; simp [nine, go_sem]
      have c1 : wr.cell? ⟨w'.heap.size, 25, none⟩ = some (.int .u64 1) := by rw [hc]; simp [nine, go_sem]
      have c2 : wr.cell? ⟨w'.heap.size, 26, none⟩ = some (.int .i64 (-9223372036854775808)) := by rw [hc]; simp [nine, go_sem]
      have j0 : okP 1 (-9223372036854775808) = false := by kernel_rfl
      have j1 : joinF false 1 (-9223372036854775808) = 0 := joinF_no j0 false
      clear hc
      go_wp2_with (first | (go_at_call 11; refine (join_int _ _ _ (by omega) (by omega) _).mono ?_; rintro r w3 ⟨rfl, hb3⟩) | (go_at_call 13; refine (samef_any _ _ (by omega) (by omega) _).mono ?_; rintro r w'' ⟨rfl, hww⟩; subst hww))
      go_roundg 0
      case measure => rw [HG.out]; omega
      case rel => exact ⟨9, by omega, rfl, rfl, hbr.trans (hb3.mono hbr.size)⟩
    · clear hc s0 hz
      have hD : Below w'.heap.size w' wr := ((Below.refl _ _).alloc (Nat.le_refl _) nine).trans (hbr.mono (by simp))
      have hC := hb0.trans (hD.mono hb0.size)
      have hT5 := tabW_below hT hC
      clear hbr hb0 hD
      have u1 : ulpF wNought = 1 := by kernel_rfl
      have u2 : ulpF 18442240474082181119 = 8980177656976769024 := by kernel_rfl
      have u3 : finB wNought = true := by kernel_rfl
      have u4 : finB 18442240474082181119 = true := by kernel_rfl
      have t1 : btwN wNought 0 = 0 := by kernel_rfl
      have t2 : btwN 0 wNought = 0 := by kernel_rfl
      have t3 : btwB wNought 0 = true := by kernel_rfl
      have t4 : btwB 0 wNought = true := by kernel_rfl
      have wl : wNought < 18446744073709551616 := by unfold wNought; omega
      go_upto_region 20 with (first | (go_at_call 14; refine (ulp_any _ (by first | assumption | omega) _).mono ?_; rintro r w'' ⟨rfl, hww⟩; subst hww) | (go_at_call 15; refine (between_any _ _ (by first | assumption | omega) (by first | assumption | omega) _).mono ?_; rintro r w'' ⟨rfl, hww⟩; subst hww))
      clear u1 u2 u3 u4 t1 t2 t3 t4
      have s0 := same_refl 0
      have n1 : nextF 9223372036854775809 true = 0 := by kernel_rfl
      have q1 : ordF wNought 0 = -1 := by kernel_rfl
      have q2 : sameB wNought 0 = false := by kernel_rfl
      have o3 : (FloatKind.f64.format.order 1 1 == some .eq) = true := by kernel_rfl
      have o4 : (FloatKind.f64.format.order 8980177656976769024 8980177656976769024 == some .eq) = true := by kernel_rfl
      go_upto_region 21 with (first | (go_at_call 16; refine (next_any _ _ (by omega) _).mono ?_; rintro r w'' ⟨rfl, hww⟩; subst hww) | (go_at_call 13; refine (samef_any _ _ (by omega) (by omega) _).mono ?_; rintro r w'' ⟨rfl, hww⟩; subst hww) | (go_at_call 17; refine (order_any _ _ (by assumption) (by omega) _).mono ?_; rintro r w'' ⟨rfl, hww⟩; subst hww) | (go_at_call 18; refine (same_any _ _ (by assumption) (by omega) _).mono ?_; rintro r w'' ⟨rfl, hww⟩; subst hww))
      clear s0 n1 q1 q2 o3 o4
      have n2 : nextF 9218868437227405311 true = wPlus := by kernel_rfl
      have i1 : infB wPlus 1 = true := by kernel_rfl
      have q3 : ordF wNaN 9218868437227405312 = 1 := by kernel_rfl
      have k1 : kindF 4503599627370496 = 2 := by kernel_rfl
      have k2 : kindF 2251799813685248 = 1 := by kernel_rfl
      have wn : wNaN < 18446744073709551616 := by unfold wNaN; omega
      go_wp2_with (first | (go_at_call 16; refine (next_any _ _ (by omega) _).mono ?_; rintro r w'' ⟨rfl, hww⟩; subst hww) | (go_at_call 12; refine (isinf_any _ _ (by omega) _).mono ?_; rintro r w'' ⟨rfl, hww⟩; subst hww) | (go_at_call 19; refine (nan_any _).mono ?_; rintro r w'' ⟨rfl, hww⟩; subst hww) | (go_at_call 20; refine (inf_any _).mono ?_; rintro r w'' ⟨rfl, hww⟩; subst hww) | (go_at_call 17; refine (order_any _ _ (by assumption) (by omega) _).mono ?_; rintro r w'' ⟨rfl, hww⟩; subst hww) | (go_at_call 21; refine (kind_any _ (by omega) _).mono ?_; rintro r w'' ⟨rfl, hww⟩; subst hww) | (go_at_call 22; refine (awake_any _ (by assumption)).mono ?_; rintro r w6 ⟨rfl, hb6⟩))
      go_ret
      exact ⟨rfl, hC.trans (hb6.mono hC.size)⟩
end Go.Proofs.YtgkodomppebijaaDoor
