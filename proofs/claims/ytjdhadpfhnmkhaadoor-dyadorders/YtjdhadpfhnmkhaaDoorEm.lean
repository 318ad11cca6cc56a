/- That the fixed answers of 'awake' are so. -/
import Derived.Test.YtjdhadpfhnmkhaaDoorEl
import Derived.Test.YtjdhadpfhnmkhaaDoorZe
namespace Go.Proofs.YtjdhadpfhnmkhaaDoor
open Go.RowKit

theorem aw_of : ofD 4604930618986332160 = (⟨false, [3], -2⟩, 0) := by kernel_rfl
theorem aw_int1 : intD 1 = ⟨false, [1], 0⟩ := by kernel_rfl
theorem aw_int2 : intD (-2) = ⟨true, [1], 1⟩ := by kernel_rfl
theorem aw_add : addD ⟨false, [3], -2⟩ ⟨false, [1], 0⟩ = (⟨false, [7], -2⟩, 0) := by
  rw [add_at (low := -2) (by kernel_rfl) (by kernel_rfl) (by omega) (by simp only; omega) (by simp only; omega)]
  kernel_rfl
theorem aw_mul : mulD ⟨false, [7], -2⟩ ⟨true, [1], 1⟩ = (⟨true, [7], -1⟩, 0) := by
  rw [← mul_norm (a := ⟨false, [7], -2⟩) (b := ⟨true, [1], 1⟩) (zs := [7]) (by kernel_rfl) (by kernel_rfl) (by kernel_rfl)]
  kernel_rfl
theorem aw_rnd1 : rndW ⟨true, [7], -1⟩ 0 = 13838435755002691584 := by kernel_rfl
theorem aw_rnd2 : rndW ⟨false, [1], -1075⟩ 2 = 1 := by kernel_rfl

/-- A dyad in a box. -/
def Box (w : World) (p : Nat) (d : Dy) : Prop := ∃ ao cap, (w.cell? ⟨p, 0, none⟩ = some (.bool d.neg) ∧ w.cell? ⟨p, 1, none⟩ = some (.slice ao d.mag.length cap) ∧ w.cell? ⟨p, 2, none⟩ = some (.int .i64 d.exp)) ∧ LRow w ao d.mag
theorem Box.below {w w' : World} {p : Nat} {d : Dy} (h : Box w p d) (hb : Below w.heap.size w w') : Box w' p d := by
  obtain ⟨ao, cap, hc, hr⟩ := h
  exact ⟨ao, cap, three_on hb hc, hr.below hb⟩
theorem lm1 {x : Nat} (h : x < 18446744073709551616) : Lm [x] := fun y hy => by simp at hy; omega

set_option maxHeartbeats 2000000 in
set_option maxRecDepth 100000 in
theorem awake_any (w : World) (hT : TabW w) :
    Calls Tryd.prog 7 #[] w fun e w' => e = .returned (.bool true) ∧ Below w.heap.size w w' := by
  have hof := Of_any 4604930618986332160 (by omega) w hT
  rw [aw_of] at hof
  have hi1 := fun w' hT' => Int_any 1 (by omega) (by omega) w' hT'
  rw [aw_int1] at hi1
  have hi2 := fun w' hT' => Int_any (-2) (by omega) (by omega) w' hT'
  rw [aw_int2] at hi2
  go_enter Tryd.func7, Tryd.ntmps7
  go_upto_region 1 with fail
  go_cut [11, 12, 13, 14, 1, 2] (fun _ _ _ _ s1 s2 wx => ∃ p ao cap, s1 = .pointer (some ⟨p, 0, none⟩) ∧ s2 = .int .i64 0 ∧ (wx.cell? ⟨p, 0, none⟩ = some (.bool false) ∧ wx.cell? ⟨p, 1, none⟩ = some (.slice ao 1 cap) ∧ wx.cell? ⟨p, 2, none⟩ = some (.int .i64 (-2))) ∧ LRow wx ao [3] ∧ Below w.heap.size w wx)
  case first =>
    go_wp2_with (go_at_call 16; refine hof.mono ?_; rintro e w1 ⟨ao, cap, rfl, hrow, _, hb⟩)
    go_meet
    refine ⟨_, ao, cap, rfl, rfl, ⟨?_, ?_, ?_⟩, hrow.alloc _, hb.alloc hb.size _⟩ <;> go_simp
  obtain ⟨p, ao, cap, rfl, rfl, ⟨c0, c1, c2⟩, hr, hB⟩ := hcut
  obtain ⟨wq, hwq⟩ : ∃ wq, wq = wc := ⟨_, rfl⟩
  subst hwq
  have hTq := tabW_below hT hB
  have hadd := fun bo bcap w' hr' hs' hT' => Add_any ⟨false, [3], -2⟩ ⟨false, [1], 0⟩ ao bo cap bcap w' hr' hs' (lm1 (by omega)) (lm1 (by omega)) hT'
  rw [aw_add] at hadd
  simp only [List.length_singleton] at hadd hi1
  have hp : p < wq.heap.size := World.block_lt_of_cell? wq _ c0
  have eq1 : ¬ p = wq.heap.size := by omega
  have eq2 : ¬ wq.heap.size = p := by omega
  go_upto_region 2 with fail
  go_cut [15, 16, 17, 18, 19, 20, 3, 4] (fun _ _ _ _ _ _ s3 s4 wx => ∃ p ao cap, s3 = .pointer (some ⟨p, 0, none⟩) ∧ s4 = .int .i64 0 ∧ (wx.cell? ⟨p, 0, none⟩ = some (.bool false) ∧ wx.cell? ⟨p, 1, none⟩ = some (.slice ao 1 cap) ∧ wx.cell? ⟨p, 2, none⟩ = some (.int .i64 (-2))) ∧ LRow wx ao [7] ∧ Below w.heap.size w wx)
  case first =>
    go_region_held3 (fun w' => w'.cell? ⟨p, 0, none⟩ = some (.bool false) ∧ w'.cell? ⟨p, 1, none⟩ = some (.slice ao 1 cap) ∧ w'.cell? ⟨p, 2, none⟩ = some (.int .i64 (-2))) (go_keep)
      (first | (go_at_call 25; refine (hi1 _ (by first | exact hTq | exact tabW_alloc hTq _)).mono ?_; rintro e wI ⟨bo, bcap, rfl, hrI, _, hbI⟩; replace hbI := undrew hbI; have hBI : Below wq.heap.size wq wI := (by first | exact hbI | exact ((Below.refl _ _).alloc (Nat.le_refl _) _).trans (hbI.mono (by go_simp))); obtain ⟨i0, i1, i2⟩ := three_on (p := p) hBI ⟨c0, c1, c2⟩; obtain ⟨hcI, hfI⟩ := oldc hbI; have hzI := hbI.size; have eI : ¬ p = wI.heap.size := (by have := hBI.size; omega); have eI' : ¬ wI.heap.size = p := (by omega); try simp at hzI; try (have hzI2 : wq.heap.size < wI.heap.size := (by omega))) | (go_at_call 9; refine (hadd _ _ _ (by first | exact hr.below hBI | exact (hr.below hBI).alloc _) (by first | exact hrI | exact hrI.alloc _) (by first | exact tabW_below hTq hBI | exact tabW_alloc (tabW_below hTq hBI) _)).mono ?_; rintro e wA ⟨bo2, bcap2, rfl, hrA, hfA, hbA⟩; have hBA : Below wq.heap.size wq wA := (by first | exact hBI.trans (hbA.mono hBI.size) | exact (hBI.alloc hBI.size _).trans (hbA.mono (hBI.alloc hBI.size _).size)); obtain ⟨j0, j1, j2⟩ := three_on (p := p) hBA ⟨c0, c1, c2⟩; obtain ⟨hcA, hfA2⟩ := oldc hbA; have hzA := hbA.size; have eA : ¬ p = wA.heap.size := (by have := hBA.size; omega); have eA' : ¬ wA.heap.size = p := (by omega); try simp at hzA; try (have hzA2 : wI.heap.size < wA.heap.size := (by omega))))
    all_goals go_wp2_with fail
    all_goals go_meet
    all_goals
      have hBw : Below w.heap.size w wA := hB.trans (hBA.mono hB.size)
      have s1 := hB.size
      have s2 := hBI.size
      refine ⟨_, bo2, bcap2, rfl, rfl, ⟨?_, ?_, ?_⟩, ?_, ?_⟩
      · go_simp
      · go_simp
      · go_simp
      · first | exact hrA.alloc _ | exact ((hrA.box hfA (by simp; omega) _ _).box hfA (by simp; omega) _ _).box hfA (by simp; omega) _ _ | exact ((hrA.box hfA (by omega) _ _).box hfA (by omega) _ _).box hfA (by omega) _ _ | exact ((hrA.box hfA (by simp) _ _).box hfA (by simp) _ _).box hfA (by simp) _ _
      · first | exact hBw.alloc hBw.size _ | exact ((hBw.setCell (by simp only; omega) _).setCell (by simp only; omega) _).setCell (by simp only; omega) _
  clear c0 c1 c2 hr hB hTq hadd hp eq1 eq2
  obtain ⟨p, ao, cap, rfl, rfl, ⟨c0, c1, c2⟩, hr, hB⟩ := hcut
  obtain ⟨wq, hwq⟩ : ∃ wq, wq = wc := ⟨_, rfl⟩
  subst hwq
  have hTq := tabW_below hT hB
  have hadd := fun bo bcap w' hr' hs' hT' => mul_any ⟨false, [7], -2⟩ ⟨true, [1], 1⟩ ao bo cap bcap w' hr' hs' (lm1 (by omega)) (lm1 (by omega)) hT'
  rw [aw_mul] at hadd
  simp only [List.length_singleton] at hadd hi2
  have hp : p < wq.heap.size := World.block_lt_of_cell? wq _ c0
  have eq1 : ¬ p = wq.heap.size := by omega
  have eq2 : ¬ wq.heap.size = p := by omega
  go_upto_region 3 with fail
  go_cut [21, 22, 23, 24, 25, 26, 5, 6] (fun _ _ _ _ _ _ s3 s4 wx => ∃ p ao cap, s3 = .pointer (some ⟨p, 0, none⟩) ∧ s4 = .int .i64 0 ∧ (wx.cell? ⟨p, 0, none⟩ = some (.bool true) ∧ wx.cell? ⟨p, 1, none⟩ = some (.slice ao 1 cap) ∧ wx.cell? ⟨p, 2, none⟩ = some (.int .i64 (-1))) ∧ LRow wx ao [7] ∧ Below w.heap.size w wx)
  case first =>
    go_region_held3 (fun w' => w'.cell? ⟨p, 0, none⟩ = some (.bool false) ∧ w'.cell? ⟨p, 1, none⟩ = some (.slice ao 1 cap) ∧ w'.cell? ⟨p, 2, none⟩ = some (.int .i64 (-2))) (go_keep)
      (first | (go_at_call 25; refine (hi2 _ (by first | exact hTq | exact tabW_alloc hTq _)).mono ?_; rintro e wI ⟨bo, bcap, rfl, hrI, _, hbI⟩; replace hbI := undrew hbI; have hBI : Below wq.heap.size wq wI := (by first | exact hbI | exact ((Below.refl _ _).alloc (Nat.le_refl _) _).trans (hbI.mono (by go_simp))); obtain ⟨i0, i1, i2⟩ := three_on (p := p) hBI ⟨c0, c1, c2⟩; obtain ⟨hcI, hfI⟩ := oldc hbI; have hzI := hbI.size; have eI : ¬ p = wI.heap.size := (by have := hBI.size; omega); have eI' : ¬ wI.heap.size = p := (by omega); try simp at hzI; try (have hzI2 : wq.heap.size < wI.heap.size := (by omega))) | (go_at_call 10; refine (hadd _ _ _ (by first | exact hr.below hBI | exact (hr.below hBI).alloc _) (by first | exact hrI | exact hrI.alloc _) (by first | exact tabW_below hTq hBI | exact tabW_alloc (tabW_below hTq hBI) _)).mono ?_; rintro e wA ⟨bo2, bcap2, rfl, hrA, hfA, hbA⟩; have hBA : Below wq.heap.size wq wA := (by first | exact hBI.trans (hbA.mono hBI.size) | exact (hBI.alloc hBI.size _).trans (hbA.mono (hBI.alloc hBI.size _).size)); obtain ⟨j0, j1, j2⟩ := three_on (p := p) hBA ⟨c0, c1, c2⟩; obtain ⟨hcA, hfA2⟩ := oldc hbA; have hzA := hbA.size; have eA : ¬ p = wA.heap.size := (by have := hBA.size; omega); have eA' : ¬ wA.heap.size = p := (by omega); try simp at hzA; try (have hzA2 : wI.heap.size < wA.heap.size := (by omega))))
    all_goals go_wp2_with fail
    all_goals go_meet
    all_goals
      have hBw : Below w.heap.size w wA := hB.trans (hBA.mono hB.size)
      have s1 := hB.size
      have s2 := hBI.size
      refine ⟨_, bo2, bcap2, rfl, rfl, ⟨?_, ?_, ?_⟩, ?_, ?_⟩
      · go_simp
      · go_simp
      · go_simp
      · first | exact hrA.alloc _ | exact ((hrA.box hfA (by simp; omega) _ _).box hfA (by simp; omega) _ _).box hfA (by simp; omega) _ _ | exact ((hrA.box hfA (by omega) _ _).box hfA (by omega) _ _).box hfA (by omega) _ _ | exact ((hrA.box hfA (by simp) _ _).box hfA (by simp) _ _).box hfA (by simp) _ _
      · first | exact hBw.alloc hBw.size _ | exact ((hBw.setCell (by simp only; omega) _).setCell (by simp only; omega) _).setCell (by simp only; omega) _
  clear c0 c1 c2 hr hB hTq hadd hp eq1 eq2
  obtain ⟨p, ao, cap, rfl, rfl, ⟨c0, c1, c2⟩, hr, hB⟩ := hcut
  obtain ⟨wq, hwq⟩ : ∃ wq, wq = wc := ⟨_, rfl⟩
  subst hwq
  have hr1 := Round_ok true [7] (-1) ao cap 0 wq hr (lm1 (by omega)) (by kernel_rfl)
  rw [aw_rnd1] at hr1
  have hr2 := fun W o ho => Round_ok false [1] (-1075) (some ⟨World.heap W |>.size, 0, none⟩) 1 2 (World.alloc W o) (one_lrow W 1 o ho) (lm1 (by omega)) (by kernel_rfl)
  rw [aw_rnd2] at hr2
  simp only [List.length_singleton] at hr1 hr2
  have o1 : (FloatKind.f64.format.order 13838435755002691584 13838435755002691584 == some .eq) = true := by kernel_rfl
  have o2 : (FloatKind.f64.format.order 1 0 == some .gt) = true := by kernel_rfl
  have o3 : (FloatKind.f64.format.order 1 118622047889322841 == some .lt) = true := by kernel_rfl
  go_wp2_with (first | (go_at_call_of 18 (Value.int IntKind.i8 0); refine hr1.mono ?_; rintro e w1 ⟨rfl, hb1⟩) | (go_at_call 18; refine (hr2 _ _ rfl).mono ?_; rintro e w2 ⟨rfl, hb2⟩))
  go_ret
  have hB1 : Below w.heap.size w w1 := hB.trans (hb1.mono hB.size)
  have hB2 := hB1.alloc hB1.size (.cells #[.int .u64 ((1 : Nat) : Int)] 49)
  exact ⟨rfl, hB2.trans (hb2.mono hB2.size)⟩
end Go.Proofs.YtjdhadpfhnmkhaaDoor
