/- What Near answers of the list 1, 1, -1. -/
import Derived.Test.YtdjljbcigobdpaaDoorBg
namespace Go.Proofs.YtdjljbcigobdpaaDoor
open Go.RowKit

theorem two_row (w : World) (x y : Nat) (t : TypeId) : GRow (w.alloc (.cells #[.float .f64 x, .float .f64 y] t)) (some ⟨w.heap.size, 0, none⟩) [x, y] := by
  right
  refine ⟨w.heap.size, 0, rfl, fun j hj => ?_⟩
  have h2 : j < 2 := by simpa using hj
  rcases (show j = 0 ∨ j = 1 by omega) with rfl | rfl <;> simp [go_sem]
def nearS (k : Nat) : Nat := if k = 0 then 0 else if k = 1 then 4607182418800017408 else if k = 2 then 4611686018427387904 else 4613937818241073152
theorem naive_three : naiveO [4607182418800017408, 4607182418800017408, 13830554455654793216] = some 4607182418800017408 := by kernel_rfl
set_option maxRecDepth 100000 in
set_option maxHeartbeats 2000000 in
theorem near_lit (B : Nat) (w : World) (hr : GRow w (some ⟨B, 0, none⟩) [4607182418800017408, 4607182418800017408, 13830554455654793216]) :
    Calls Tryd.prog 20 #[.slice (some ⟨B, 0, none⟩) 3 3] w fun e w' => e = .returned (.tuple #[.float .f64 4607182418800017408, .float .f64 4387068987012284416, .int .i64 0]) ∧ Below w.heap.size w w' := by
  have hF : FW [4607182418800017408, 4607182418800017408, 13830554455654793216] := by intro x hx; simp at hx; omega
  have ca := allfin_any _ (some ⟨B, 0, none⟩) 3 w hr hF (by simp)
  rw [show List.all [4607182418800017408, 4607182418800017408, 13830554455654793216] finB = true by kernel_rfl] at ca
  have cn := naive_any _ (some ⟨B, 0, none⟩) 3 w hr hF (by simp)
  rw [naive_three] at cn
  have a1 := radd_gen 0 4607182418800017408 2 (by omega) (by omega) (by kernel_rfl) (by kernel_rfl)
  have a2 := radd_gen 4607182418800017408 4607182418800017408 2 (by omega) (by omega) (by kernel_rfl) (by kernel_rfl)
  have a3 := radd_gen 4611686018427387904 4607182418800017408 2 (by omega) (by omega) (by kernel_rfl) (by kernel_rfl)
  rw [show addV 0 4607182418800017408 2 = 4607182418800017408 by kernel_rfl] at a1
  rw [show addV 4607182418800017408 4607182418800017408 2 = 4611686018427387904 by kernel_rfl] at a2
  rw [show addV 4611686018427387904 4607182418800017408 2 = 4613937818241073152 by kernel_rfl] at a3
  have b1 := abs_any 4607182418800017408 (by omega)
  have b2 := abs_any 13830554455654793216 (by omega)
  rw [show rung 4607182418800017408 = 4607182418800017408 by kernel_rfl] at b1
  rw [show rung 13830554455654793216 = 4607182418800017408 by kernel_rfl] at b2
  have o1 := fun w => run_float_arith (P := Tryd.prog) w .mul 25 .f64 4613937818241073152 4372995238176751616 4379750637617807360 (by kernel_rfl)
  have c1 : floatOfInt .f64 3 = 4613937818241073152 := by kernel_rfl
  have hcv := conv64
  have m1 := rmul_great 4379750637617807360 4613937818241073152 4387068987012284416 0 2 (by omega) (by omega) (by kernel_rfl) (by kernel_rfl) (by kernel_rfl) (by omega) (by kernel_rfl) (by kernel_rfl) (by omega)
  rw [show stepF 4387068987012284416 (signF 0) 2 = 4387068987012284416 by kernel_rfl] at m1
  have hF2 : FW [4607182418800017408, 4387068987012284416] := by intro x hx; simp at hx; omega
  have cb := fun W => allfin_any _ (some ⟨World.heap W |>.size, 0, none⟩) 2 _ (two_row W 4607182418800017408 4387068987012284416 25) hF2 (by simp)
  rw [show List.all [4607182418800017408, 4387068987012284416] finB = true by kernel_rfl] at cb
  simp only [List.length_cons, List.length_nil, Nat.zero_add, Nat.reduceAdd] at ca cn cb
  rcases hr with h | ⟨b, off, e, hc⟩
  · cases h
  have eb : b = B ∧ off = 0 := by cases e; exact ⟨rfl, rfl⟩
  obtain ⟨rfl, rfl⟩ := eb
  have g0 := hc 0 (by simp)
  have g1 := hc 1 (by simp)
  have g2 := hc 2 (by simp)
  simp only [Nat.zero_add, List.getD_cons_zero, List.getD_cons_succ] at g0 g1 g2
  clear hc e hF hF2
  go_enter Tryd.func20, Tryd.ntmps20
  go_upto_region 4 with (go_at_call 22; refine ca.mono ?_; rintro e wz ⟨rfl, rfl⟩)
  go_wp2
  go_loopg [5, 6, 15] 3 (fun g s _ i wr => ∃ k : Nat, k ≤ 3 ∧ g = 3 - k ∧ s = .float .f64 (nearS k) ∧ i = .int .i64 k ∧ wr = wz)
  case atStart => exact ⟨0, by omega, rfl, rfl, rfl, rfl⟩
  case round =>
    obtain ⟨k, hk, hg, rfl, rfl, rfl⟩ := hrel
    have HG : Hid (gk = 3 - k) := hg
    clear hg
    rcases (show k = 0 ∨ k = 1 ∨ k = 2 ∨ k = 3 by omega) with rfl | rfl | rfl | rfl
    · rw [show nearS 0 = 0 from rfl]
      go_wp2_with (first | (go_at_call 16; refine (b1 _).mono ?_; rintro e w' ⟨rfl, rfl⟩) | (go_at_call 26; refine (a1 _).mono ?_; rintro e w' ⟨rfl, rfl⟩))
      go_roundg 2
      case measure => rw [HG.out]; omega
      case rel => exact ⟨1, by omega, rfl, rfl, rfl, rfl⟩
    · rw [show nearS 1 = 4607182418800017408 from rfl]
      go_wp2_with (first | (go_at_call 16; refine (b1 _).mono ?_; rintro e w' ⟨rfl, rfl⟩) | (go_at_call 26; refine (a2 _).mono ?_; rintro e w' ⟨rfl, rfl⟩))
      go_roundg 1
      case measure => rw [HG.out]; omega
      case rel => exact ⟨2, by omega, rfl, rfl, rfl, rfl⟩
    · rw [show nearS 2 = 4611686018427387904 from rfl]
      go_wp2_with (first | (go_at_call 16; refine (b2 _).mono ?_; rintro e w' ⟨rfl, rfl⟩) | (go_at_call 26; refine (a3 _).mono ?_; rintro e w' ⟨rfl, rfl⟩))
      go_roundg 0
      case measure => rw [HG.out]; omega
      case rel => exact ⟨3, by omega, rfl, rfl, rfl, rfl⟩
    · rw [show nearS 3 = 4613937818241073152 from rfl]
      go_wp2_with (first
        | (go_at_call 6; refine cn.mono ?_; rintro e w1 ⟨r, rfl, hN, b3⟩; obtain rfl : r = 4607182418800017408 := hN.2)
        | (go_at_call 27; refine (m1 _).mono ?_; rintro e w' ⟨rfl, rfl⟩)
        | (go_at_call 22; refine (cb _).mono ?_; rintro e w' ⟨rfl, rfl⟩))
      exact bodyPost_ret (v := .tuple #[.float .f64 4607182418800017408, .float .f64 4387068987012284416, .int .i64 0]) (by simp [results, Tryd.results20, go_sem]) rfl ⟨rfl, b3.alloc b3.size _⟩
end Go.Proofs.YtdjljbcigobdpaaDoor
