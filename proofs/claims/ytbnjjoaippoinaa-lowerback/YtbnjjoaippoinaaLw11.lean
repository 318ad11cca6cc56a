/- awake of layer 12: the chapter's examples. -/
import Derived.Test.YtbnjjoaippoinaaU5
import Derived.Test.YtbnjjoaippoinaaA1
namespace Go.Proofs.Ytbnjjoaippoinaa
open Go.RowKit

/-- 4 2 / 2 5; 4 2 / 2 1. -/
def awA : List Nat := [4616189618054758400, 4611686018427387904, 4611686018427387904, 4617315517961601024]
def awB : List Nat := [4616189618054758400, 4611686018427387904, 4611686018427387904, 4607182418800017408]
theorem awA_res : Res 2 2 awA 0 0 (fun _ _ => 4602678819172646912) (fun _ => 4616189618054758400) := by
  refine Or.inr (Or.inr ⟨by kernel_rfl, by kernel_rfl, Or.inl ⟨rfl, rfl, fun j hj => ?_⟩⟩)
  have hj : j < 2 := hj
  have : j = 0 ∨ j = 1 := by omega
  rcases this with rfl | rfl
  · refine ⟨by kernel_rfl, by kernel_rfl, fun i h1 h2 => ?_⟩
    have h2 : i < 2 := h2
    have : i = 1 := by omega
    subst this
    exact ⟨by kernel_rfl, by kernel_rfl⟩
  · refine ⟨by kernel_rfl, by kernel_rfl, fun i h1 h2 => ?_⟩
    have h2 : i < 2 := h2
    omega
theorem awB_res : Res 2 2 awB 220 1 (fun _ _ => 4602678819172646912) (fun _ => 4616189618054758400) := by
  refine Or.inr (Or.inr ⟨by kernel_rfl, by kernel_rfl, Or.inr (Or.inl ⟨rfl, by decide, fun j hj => ?_, by kernel_rfl⟩)⟩)
  have : j = 0 := by omega
  subst this
  refine ⟨by kernel_rfl, by kernel_rfl, fun i h1 h2 => ?_⟩
  have h2 : i < 2 := h2
  have : i = 1 := by omega
  subst this
  exact ⟨by kernel_rfl, by kernel_rfl⟩
theorem aw_len1 {ls : List Nat} (h : ls.length = 1) : ls = [ls.getD 0 0] := by
  match ls, h with
  | [x], _ => rfl
theorem aw_len2 {ls : List Nat} (h : ls.length = 2) : ls = [ls.getD 0 0, ls.getD 1 0] := by
  match ls, h with
  | [x, y], _ => rfl
theorem aw_fac (ao : Option Addr) (w : World) (h : GRow w ao awA) : Calls Try.prog 8 #[mxV 2 2 ao 4 4] w fun e w' => ∃ lo lc dO dc, e = .returned (.tuple #[fcV 2 lo 1 lc dO 2 dc, .int .i64 0, .int .i64 0]) ∧ GRow w' lo [4602678819172646912] ∧ GRow w' dO [4616189618054758400, 4616189618054758400] ∧ 1 ≤ lc ∧ Below w.heap.size w w' := by
  refine Calls.mono (lfactor_any 2 2 awA ao 4 w h (fw_lit _ (by decide)) (by decide)) ?_
  rintro e w' ⟨er, row, f, d, v, hR, rfl, hB, _, h0⟩
  obtain ⟨e1, e2, e3⟩ := res_one hR awA_res
  obtain ⟨hf, hd⟩ := e3 e1
  obtain ⟨h1, N, hN, _, ls, ds, lo, lc, dO, dc, rfl, g1, g2, _, _, g5, g6, g7, _, _, _, _, _, g8, g9⟩ := h0 e1
  have eN : N = 2 := by omega
  subst eN
  have eL1 : ls = [4602678819172646912] := by
    rw [aw_len1 (show ls.length = 1 from g5)]
    have := g8 1 0 (by omega) (by omega)
    rw [hf 0 1 (by omega) (by decide)] at this
    rw [show ls.getD 0 0 = 4602678819172646912 from this]
  have eD1 : ds = [4616189618054758400, 4616189618054758400] := by
    rw [aw_len2 g6, g9 0 (by omega), g9 1 (by omega), hd 0 (by decide), hd 1 (by decide)]
  subst eL1 eD1 e1 e2
  exact ⟨lo, lc, dO, dc, rfl, g1, g2, g7, hB⟩
theorem aw_fac2 (ao : Option Addr) (w : World) (h : GRow w ao awB) : Calls Try.prog 8 #[mxV 2 2 ao 4 4] w fun e w' => e = .returned (.tuple #[fcV 0 none 0 0 none 0 0, .int .i64 220, .int .i64 1]) ∧ Below w.heap.size w w' := by
  refine Calls.mono (lfactor_any 2 2 awB ao 4 w h (fw_lit _ (by decide)) (by decide)) ?_
  rintro e w' ⟨er, row, f, d, v, hR, rfl, hB, hv, _⟩
  obtain ⟨e1, e2, _⟩ := res_one hR awB_res
  subst e1 e2
  rw [hv (by decide)]
  exact ⟨rfl, hB⟩
theorem aw_tiA : tiA 2 [4602678819172646912] [4616189618054758400, 4616189618054758400] = ⟨2, 2, awA.map some, 0⟩ := by kernel_rfl
theorem aw_sf (lo dO lo' do' : Option Addr) (lc dc : Nat) (w : World) (h1 : GRow w lo [4602678819172646912]) (h2 : GRow w dO [4616189618054758400, 4616189618054758400]) (h3 : GRow w lo' [4602678819172646912]) (h4 : GRow w do' [4616189618054758400, 4616189618054758400]) :
    Calls Try.prog 10 #[fcV 2 lo 1 lc dO 2 dc, fcV 2 lo' 1 1 do' 2 2] w fun e w' => e = .returned (.bool true) ∧ Below w.heap.size w w' :=
  sfac_any 2 [4602678819172646912] [4616189618054758400, 4616189618054758400] [4602678819172646912] [4616189618054758400, 4616189618054758400] lo dO lo' do' lc dc 1 2 w h1 h2 h3 h4 (fw_lit _ (by decide)) (fw_lit _ (by decide)) (fw_lit _ (by decide)) (fw_lit _ (by decide)) (by decide) (by decide) (by decide) (by decide) (by kernel_rfl) (by kernel_rfl)
theorem aw_smx (ao bo : Option Addr) (cap cap2 : Nat) (w : World) (h1 : GRow w ao awA) (h2 : GRow w bo awA) : Calls Try.prog 17 #[mxV 2 2 ao 4 cap, mxV 2 2 bo 4 cap2] w fun e w' => e = .returned (.bool true) ∧ Below w.heap.size w w' := by
  have h := ksame_any 2 2 awA 2 2 awA ao bo cap cap2 w h1 h2 (fw_lit _ (by decide)) (fw_lit _ (by decide)) (by decide) (by decide)
  rw [show sameM 2 2 awA 2 2 awA = true by kernel_rfl] at h
  exact h
end Go.Proofs.Ytbnjjoaippoinaa
