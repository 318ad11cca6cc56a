/- What sums' exact and Exact's closure answer of finite floats. -/
import Derived.Test.YtdjljbcigobdpaaDoorBh
import Derived.Test.YtdjljbcigobdpaaDoorZe
import Derived.Test.YtdjljbcigobdpaaDoorZo
import Derived.Test.YtdjljbcigobdpaaDoorHa
namespace Go.Proofs.YtdjljbcigobdpaaDoor
open Go.RowKit

theorem sbox {w w1 : World} {x0 x1 x2 : Value} {s : TypeId} (hb : Below (w.alloc (.cells #[x0, x1, x2] s)).heap.size (w.alloc (.cells #[x0, x1, x2] s)) w1) :
    (w1.cell? ⟨w.heap.size, 0, none⟩ = some x0 ∧ w1.cell? ⟨w.heap.size, 1, none⟩ = some x1 ∧ w1.cell? ⟨w.heap.size, 2, none⟩ = some x2) ∧
    (w1.frozen? ⟨w.heap.size, 0, none⟩ = false ∧ w1.frozen? ⟨w.heap.size, 1, none⟩ = false ∧ w1.frozen? ⟨w.heap.size, 2, none⟩ = false) ∧ Below w.heap.size w w1 := by
  have h := fun (o : Nat) => hb.cell (p := ⟨w.heap.size, o, none⟩) (by simp)
  have g := fun (o : Nat) => hb.frozen (p := ⟨w.heap.size, o, none⟩) (by simp)
  refine ⟨⟨?_, ?_, ?_⟩, ⟨?_, ?_, ?_⟩, ((Below.refl _ _).alloc (Nat.le_refl _) _).trans (hb.mono (by go_simp))⟩
  · rw [h]; simp [go_sem]
  · rw [h]; simp [go_sem]
  · rw [h]; simp [go_sem]
  · rw [g]; simp [go_sem]
  · rw [g]; simp [go_sem]
  · rw [g]; simp [go_sem]
set_option maxHeartbeats 1000000 in
theorem sexact_any (x : Nat) (D : Dy) (hx : x < 18446744073709551616) (eD : ofD x = (D, 0)) (w : World) (hT : TabW w) :
    Calls Tryd.prog 25 #[.float .f64 x] w (GaveD w D) := by
  have ox := fun w h => Of_any x hx w h
  rw [eD] at ox
  clear eD
  go_enter Tryd.func25, Tryd.ntmps25
  go_upto_region 2 with (go_at_call 30; refine (ox _ (tabW_alloc hT _)).mono ?_; rintro e w1 ⟨ax, cx, rfl, r1, f1, b1⟩)
  have B6 := b1.alloc b1.size (.cells #[.bool D.neg, .slice ax D.mag.length cx, .int .i64 D.exp] 49)
  obtain ⟨⟨c0, c1, c2⟩, ⟨g0, g1, g2⟩, B7⟩ := sbox B6
  have E6 := Hd.new (cap := cx) r1
  have e0 := E6.c0
  have e1 := E6.c1
  have e2 := E6.c2
  have hfr : Frs (w.heap.size + 1) ax := f1.mono (by simp)
  go_wp2
  exact bodyPost_ret (v := .agg #[.bool D.neg, .slice ax D.mag.length cx, .int .i64 D.exp]) (by simp [results, Tryd.results25, go_sem, c0, c1, c2]) rfl ⟨ax, cx, rfl, (((E6.row).box hfr (by omega) _ _).box hfr (by omega) _ _).box hfr (by omega) _ _, hfr.mono (by omega), ((B7.setCell (Nat.le_refl _) _).setCell (Nat.le_refl _) _).setCell (Nat.le_refl _) _⟩
set_option maxHeartbeats 1000000 in
theorem exact1_any (xs : List Nat) (b off cap B k x : Nat) (D : Dy) (ex : xs.getD k 0 = x) (hx : x < 18446744073709551616) (eD : ofD x = (D, 0)) (w : World) (hT : TabW w) (hc : w.cell? ⟨b, off + k, none⟩ = some (.float .f64 (xs.getD k 0))) (hk : k < xs.length) (hB : w.cell? ⟨B, 0, none⟩ = some (.slice (some ⟨b, off, none⟩) xs.length cap)) :
    Calls Tryd.prog 24 #[.int .i64 k, .pointer (some ⟨B, 0, none⟩)] w (GaveD w D) := by
  have ce := fun w h => sexact_any x D hx eD w h
  rw [ex] at hc
  have i1 : (k : Int) < (xs.length : Int) := by omega
  have hc2 := cell_alloc hc (.cells #[.bool false, .slice none 0 0, .int .i64 0] 49)
  have hB2 := cell_alloc hB (.cells #[.bool false, .slice none 0 0, .int .i64 0] 49)
  clear ex eD hc hB
  go_enter Tryd.func24, Tryd.ntmps24
  go_wp2_with (go_at_call 25; refine (ce _ (tabW_alloc hT _)).mono ?_; rintro e w1 ⟨ax, cx, rfl, r1, f1, b1⟩; obtain ⟨⟨c0, c1, c2⟩, ⟨g0, g1, g2⟩, B7⟩ := sbox b1)
  have hfr : Frs (w.heap.size + 1) ax := f1.mono (by simp)
  exact bodyPost_ret (v := .agg #[.bool D.neg, .slice ax D.mag.length cx, .int .i64 D.exp]) (by simp [results, Tryd.results24, go_sem, c0, c1, c2]) rfl ⟨ax, cx, rfl, ((r1.box hfr (by omega) _ _).box hfr (by omega) _ _).box hfr (by omega) _ _, hfr.mono (by omega), ((B7.setCell (Nat.le_refl _) _).setCell (Nat.le_refl _) _).setCell (Nat.le_refl _) _⟩
end Go.Proofs.YtdjljbcigobdpaaDoor
