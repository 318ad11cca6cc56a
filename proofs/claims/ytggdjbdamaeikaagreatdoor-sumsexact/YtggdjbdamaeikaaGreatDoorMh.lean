/- What the reference's Times, top answer. -/
import Derived.Test.YtggdjbdamaeikaaGreatDoorMg
namespace Go.Proofs.YtggdjbdamaeikaaGreatDoor
open Go.RowKit

/-- Three boxes of three cells, behind a call that turned nothing old. -/
theorem bx3 {w w1 : World} {x0 x1 x2 y0 y1 y2 z0 z1 z2 : Value} {s t u : TypeId} (hb : Below (((w.alloc (.cells #[x0, x1, x2] s)).alloc (.cells #[y0, y1, y2] t)).alloc (.cells #[z0, z1, z2] u)).heap.size (((w.alloc (.cells #[x0, x1, x2] s)).alloc (.cells #[y0, y1, y2] t)).alloc (.cells #[z0, z1, z2] u)) w1) :
    (w1.cell? ⟨w.heap.size, 0, none⟩ = some x0 ∧ w1.cell? ⟨w.heap.size, 1, none⟩ = some x1 ∧ w1.cell? ⟨w.heap.size, 2, none⟩ = some x2) ∧
    (w1.cell? ⟨w.heap.size + 1, 0, none⟩ = some y0 ∧ w1.cell? ⟨w.heap.size + 1, 1, none⟩ = some y1 ∧ w1.cell? ⟨w.heap.size + 1, 2, none⟩ = some y2) ∧
    (w1.cell? ⟨w.heap.size + 1 + 1, 0, none⟩ = some z0 ∧ w1.cell? ⟨w.heap.size + 1 + 1, 1, none⟩ = some z1 ∧ w1.cell? ⟨w.heap.size + 1 + 1, 2, none⟩ = some z2) ∧
    (w1.frozen? ⟨w.heap.size + 1 + 1, 0, none⟩ = false ∧ w1.frozen? ⟨w.heap.size + 1 + 1, 1, none⟩ = false ∧ w1.frozen? ⟨w.heap.size + 1 + 1, 2, none⟩ = false) ∧ Below w.heap.size w w1 := by
  obtain ⟨hc, hf⟩ := oldc hb
  have l0 : w.heap.size < (((w.alloc (.cells #[x0, x1, x2] s)).alloc (.cells #[y0, y1, y2] t)).alloc (.cells #[z0, z1, z2] u)).heap.size := by go_simp
  have l1 : w.heap.size + 1 < (((w.alloc (.cells #[x0, x1, x2] s)).alloc (.cells #[y0, y1, y2] t)).alloc (.cells #[z0, z1, z2] u)).heap.size := by go_simp
  have l2 : w.heap.size + 1 + 1 < (((w.alloc (.cells #[x0, x1, x2] s)).alloc (.cells #[y0, y1, y2] t)).alloc (.cells #[z0, z1, z2] u)).heap.size := by go_simp
  have h0 : Below w.heap.size w (((w.alloc (.cells #[x0, x1, x2] s)).alloc (.cells #[y0, y1, y2] t)).alloc (.cells #[z0, z1, z2] u)) := (((Below.refl _ _).alloc (Nat.le_refl _) _).alloc (by simp) _).alloc (by simp; omega) _
  refine ⟨⟨?_, ?_, ?_⟩, ⟨?_, ?_, ?_⟩, ⟨?_, ?_, ?_⟩, ⟨?_, ?_, ?_⟩, h0.trans (hb.mono h0.size)⟩
  · rw [hc _ _ l0]; go_simp
  · rw [hc _ _ l0]; go_simp
  · rw [hc _ _ l0]; go_simp
  · rw [hc _ _ l1]; go_simp
  · rw [hc _ _ l1]; go_simp
  · rw [hc _ _ l1]; go_simp
  · rw [hc _ _ l2]; go_simp
  · rw [hc _ _ l2]; go_simp
  · rw [hc _ _ l2]; go_simp
  · rw [hf _ _ l2]; go_simp
  · rw [hf _ _ l2]; go_simp
  · rw [hf _ _ l2]; go_simp
theorem al3 {w : World} {o1 o2 o3 : Obj} : Below w.heap.size w (((w.alloc o1).alloc o2).alloc o3) := (((Below.refl _ _).alloc (Nat.le_refl _) _).alloc (by simp) _).alloc (by simp; omega) _
set_option maxHeartbeats 2000000 in
theorem times_any (a b : Dy) (ao bo : Option Addr) (cap bcap : Nat) (w : World) (hr : NS w ao cap a.mag) (hs : NS w bo bcap b.mag) (hL : Lm a.mag) (hM : Lm b.mag) (hn : a.mag.length ≤ 1099511627776) (hm : b.mag.length ≤ 1099511627776) (he : -4611686018427387904 ≤ a.exp ∧ a.exp ≤ 4611686018427387903) (hf : -4611686018427387904 ≤ b.exp ∧ b.exp ≤ 4611686018427387903) :
    Calls Tryz.prog 44 #[.agg #[.bool a.neg, .slice ao a.mag.length cap, .int .i64 a.exp], .agg #[.bool b.neg, .slice bo b.mag.length bcap, .int .i64 b.exp]] w (GaveM w ⟨a.neg != b.neg, lo (vl a.mag * vl b.mag), a.exp + b.exp⟩) := by
  have hT := fun w' (h1 : NS w' ao cap a.mag) (h2 : NS w' bo bcap b.mag) => natMul_any a.mag b.mag ao bo cap bcap w' h1 h2 hL hM hn hm
  obtain ⟨n1, xs, ex⟩ := a
  obtain ⟨n2, ys, ey⟩ := b
  simp only at *
  have hr2 := hr.below (al3 (o1 := .cells #[.bool n1, .slice ao xs.length cap, .int .i64 ex] 49) (o2 := .cells #[.bool n2, .slice bo ys.length bcap, .int .i64 ey] 49) (o3 := .cells #[.bool false, .slice none 0 0, .int .i64 0] 49)).drew
  have hs2 := hs.below (al3 (o1 := .cells #[.bool n1, .slice ao xs.length cap, .int .i64 ex] 49) (o2 := .cells #[.bool n2, .slice bo ys.length bcap, .int .i64 ey] 49) (o3 := .cells #[.bool false, .slice none 0 0, .int .i64 0] 49)).drew
  have hwr : IntKind.i64.wrap (ex + ey) = ex + ey := by rw [IntKind.wrap_i64]; omega
  have q1 : ¬ w.heap.size + 1 + 1 = w.heap.size := by omega
  have q2 : ¬ w.heap.size = w.heap.size + 1 + 1 := by omega
  go_enter Tryz.func44, Tryz.ntmps44
  go_wp2
  go_region_held3 (fun w' => w'.cell? ⟨w.heap.size, 0, none⟩ = some (.bool n1) ∧ w'.cell? ⟨w.heap.size, 1, none⟩ = some (.slice ao xs.length cap) ∧ w'.cell? ⟨w.heap.size, 2, none⟩ = some (.int .i64 ex) ∧ w'.cell? ⟨w.heap.size + 1, 0, none⟩ = some (.bool n2) ∧ w'.cell? ⟨w.heap.size + 1, 1, none⟩ = some (.slice bo ys.length bcap) ∧ w'.cell? ⟨w.heap.size + 1, 2, none⟩ = some (.int .i64 ey)) (go_keep)
    (first | (go_at_call 73; refine (hT _ hr2 hs2).mono ?_; rintro e w1 ⟨ao1, cap1, rfl, h1, f1, b1⟩; replace b1 := undrew b1; obtain ⟨⟨c0, c1, c2⟩, ⟨d0, d1, d2⟩, ⟨e0, e1, e2⟩, ⟨k0, k1, k2⟩, hB⟩ := bx3 b1))
  clear c0 c1 c2 d0 d1 d2 hr2 hs2
  have hfr2 : Frs (w.heap.size + 3) ao1 := f1.mono (by simp)
  go_wp2
  refine bodyPost_ret (v := .agg #[.bool (!(n1 == n2)), .slice ao1 (lo (vl xs * vl ys)).length cap1, .int .i64 (ex + ey)]) (by simp [results, Tryz.results44, go_sem, e0, e1, e2]) rfl ⟨ao1, cap1, rfl, ?_, hfr2.mono (by omega), ((hB.setCell (by simp; omega) _).setCell (by simp; omega) _).setCell (by simp; omega) _⟩
  exact ⟨((h1.1.box hfr2 (by omega) _ _).box hfr2 (by omega) _ _).box hfr2 (by omega) _ _, h1.2⟩
set_option maxHeartbeats 1000000 in
theorem ntop_any (d : Dy) (ao : Option Addr) (cap : Nat) (w : World) (hr : NS w ao cap d.mag) (hL : Lm d.mag) (hn : d.mag.length ≤ 17592186044416) (he : -4611686018427387904 ≤ d.exp ∧ d.exp ≤ 4611686018427387903) :
    Calls Tryz.prog 85 #[.agg #[.bool d.neg, .slice ao d.mag.length cap, .int .i64 d.exp]] w fun e w' => e = .returned (.int .i64 (d.exp + (bl (vl d.mag) : Int))) ∧ Below w.heap.size w w' := by
  have hB := fun w' (h : NS w' ao cap d.mag) => natBits_any d.mag ao cap w' h hL hn
  have hb2 : bl (vl d.mag) ≤ 64 * 17592186044416 := bl_limbs hL hn
  obtain ⟨neg, xs, ex⟩ := d
  simp only at *
  obtain ⟨t, ht⟩ : ∃ t, bl (vl xs) = t := ⟨_, rfl⟩
  rw [ht] at hB hb2 ⊢
  clear ht
  have hwr : IntKind.i64.wrap (ex + (t : Int)) = ex + (t : Int) := by rw [IntKind.wrap_i64]; omega
  have hr2 : NS (w.alloc (.cells #[.bool neg, .slice ao xs.length cap, .int .i64 ex] 49)).drew ao cap xs := hr.below ((Below.refl _ _).alloc (Nat.le_refl _) _).drew
  go_enter Tryz.func85, Tryz.ntmps85
  go_wp2
  go_region_held3 (fun w' => w'.cell? ⟨w.heap.size, 1, none⟩ = some (.slice ao xs.length cap) ∧ w'.cell? ⟨w.heap.size, 2, none⟩ = some (.int .i64 ex)) (go_keep)
    (first | (go_at_call 80; refine (hB _ hr2).mono ?_; rintro e w1 ⟨rfl, b1⟩; replace b1 := undrew b1; obtain ⟨⟨c0, c1, c2⟩, ho1⟩ := one_box b1))
  go_wp2
  go_ret
  exact ⟨rfl, ho1⟩
end Go.Proofs.YtggdjbdamaeikaaGreatDoor
