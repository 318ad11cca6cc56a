/- What Round answers. -/
import Derived.Test.YtfipmopmpacdaaaGreatDoorV3
import Derived.Test.YtfipmopmpacdaaaGreatDoorZg
import Derived.Test.YtfipmopmpacdaaaGreatDoorZp
namespace Go.Proofs.YtfipmopmpacdaaaGreatDoor
open Go.RowKit
theorem one_box {w w1 : World} {x0 x1 x2 : Value} {s : TypeId} (hb : Below (w.alloc (.cells #[x0, x1, x2] s)).heap.size (w.alloc (.cells #[x0, x1, x2] s)) w1) :
  (w1.cell? ⟨w.heap.size, 0, none⟩ = some x0 ∧ w1.cell? ⟨w.heap.size, 1, none⟩ = some x1 ∧ w1.cell? ⟨w.heap.size, 2, none⟩ = some x2) ∧ Below w.heap.size w w1 := by
 obtain ⟨hc, hf⟩ := oldc hb
 have l0 : w.heap.size < (w.alloc (.cells #[x0, x1, x2] s)).heap.size := by go_simp
 refine ⟨⟨?_, ?_, ?_⟩, ((Below.refl _ _).alloc (Nat.le_refl _) _).trans (hb.mono (by omega))⟩
 ·rw [hc _ _ l0]; go_simp
 ·rw [hc _ _ l0]; go_simp
 ·rw [hc _ _ l0]; go_simp
def ofD (a : Nat) : Dy × Int := if finB a = false then (dy0, 5) else if spF a = 0 then (dy0, 0) else (⟨sgn a, [spF a], spE a⟩, 0)
theorem one_mark {w w1 : World} {x0 x1 x2 : Value} {s : TypeId} (hb : Below (w.alloc (.cells #[x0, x1, x2] s)).heap.size (w.alloc (.cells #[x0, x1, x2] s)) w1) :
  w1.frozen? ⟨w.heap.size, 0, none⟩ = false ∧ w1.frozen? ⟨w.heap.size, 1, none⟩ = false ∧ w1.frozen? ⟨w.heap.size, 2, none⟩ = false := by
 obtain ⟨hc, hf⟩ := oldc hb
 have l0 : w.heap.size < (w.alloc (.cells #[x0, x1, x2] s)).heap.size := by go_simp
 refine ⟨?_, ?_, ?_⟩
 ·rw [hf _ _ l0]; go_simp
 ·rw [hf _ _ l0]; go_simp
 ·rw [hf _ _ l0]; go_simp
theorem mark_alloc {w : World} {a : Addr} {v : Value} (h : w.cell? a = some v) (hf : w.frozen? a = false) (o : Obj) : (w.alloc o).frozen? a = false := by
 rw [((Below.refl _ _).alloc (Nat.le_refl _) o).frozen (World.block_lt_of_cell? w _ h)]; exact hf
theorem one_lrow (w : World) (x : Nat) (o : Obj) (ho : o = .cells #[.int .u64 (x : Nat)] 92) : LRow (w.alloc o) (some ⟨w.heap.size, 0, none⟩) [x] := by
 right
 refine ⟨w.heap.size, 0, rfl, fun j hj => ?_⟩
 have : j = 0 := by simp at hj; omega
 subst this
 subst ho
 go_simp
set_option maxHeartbeats 1000000 in
theorem Of_any (a : Nat) (ha : a < 18446744073709551616) (w : World) (hT : TabW w) :
  Calls Tryz.prog 107 #[.float .f64 a] w (Gave w (ofD a)) := by
 cases hf : finB a
 ·have e : ofD a = (dy0, 5) := by unfold ofD; rw [if_pos hf]
  rw [e]
  have hsp := fun o => split_inf a ha hf (w.alloc o)
  go_enter Tryz.func107, Tryz.ntmps107
  clear e
  go_wp2_with (go_at_call 111; refine (hsp _).mono ?_; rintro e w1 ⟨rfl, hb1⟩; obtain ⟨⟨c0, c1, c2⟩, ho1⟩ := one_box hb1; obtain ⟨f0, f1, f2⟩ := one_mark hb1; have g0 := mark_alloc c0 f0; have g1 := mark_alloc c1 f1; have g2 := mark_alloc c2 f2; have i0 := fun o => mark_alloc (cell_alloc c0 o) (g0 o); have i1 := fun o => mark_alloc (cell_alloc c1 o) (g1 o); have i2 := fun o => mark_alloc (cell_alloc c2 o) (g2 o); have d0 := cell_alloc c0; have d1 := cell_alloc c1; have d2 := cell_alloc c2; have h0 := fun o => cell_alloc (d0 o); have h1 := fun o => cell_alloc (d1 o); have h2 := fun o => cell_alloc (d2 o))
  exact bodyPost_ret (v := .tuple #[.agg #[.bool false, .slice none 0 0, .int .i64 0], .int .i64 5]) (by simp [results, Tryz.results107, go_sem, d0, d1, d2]) rfl ⟨none, 0, rfl, LRow.nil _ _, Frs.none _, (((ho1.alloc ho1.size _).setCell (by simp) _).setCell (by simp) _).setCell (by simp) _⟩
 ·have hsp := fun o => split_fin a ha hf (w.alloc o) (tabW_alloc hT o)
  by_cases h0 : spF a = 0
  ·have e : ofD a = (dy0, 0) := by unfold ofD; rw [if_neg (by rw [hf]; simp), if_pos h0]
   rw [e]
   rw [h0] at hsp
   clear e h0
   generalize sgn a = sg at *
   generalize spE a = se at *
   go_enter Tryz.func107, Tryz.ntmps107
   go_wp2_with (go_at_call 111; refine (hsp _).mono ?_; rintro e w1 ⟨rfl, hb1⟩; obtain ⟨⟨c0, c1, c2⟩, ho1⟩ := one_box hb1; obtain ⟨f0, f1, f2⟩ := one_mark hb1; have g0 := mark_alloc c0 f0; have g1 := mark_alloc c1 f1; have g2 := mark_alloc c2 f2; have i0 := fun o => mark_alloc (cell_alloc c0 o) (g0 o); have i1 := fun o => mark_alloc (cell_alloc c1 o) (g1 o); have i2 := fun o => mark_alloc (cell_alloc c2 o) (g2 o); have d0 := cell_alloc c0; have d1 := cell_alloc c1; have d2 := cell_alloc c2; have h0 := fun o => cell_alloc (d0 o); have h1 := fun o => cell_alloc (d1 o); have h2 := fun o => cell_alloc (d2 o))
   exact bodyPost_ret (v := .tuple #[.agg #[.bool false, .slice none 0 0, .int .i64 0], .int .i64 0]) (by simp [results, Tryz.results107, go_sem, d0, d1, d2]) rfl ⟨none, 0, rfl, LRow.nil _ _, Frs.none _, (((ho1.alloc ho1.size _).setCell (by simp) _).setCell (by simp) _).setCell (by simp) _⟩
  ·have e : ofD a = (⟨sgn a, [spF a], spE a⟩, 0) := by unfold ofD; rw [if_neg (by rw [hf]; simp), if_neg h0]
   rw [e]
   have hb0 : ((spF a : Int) == 0) = false := by simp; omega
   clear e h0
   generalize sgn a = sg at *
   generalize spF a = sf at *
   generalize spE a = se at *
   go_enter Tryz.func107, Tryz.ntmps107
   go_wp2_with (go_at_call 111; refine (hsp _).mono ?_; rintro e w1 ⟨rfl, hb1⟩; obtain ⟨⟨c0, c1, c2⟩, ho1⟩ := one_box hb1; obtain ⟨f0, f1, f2⟩ := one_mark hb1; have g0 := mark_alloc c0 f0; have g1 := mark_alloc c1 f1; have g2 := mark_alloc c2 f2; have i0 := fun o => mark_alloc (cell_alloc c0 o) (g0 o); have i1 := fun o => mark_alloc (cell_alloc c1 o) (g1 o); have i2 := fun o => mark_alloc (cell_alloc c2 o) (g2 o); have d0 := cell_alloc c0; have d1 := cell_alloc c1; have d2 := cell_alloc c2; have h0 := fun o => cell_alloc (d0 o); have h1 := fun o => cell_alloc (d1 o); have h2 := fun o => cell_alloc (d2 o))
   have hsz : (w1.alloc (.cells #[.bool sg, .int .u64 (sf : Nat), .int .i64 se] 96)).heap.size = w1.heap.size + 1 := by go_simp
   have hl := one_lrow (w1.alloc (.cells #[.bool sg, .int .u64 (sf : Nat), .int .i64 se] 96)) sf _ rfl
   rw [hsz] at hl
   have hge := ho1.size
   have hfr : Frs (w1.heap.size + 1) (some ⟨w1.heap.size + 1, 0, none⟩) := fun a e => by cases e; exact Nat.le_refl _
   exact bodyPost_ret (v := .tuple #[.agg #[.bool sg, .slice (some ⟨w1.heap.size + 1, 0, none⟩) 1 1, .int .i64 se], .int .i64 0]) (by simp [results, Tryz.results107, go_sem, h0, h1, h2]) rfl ⟨some ⟨w1.heap.size + 1, 0, none⟩, 1, rfl, ((hl.box hfr (by omega) _ _).box hfr (by omega) _ _).box hfr (by omega) _ _, hfr.mono (by omega), (((((ho1.alloc ho1.size _).alloc (by simp; omega) _).setCell (by simp) _).setCell (by simp) _).setCell (by simp) _)⟩
end Go.Proofs.YtfipmopmpacdaaaGreatDoor
