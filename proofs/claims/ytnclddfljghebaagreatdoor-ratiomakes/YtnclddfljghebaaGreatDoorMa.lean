/- What the kit's mark, LentLimbs, LentDyad answer: limbs lent, with room behind them that is marked. -/
import Derived.Test.YtnclddfljghebaaGreatDoorZl
import Derived.Laws.OwnMore
import Derived.Deep.AppendLies
namespace Go.Proofs.YtnclddfljghebaaGreatDoor
open Go.RowKit

theorem uv_app (xs ys : List Nat) : uv (xs ++ ys) = uv xs ++ uv ys := by unfold uv; rw [List.map_append]
/-- The first n marks of kind k. -/
def mks (k n : Nat) : List Nat := (List.range n).map fun i => 1000003 * (k + 7) + i
theorem mks_length (k n : Nat) : (mks k n).length = n := by simp [mks]
theorem mks_succ (k n : Nat) : mks k (n + 1) = mks k n ++ [1000003 * (k + 7) + n] := by simp [mks, List.range_succ]
theorem mks_getD {k n i : Nat} (h : i < n) : (mks k n).getD i 0 = 1000003 * (k + 7) + i := by simp [mks, List.getD_eq_getElem?_getD, h]
theorem own_base_le {w : World} {b c : Nat} {e : TypeId} {v : Value} {n : Nat} {xs : List Value} (h : w.ownsRow b e 1 v n xs) (hc : c ≤ b) : w.ownsRow c e 1 v n xs := by
  refine ⟨h.1, ?_⟩
  rcases h.2 with hn | ⟨g, cap, cur, h1, h2, h3⟩
  · exact Or.inl hn
  · exact Or.inr ⟨g, cap, cur, h1, Nat.le_trans hc h2, h3⟩
/-- Limbs that were lent. -/
def Lent (w : World) (g : Nat) (xs : List Nat) : Prop := w.ownsRow 0 46 1 (.slice (some ⟨g, 0, none⟩) (xs.length + 12) (xs.length + 12)) (xs.length + 12) (uv (xs ++ mks 1 12))
theorem Lent.cell {w : World} {g : Nat} {xs : List Nat} (h : Lent w g xs) {j : Nat} (hj : j < xs.length + 12) : w.cell? ⟨g, j, none⟩ = some (.int .u64 ((xs ++ mks 1 12).getD j 0 : Nat)) := by
  have e := World.ownsRow.cellAt h j (by omega)
  rw [e, uv_at (by rw [List.length_append, mks_length]; exact hj)]
theorem Lent.lrow {w : World} {g : Nat} {xs : List Nat} (h : Lent w g xs) : LRow w (some ⟨g, 0, none⟩) xs := by
  refine Or.inr ⟨g, 0, rfl, fun j hj => ?_⟩
  rw [Nat.zero_add, h.cell (by omega), List.getD_eq_getElem?_getD, List.getD_eq_getElem?_getD, List.getElem?_append_left hj]
theorem Lent.lt {w : World} {g : Nat} {xs : List Nat} (h : Lent w g xs) : g < w.heap.size := World.block_lt_of_cell? w _ (h.cell (j := 0) (by omega))
theorem Lent.below {w w' : World} {g : Nat} {xs : List Nat} (h : Lent w g xs) (hb : Below w.heap.size w w') : Lent w' g xs := by
  have hl := h.lt
  refine ⟨h.1, ?_⟩
  rcases h.2 with ⟨e, _⟩ | ⟨g', cap, cur, e, h1, h2, h3⟩
  · cases e
  · cases e
    exact Or.inr ⟨g, xs.length + 12, cur, rfl, h1, by rw [hb.block g hl]; exact h2, h3⟩
set_option maxHeartbeats 400000 in
theorem mark_any (k i m : Nat) (hk : k ≤ 2) (hi : i ≤ 18000000000000) (hm : 1000003 * (k + 7) + i = m) (w : World) :
    Calls Tryz.prog 74 #[.int .i64 k, .int .i64 i] w fun e w' => e = .returned (.int .i64 (m : Int)) ∧ w' = w := by
  have HM : Hid (1000003 * (k + 7) + i = m) := hm
  clear hm
  go_enter Tryz.func74, Tryz.ntmps74
  go_wp2
  go_ret
  exact ⟨retI (by have := HM.out; omega), rfl⟩
set_option maxHeartbeats 2000000 in
theorem lentLimbs_any (xs : List Nat) (ao : Option Addr) (cap : Nat) (w : World) (hr : LRow w ao xs) (hs : ao = none → cap = 0 ∧ xs.length = 0) (hn : xs.length ≤ 17592186044416) :
    Calls Tryz.prog 34 #[.slice ao xs.length cap] w fun e w' => e = .returned (.slice (some ⟨w.heap.size, 0, none⟩) xs.length (xs.length + 12)) ∧ Lent w' w.heap.size xs ∧ Below w.heap.size w w' := by
  obtain ⟨i0, hi, hz0, hz1, hz2⟩ := info_parts Tryz.infoU
  have hnews : ∀ w1, w.grownBy w1 none → ∀ ad, ao = some ad → ∀ j u, (uv xs)[j]? = some u → w1.cell? (ad.add j) = some u := by
    intro w1 hg ad e j u hu
    obtain ⟨hj, rfl⟩ := uv_get hu
    have hb : Below w.heap.size w w1 := (Below.refl _ _).grown hg (Nat.le_refl _) (fun k hk => by cases hk)
    rcases hr.below hb with h | ⟨b, off, e2, hc⟩
    · omega
    · rw [e2] at e
      cases e
      have g := hc j hj
      simp only [Addr.add]
      split
      · rename_i h; subst h; exact g
      · exact g
  go_enter Tryz.func34, Tryz.ntmps34
  go_wp2_with (first
    | (refine wpList_make_own _ rfl _ _ 22 rfl w.heap.size 46 i0 (.int .u64 0) 1 Tryz.underlying22 hi hz0 hz1 .i64 .i64 _ (xs.length + 12) rfl rfl (by omega) (by rw [hz2]; omega) (by unfold maxLen; omega) (Nat.le_refl _) ?_; intro w1 hown1 hg1)
    | (at_builtin; refine wpList_append_fits_any _ rfl _ _ 22 rfl w.heap.size 46 i0 1 Tryz.underlying22 hi hz1 w.heap.size 0 (xs.length + 12) [] rfl hown1 ao xs.length cap (uv xs) rfl (by rw [uv_length, Nat.mul_one]) (fun h => ⟨(hs h).2, (hs h).1⟩) (hnews _ hg1) uv_one (by omega) ?_; intro w2 hown2 hg2))
  have hb2 : Below w.heap.size w w2 := ((Below.refl _ _).grown hg1 (Nat.le_refl _) (fun k hk => by cases hk)).grown hg2 (by have := hg1.size; omega) (fun k hk => by cases hk; exact Nat.le_refl _)
  rw [List.nil_append, Nat.zero_add] at hown2
  clear hown1 hg1 hg2 hnews
  go_loopg [4, 3] 12 (fun g i v wr => ∃ k : Nat, k ≤ 12 ∧ g = 12 - k ∧ i = .int .i64 k ∧ v = .slice (some ⟨w.heap.size, 0, none⟩) (xs.length + k) (xs.length + 12) ∧ wr.ownsRow w.heap.size 46 1 (.slice (some ⟨w.heap.size, 0, none⟩) (xs.length + k) (xs.length + 12)) (xs.length + k) (uv (xs ++ mks 1 k)) ∧ Below w.heap.size w wr)
  case atStart => exact ⟨0, by omega, rfl, rfl, rfl, by simpa [mks] using hown2, hb2⟩
  case round =>
    obtain ⟨k, hk, hg, rfl, rfl, hown, hb⟩ := hrel
    clear hown2 hb2
    have hbs := hb.size
    by_cases hlt : k < 12
    · have j1 : (k : Int) < 12 := by omega
      obtain ⟨m, hm⟩ : ∃ m, 1000003 * (1 + 7) + k = m := ⟨_, rfl⟩
      have hmk := fun w => mark_any 1 k m (by omega) (by omega) hm w
      have HT : Hid (uv (xs ++ mks 1 (k + 1)) = uv (xs ++ mks 1 k) ++ [.int .u64 (m : Int)]) := (show _ = _ by rw [mks_succ, ← List.append_assoc, uv_app, hm]; rfl)
      have hml : m ≤ 9000000 := by omega
      clear hm
      go_wp2_with (first
        | (go_at_call 74; refine (hmk _).mono ?_; rintro e w' ⟨rfl, rfl⟩)
        | (at_builtin; refine wpList_append_fits _ rfl _ _ 22 rfl w.heap.size 46 i0 1 Tryz.underlying22 hi hz1 w.heap.size (xs.length + k) (xs.length + 12) (uv (xs ++ mks 1 k)) rfl (hown.alloc _) ⟨_, 0, none⟩ 1 1 [.int .u64 (m : Int)] rfl rfl (World.news_of_block (cs := #[.int .u64 (m : Int)]) (t := 46) (fr := (0, 0)) (heap_alloc_new _ _)) (by simp [Value.oneCell']) (by omega) ?_; intro w3 hown3 hg3))
      have hown4 : w3.ownsRow w.heap.size 46 1 (.slice (some ⟨w.heap.size, 0, none⟩) (xs.length + (k + 1)) (xs.length + 12)) (xs.length + (k + 1)) (uv (xs ++ mks 1 (k + 1))) := by rw [HT.out]; exact hown3
      have hb3 : Below w.heap.size w w3 := (hb.alloc hb.size _).grown hg3 (by simp; omega) (fun k hk => by cases hk; exact Nat.le_refl _)
      clear hown3 hg3 hown hb HT
      go_wp2
      go_roundg (12 - (k + 1))
      case measure => omega
      case rel => exact ⟨k + 1, by omega, rfl, by go_num, by go_num, hown4, hb3⟩
    · obtain rfl : k = 12 := by omega
      have hL : Lent wr w.heap.size xs := own_base_le hown (Nat.zero_le _)
      have j1 : ((xs.length : Int)) ≤ ((xs.length + 12 : Nat) : Int) := by omega
      go_wp2
      go_ret
      exact ⟨rfl, hL, hb⟩
end Go.Proofs.YtnclddfljghebaaGreatDoor
