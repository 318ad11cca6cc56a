/- What cut and Norm answer. -/
import Derived.Test.YtokfkooffbihcaaDoorDf
namespace Go.Proofs.YtokfkooffbihcaaDoor
open Go.RowKit

theorem Tryd.infoU : (Tryd.prog.info? 46).map (fun i => (i.zero, i.size, i.bytes)) = some (some (.int .u64 0), 1, 8) := by kernel_rfl

/-- A new row of limbs, filled as far as k. -/
def FRow (w : World) (b n : Nat) (f : Nat → Nat) : Prop := w.rowIs b 46 n (fun j => .int .u64 (f j : Nat))
theorem FRow.lrow {w : World} {b n : Nat} {f : Nat → Nat} {xs : List Nat} (h : FRow w b n f) (hn : xs.length = n) (hx : ∀ j, j < n → xs.getD j 0 = f j) : LRow w (some ⟨b, 0, none⟩) xs := by
  right
  refine ⟨b, 0, rfl, fun j hj => ?_⟩
  have := h.cell (i := j) (by omega)
  rw [Nat.zero_add, this, hx j (by omega)]
theorem FRow.set {w : World} {b n : Nat} {f : Nat → Nat} (h : FRow w b n f) (i v : Nat) : FRow (w.setCell ⟨b, i, none⟩ (.int .u64 (v : Nat))) b n (fun j => if j = i then v else f j) := by
  have := World.rowIs.set h i (.int .u64 (v : Nat))
  refine World.rowIs.congr this fun j _ => ?_
  by_cases hj : j = i <;> simp [hj]
theorem FRow.congr {w : World} {b n : Nat} {f g : Nat → Nat} (h : FRow w b n f) (e : ∀ j, j < n → f j = g j) : FRow w b n g := World.rowIs.congr h fun j hj => by rw [e j hj]
theorem FRow.made (w : World) (n : Nat) : FRow (w.alloc (.cells (madeCells #[.int .u64 0] n) 46)) w.heap.size n (fun _ => 0) := World.rowIs_made w (.int .u64 0) n 46
theorem FRow.below {w w' : World} {b n B : Nat} {f : Nat → Nat} (h : FRow w b n f) (hb : Below B w w') (hB : b < B) : FRow w' b n f := World.rowIs.of_block h (hb.block b hB)

set_option maxHeartbeats 1000000 in
theorem cut_any (xs : List Nat) (ao : Option Addr) (cap : Nat) (low wd : Nat) (n : Nat) (hn : n = (wd + 63) / 64) (w : World) (hr : LRow w ao xs) (hL : Lm xs) (h1 : low ≤ 144115188075855872) (h2 : wd ≤ 16384) :
    Calls Tryd.prog 32 #[.slice ao xs.length cap, .int .i64 low, .int .i64 wd] w fun e w' => e = .returned (.slice (some ⟨w.heap.size, 0, none⟩) n n) ∧ FRow w' w.heap.size n (fun j => vl xs / 2 ^ low / 2 ^ (64 * j) % 18446744073709551616) ∧ Below w.heap.size w w' := by
  have hmk := run_make_row' (P := Tryd.prog) 22 46 (.int .u64 0) 8 Tryd.underlying22 Tryd.infoU rfl .i64 .i64 n (by omega) (by omega)
  have hi : (n : Int) = ((wd : Int) + 64 - 1) / 64 := by omega
  rw [hi] at hmk
  have hn2 : n ≤ 257 := by omega
  clear hi hn
  have hmade := FRow.made w n
  have hbm : Below w.heap.size w (w.alloc (.cells (madeCells #[.int .u64 0] n) 46)) := (Below.refl _ _).alloc (Nat.le_refl _) _
  go_enter Tryd.func32, Tryd.ntmps32
  go_wp2
  clear hmk
  go_loopg [16] n (fun g i wr => ∃ k : Nat, k ≤ n ∧ g = n - k ∧ i = .int .i64 k ∧ FRow wr w.heap.size n (fun j => if j < k then vl xs / 2 ^ low / 2 ^ (64 * j) % 18446744073709551616 else 0) ∧ Below w.heap.size w wr)
  case atStart => exact ⟨0, Nat.zero_le _, rfl, rfl, hmade.congr (fun j _ => by simp), hbm⟩
  case round =>
    obtain ⟨k, hk, hg, rfl, hrow, hb⟩ := hrel
    clear hmade hbm
    by_cases hlt : k < n
    · have hrr := hr.below hb
      have hcell : wr.cell? ⟨w.heap.size, k, none⟩ = some (.int .u64 ((if k < k then vl xs / 2 ^ low / 2 ^ (64 * k) % 18446744073709551616 else 0 : Nat) : Int)) := World.rowIs.cell hrow hlt
      have hfro := World.rowIs.frozen hrow k
      rw [if_neg (by omega)] at hcell
      have hset := hrow.set k (win (vl xs) ((low : Int) + k * 64))
      have hbs := hb.setCell (p := ⟨w.heap.size, k, none⟩) (Nat.le_refl _) (.int .u64 ((win (vl xs) ((low : Int) + k * 64) : Nat) : Int))
      have HW : Hid (win (vl xs) ((low : Int) + k * 64) = vl xs / 2 ^ low / 2 ^ (64 * k) % 18446744073709551616) := win_down _ _ _
      clear hrow hr hb
      go_wp2_with (go_at_call 44; refine (window_any _ _ _ _ _ (by assumption) (by assumption) (by omega) (by omega)).mono ?_; rintro e w' ⟨rfl, rfl⟩)
      go_roundg (n - (k + 1))
      case measure => omega
      case rel =>
        refine ⟨k + 1, by omega, rfl, by go_num, hset.congr (fun j hj => ?_), hbs⟩
        by_cases hjk : j = k
        · subst hjk; rw [if_pos rfl, if_pos (by omega), HW.out]
        · rw [if_neg hjk]
          by_cases h : j < k
          · rw [if_pos h, if_pos (by omega)]
          · rw [if_neg h, if_neg (by omega)]
    · go_wp2
      go_ret
      exact ⟨rfl, hrow.congr (fun j hj => by rw [if_pos (by omega)]), hb⟩
end Go.Proofs.YtokfkooffbihcaaDoor
