/- What product answers. -/
import Derived.Test.YtokfkooffbihcaaDoorDq
namespace Go.Proofs.YtokfkooffbihcaaDoor
open Go.RowKit

/-- The number of the first n limbs that a function tells. -/
def vF : Nat → (Nat → Nat) → Nat
  | 0, _ => 0
  | n + 1, f => vF n f + 2 ^ (64 * n) * f n
theorem vF_congr {n : Nat} {f g : Nat → Nat} (h : ∀ j, j < n → f j = g j) : vF n f = vF n g := by
  induction n with
  | zero => rfl
  | succ n ih => rw [vF, vF, ih (fun j hj => h j (by omega)), h n (by omega)]
theorem vF_zero {n : Nat} {f : Nat → Nat} (h : ∀ j, j < n → f j = 0) : vF n f = 0 := by
  induction n with
  | zero => rfl
  | succ n ih => rw [vF, ih (fun j hj => h j (by omega)), h n (by omega), Nat.mul_zero]
theorem vF_split (a b : Nat) (f : Nat → Nat) : vF (a + b) f = vF a f + 2 ^ (64 * a) * vF b (fun j => f (a + j)) := by
  induction b with
  | zero => simp [vF]
  | succ b ih =>
    rw [← Nat.add_assoc, vF, vF, ih, show 64 * (a + b) = 64 * a + 64 * b by omega, Nat.pow_add, Nat.mul_add, Nat.mul_assoc, Nat.add_assoc]
theorem vF_list (xs : List Nat) : ∀ k, k ≤ xs.length → vF k (fun j => xs.getD j 0) = vl (xs.take k)
  | 0, _ => by simp [vF, vl]
  | k + 1, h => by rw [vF, vF_list xs k (by omega), vl_take_succ (by omega)]
/-- Limbs as a list out of a function. -/
def toL (n : Nat) (f : Nat → Nat) : List Nat := (List.range n).map f
theorem toL_length (n : Nat) (f : Nat → Nat) : (toL n f).length = n := by simp [toL]
theorem toL_getD {n : Nat} {f : Nat → Nat} {j : Nat} (h : j < n) : (toL n f).getD j 0 = f j := by simp [toL, List.getD_eq_getElem?_getD, h]
theorem toL_vl (n : Nat) (f : Nat → Nat) : vl (toL n f) = vF n f := by
  have := vF_list (toL n f) n (by rw [toL_length]; omega)
  rw [List.take_of_length_le (by rw [toL_length]; omega)] at this
  rw [← this]
  exact vF_congr fun j hj => toL_getD hj
theorem toL_lm {n : Nat} {f : Nat → Nat} (h : ∀ j, j < n → f j < 18446744073709551616) : Lm (toL n f) := by
  intro x hx
  simp only [toL, List.mem_map, List.mem_range] at hx
  obtain ⟨j, hj, rfl⟩ := hx
  exact h j hj
/-- The product so far. -/
def Prod' (xs ys : List Nat) (n k : Nat) (f : Nat → Nat) : Prop := (∀ j, j < n → f j < 18446744073709551616) ∧ vF n f = vl (xs.take k) * vl ys ∧ ∀ j, k + ys.length ≤ j → f j = 0
theorem prod_nil (xs ys : List Nat) (n : Nat) : Prod' xs ys n 0 (fun _ => 0) := ⟨fun _ _ => (show 0 < 18446744073709551616 by omega), by rw [vF_zero (fun _ _ => rfl)]; simp [vl], fun _ _ => rfl⟩
theorem prod_step {xs ys : List Nat} {n k : Nat} {f : Nat → Nat} {out : List Nat} {c : Nat} (h : Prod' xs ys n k f) (hn : n = xs.length + ys.length) (hk : k < xs.length)
    (hR : Rowed (toL ys.length fun j => f (k + j)) ys (xs.getD k 0) ys.length out c) :
    Prod' xs ys n (k + 1) (fun j => if j = k + ys.length then c else laidF f k ys.length out j) := by
  obtain ⟨h1, h2, h3⟩ := h
  obtain ⟨r1, r2, r3, r4⟩ := hR
  have ht : (toL ys.length fun j => f (k + j)).take ys.length = toL ys.length fun j => f (k + j) := List.take_of_length_le (by rw [toL_length]; omega)
  rw [ht, toL_vl, List.take_length] at r4
  refine ⟨fun j hj => ?_, ?_, fun j hj => ?_⟩
  · by_cases e : j = k + ys.length
    · simp only [e, if_true]; exact r3
    · simp only [e, if_false]
      unfold laidF
      split
      · exact r1.getD _
      · exact h1 j hj
  · obtain ⟨r, hr⟩ : ∃ r, n = k + (ys.length + (1 + r)) := ⟨n - k - ys.length - 1, by omega⟩
    rw [hr, vF_split, vF_split, vF_split] at h2 ⊢
    have e1 : vF k (fun j => if j = k + ys.length then c else laidF f k ys.length out j) = vF k f := vF_congr fun j hj => by
      simp only [show j ≠ k + ys.length by omega, if_false]; unfold laidF; rw [if_neg (by omega)]
    have e2 : vF ys.length (fun j => if k + j = k + ys.length then c else laidF f k ys.length out (k + j)) = vl out := by
      have := vF_list out ys.length (by omega)
      rw [List.take_of_length_le (by omega)] at this
      rw [← this]
      exact vF_congr fun j hj => by
        simp only [show ¬ k + j = k + ys.length by omega, if_false]; unfold laidF; rw [if_pos (by omega), show k + j - k = j by omega]
    have e3 : vF 1 (fun j => if k + (ys.length + j) = k + ys.length then c else laidF f k ys.length out (k + (ys.length + j))) = c := by
      simp [vF]
    have e4 : vF r (fun j => if k + (ys.length + (1 + j)) = k + ys.length then c else laidF f k ys.length out (k + (ys.length + (1 + j)))) = 0 := vF_zero fun j hj => by
      simp only [show ¬ k + (ys.length + (1 + j)) = k + ys.length by omega, if_false]; unfold laidF; rw [if_neg (by omega)]; exact h3 _ (by omega)
    have e5 : vF 1 (fun j => f (k + (ys.length + j))) = 0 := vF_zero fun j _ => h3 _ (by omega)
    have e6 : vF r (fun j => f (k + (ys.length + (1 + j)))) = 0 := vF_zero fun j _ => h3 _ (by omega)
    rw [e1, e2, e3, e4, Nat.mul_zero, Nat.add_zero, r4]
    rw [e5, e6, Nat.mul_zero, Nat.add_zero] at h2
    rw [vl_take_succ hk, Nat.add_mul, ← h2, Nat.mul_add, ← Nat.add_assoc, Nat.mul_assoc, Nat.mul_comm (xs.getD k 0)]
  · have hj' : (k + 1) + ys.length ≤ j := hj
    simp only [show j ≠ k + ys.length by omega, if_false]
    unfold laidF; rw [if_neg (by omega)]; exact h3 j (by omega)

def GaveP (w : World) (xs ys : List Nat) (e : Ending) (w' : World) : Prop :=
  ∃ f : Nat → Nat, e = .returned (.slice (some ⟨w.heap.size, 0, none⟩) (xs.length + ys.length) (xs.length + ys.length)) ∧ Prod' xs ys (xs.length + ys.length) xs.length f ∧ FRow w' w.heap.size (xs.length + ys.length) f ∧ Below w.heap.size w w'

set_option maxHeartbeats 1000000 in
theorem product_any (xs ys : List Nat) (ao bo : Option Addr) (cap bcap : Nat) (w : World) (hr : LRow w ao xs) (hs : LRow w bo ys) (hL : Lm xs) (hM : Lm ys) (n1 : xs.length ≤ 1000) (n2 : ys.length ≤ 1000) :
    Calls Tryd.prog 29 #[.slice ao xs.length cap, .slice bo ys.length bcap] w (GaveP w xs ys) := by
  have hmk := run_make_row' (P := Tryd.prog) 22 46 (.int .u64 0) 8 Tryd.underlying22 Tryd.infoU rfl .i64 .i64 (xs.length + ys.length) (by omega) (by omega)
  rw [Int.natCast_add] at hmk
  have hmade := FRow.made w (xs.length + ys.length)
  have hbm : Below w.heap.size w (w.alloc (.cells (madeCells #[.int .u64 0] (xs.length + ys.length)) 46)) := (Below.refl _ _).alloc (Nat.le_refl _) _
  go_enter Tryd.func29, Tryd.ntmps29
  go_wp2
  clear hmk
  go_loopg [15] xs.length (fun g i wr => ∃ (k : Nat) (f : Nat → Nat), k ≤ xs.length ∧ g = xs.length - k ∧ i = .int .i64 k ∧ Hid (Prod' xs ys (xs.length + ys.length) k f) ∧ FRow wr w.heap.size (xs.length + ys.length) f ∧ Below w.heap.size w wr)
  case atStart => exact ⟨0, _, Nat.zero_le _, rfl, rfl, prod_nil _ _ _, hmade, hbm⟩
  case round =>
    obtain ⟨k, f, hk, hg, rfl, hP, hrw, hbw⟩ := hrel
    clear hmade hbm
    by_cases hlt : k < xs.length
    · rcases hr with h | ⟨bx, ox, rfl, hc⟩
      · omega
      · have g0 := hc k hlt
        have hblk := World.block_lt_of_cell? w _ g0
        have g1 : wr.cell? ⟨bx, ox + k, none⟩ = some (.int .u64 (xs.getD k 0 : Nat)) := by rw [hbw.cell hblk]; exact g0
        obtain ⟨x, hx⟩ : ∃ x, xs.getD k 0 = x := ⟨_, rfl⟩
        have kx := hL.getD k
        rw [hx] at g0 g1 kx
        have HX : Hid (xs.getD k 0 = x) := hx
        have htl : (toL ys.length fun j => f (k + j)).length = ys.length := toL_length _ _
        have htm : Lm (toL ys.length fun j => f (k + j)) := toL_lm fun j hj => hP.out.1 _ (by omega)
        have hct := fun w' (hb' : Below w.heap.size w w') (hf' : FRow w' w.heap.size (xs.length + ys.length) f) => addTimes_any w w' ys (toL ys.length fun j => f (k + j)) bo bcap (xs.length + ys.length - k) (xs.length + ys.length) k x f hs hb' hf' hM htm htl (fun j hj => (toL_getD (f := fun j => f (k + j)) hj).symm) (by omega) (by omega) kx
        have i1 : (k : Int) < (xs.length : Int) := by omega
        have i2 : (k : Int) + (ys.length : Int) < (xs.length : Int) + (ys.length : Int) := by omega
        have i0 : (0 : Int) ≤ (k : Int) := by omega
        have hwr : IntKind.i64.wrap ((k : Int) + (ys.length : Int)) = (k : Int) + (ys.length : Int) := by rw [IntKind.wrap_i64]; omega
        have i3 : (k : Int) ≤ (k : Int) + (ys.length : Int) := by omega
        have i4 : (k : Int) + (ys.length : Int) ≤ (xs.length : Int) + (ys.length : Int) := by omega
        have i5 : ¬ xs.length + ys.length = k := by omega
        have i6 : ((k : Int) + (ys.length : Int) - (k : Int)).toNat = ys.length := by omega
        have i7 : (0 : Int) ≤ (k : Int) + (ys.length : Int) := by omega
        have i8 : ((k : Int) + (ys.length : Int)).toNat = k + ys.length := by omega
        clear hc hx
        go_wp2
        go_region_held3 (fun w' => w'.cell? ⟨bx, ox + k, none⟩ = some (.int .u64 x)) (go_keep)
          (first | (go_at_call 48; refine (hct wr.drew hbw.drew hrw).mono ?_; rintro e w1 ⟨out, c, rfl, hR, hrow1, hb1⟩; have g3 := World.rowIs.cell hrow1 (i := k + ys.length) (by omega); have g4 := World.rowIs.frozen hrow1 (k + ys.length); have g2 : w1.cell? ⟨bx, ox + k, none⟩ = some (.int .u64 x) := (by rw [hb1.cell hblk]; exact g0); have g5 : ∀ v, (w1.setCell ⟨w.heap.size, k + ys.length, none⟩ v).cell? ⟨bx, ox + k, none⟩ = some (.int .u64 x) := (fun v => (by rw [World.cell?_of_block (w := w1) (Below.heap_setCell w1 _ v bx (by have := hblk; simp only at this ⊢; omega))]; exact g2))))
        have HR : Hid _ := hR
        have hset := hrow1.set (k + ys.length) c
        have hbs := hb1.setCell (p := ⟨w.heap.size, k + ys.length, none⟩) (Nat.le_refl _) (.int .u64 (c : Int))
        clear hR hct hrow1 hb1 g3 g4 g2 g5 hwr
        go_wp2
        go_roundg (xs.length - (k + 1))
        case measure => omega
        case rel =>
          refine ⟨k + 1, _, by omega, rfl, by go_num, prod_step hP.out rfl hlt ?_, hset, hbs⟩
          have := HR.out
          rw [HX.out]
          exact this
    · have hkk : k = xs.length := by omega
      subst hkk
      go_wp2
      go_ret
      exact ⟨f, rfl, hP.out, hrw, hbw⟩
end Go.Proofs.YtokfkooffbihcaaDoor
