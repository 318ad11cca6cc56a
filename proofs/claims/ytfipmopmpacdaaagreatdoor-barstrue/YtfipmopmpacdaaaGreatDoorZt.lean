/- What girderref00's Float answers of a finite float. -/
import Derived.Test.YtfipmopmpacdaaaGreatDoorY6
import Derived.Deep.DeepCutAuto
import Derived.Test.YtfipmopmpacdaaaGreatDoorK1
namespace Go.Proofs.YtfipmopmpacdaaaGreatDoor
open Go.RowKit
theorem row_blk {w : World} {ao : Option Addr} {xs : List Nat} (h : LRow w ao xs) {p : Addr} (e : ao = some p) (h0 : ¬ xs.length = 0) : p.block < w.heap.size := by
 rcases h with h | ⟨b', off', e', hc⟩
 ·exact absurd h h0
 ·rw [e] at e'
  cases e'
  exact World.block_lt_of_cell? w _ (hc 0 (by omega))
theorem sg_of {a b : Int} (h : a < b) : sgI (a - b) = -1 := by unfold sgI; rw [if_pos (by omega)]
theorem sg_of' {a b : Int} (h : b < a) : sgI (a - b) = 1 := by unfold sgI; rw [if_neg (by omega), if_neg (by omega)]
theorem qd_pos {d : Dy} : (0 < sv d → 0 < qd d) ∧ (sv d < 0 → qd d < 0) ∧ (sv d = 0 → qd d = 0) := by
 have hp := pow_pos_int (d.exp + 65536).toNat
 unfold qd
 exact ⟨fun h => Int.mul_pos h hp, fun h => Int.mul_neg_of_neg_of_pos h hp, fun h => by rw [h, Int.zero_mul]⟩
theorem sgI_range (x : Int) : -1 ≤ sgI x ∧ sgI x ≤ 1 := by unfold sgI; split <;> (try split) <;> omega
theorem cmp_signs {x y : Dy} : (sgI (sv x) < sgI (sv y) → sgI (qd x - qd y) = -1) ∧ (sgI (sv y) < sgI (sv x) → sgI (qd x - qd y) = 1) ∧ (sgI (sv x) = 0 → sgI (sv y) = 0 → sgI (qd x - qd y) = 0) := by
 obtain ⟨p1, p2, p3⟩ := qd_pos (d := x)
 obtain ⟨q1, q2, q3⟩ := qd_pos (d := y)
 have hx : (sgI (sv x) = -1 ∧ sv x < 0) ∨ (sgI (sv x) = 0 ∧ sv x = 0) ∨ (sgI (sv x) = 1 ∧ 0 < sv x) := by unfold sgI; split <;> (try split) <;> omega
 have hy : (sgI (sv y) = -1 ∧ sv y < 0) ∨ (sgI (sv y) = 0 ∧ sv y = 0) ∨ (sgI (sv y) = 1 ∧ 0 < sv y) := by unfold sgI; split <;> (try split) <;> omega
 rcases hx with ⟨e1, h1⟩ | ⟨e1, h1⟩ | ⟨e1, h1⟩ <;> rcases hy with ⟨e2, h2⟩ | ⟨e2, h2⟩ | ⟨e2, h2⟩ <;> rw [e1, e2] <;>
  refine ⟨fun h => ?_, fun h => ?_, fun h g => ?_⟩ <;> first
  | omega
  | (apply sg_of; first | (have := p1 h1; have := q1 h2; omega) | (have := p1 h1; have := q2 h2; omega) | (have := p1 h1; have := q3 h2; omega) | (have := p2 h1; have := q1 h2; omega) | (have := p2 h1; have := q3 h2; omega) | (have := p3 h1; have := q1 h2; omega))
  | (apply sg_of'; first | (have := p1 h1; have := q2 h2; omega) | (have := p1 h1; have := q3 h2; omega) | (have := p3 h1; have := q2 h2; omega))
  | (have a := p3 h1; have b := q3 h2; rw [a, b]; rfl)
theorem cmp_tops {x y : Dy} (hx : vl x.mag ≠ 0) (hy : vl y.mag ≠ 0) (h1 : -65536 ≤ x.exp) (h2 : -65536 ≤ y.exp) (hs : sgI (sv x) = sgI (sv y)) (ht : x.exp + (bl (vl x.mag) : Int) < y.exp + (bl (vl y.mag) : Int)) : sgI (qd x - qd y) = -sgI (sv x) ∧ sgI (qd y - qd x) = sgI (sv x) := by
 have bx := (bl_spec hx).2.1
 have by_ := (bl_spec hy).1
 have bp := bl_pos hy
 have key : vl x.mag * 2 ^ (x.exp + 65536).toNat < vl y.mag * 2 ^ (y.exp + 65536).toNat := by
  calc vl x.mag * 2 ^ (x.exp + 65536).toNat < 2 ^ bl (vl x.mag) * 2 ^ (x.exp + 65536).toNat := (Nat.mul_lt_mul_right (Nat.two_pow_pos _)).2 bx
   _ = 2 ^ (bl (vl x.mag) + (x.exp + 65536).toNat) := by rw [← Nat.pow_add]
   _ ≤ 2 ^ (bl (vl y.mag) - 1 + (y.exp + 65536).toNat) := Nat.pow_le_pow_right (by omega) (by omega)
   _ = 2 ^ (bl (vl y.mag) - 1) * 2 ^ (y.exp + 65536).toNat := by rw [Nat.pow_add]
   _ ≤ vl y.mag * 2 ^ (y.exp + 65536).toNat := Nat.mul_le_mul_right _ by_
 have k2 : (vl x.mag : Int) * 2 ^ (x.exp + 65536).toNat < (vl y.mag : Int) * 2 ^ (y.exp + 65536).toNat := by
  rw [← up_cast, ← up_cast]; omega
 have k0 : 0 ≤ (vl x.mag : Int) * 2 ^ (x.exp + 65536).toNat := Int.mul_nonneg (by omega) (Int.le_of_lt (pow_pos_int _))
 have qx : qd x = if x.neg then -((vl x.mag : Int) * 2 ^ (x.exp + 65536).toNat) else (vl x.mag : Int) * 2 ^ (x.exp + 65536).toNat := by
  unfold qd sv; cases x.neg <;> simp [Int.neg_mul]
 have qy : qd y = if y.neg then -((vl y.mag : Int) * 2 ^ (y.exp + 65536).toNat) else (vl y.mag : Int) * 2 ^ (y.exp + 65536).toNat := by
  unfold qd sv; cases y.neg <;> simp [Int.neg_mul]
 have sx : sgI (sv x) = if x.neg then -1 else 1 := by unfold sgI sv; cases x.neg <;> simp <;> omega
 have sy : sgI (sv y) = if y.neg then -1 else 1 := by unfold sgI sv; cases y.neg <;> simp <;> omega
 rw [sx, sy] at hs
 rw [qx, qy, sx]
 generalize (vl x.mag : Int) * 2 ^ (x.exp + 65536).toNat = P at *
 generalize (vl y.mag : Int) * 2 ^ (y.exp + 65536).toNat = Q at *
 cases hnx : x.neg <;> cases hny : y.neg <;> rw [hnx, hny] at hs <;> simp only [Bool.false_eq_true, if_false, if_true] at hs ⊢
 ·exact ⟨sg_of k2, sg_of' k2⟩
 ·omega
 ·omega
 ·exact ⟨sg_of' (by omega), sg_of (by omega)⟩
theorem plus_cmp {x y z : Dy} (h1 : -65536 ≤ x.exp) (h2 : -65536 ≤ y.exp) (h : PlusV x ⟨!y.neg, y.mag, y.exp⟩ z) : sgI (sv z) = sgI (qd x - qd y) := by
 obtain ⟨_, he, hv⟩ := h
 have e := hv (-65536) h1 (by simp only; omega)
 have sy : sv ⟨!y.neg, y.mag, y.exp⟩ = -sv y := by unfold sv; cases y.neg <;> simp
 rw [sy] at e
 simp only at e
 have e2 : sv z * 2 ^ (z.exp - -65536).toNat = qd x - qd y := by
  rw [e, Int.neg_mul]; rfl
 rw [← e2, sg_mul]
end Go.Proofs.YtfipmopmpacdaaaGreatDoor
