/- What the reference's Compare answers. -/
import Derived.Test.YtnclddfljghebaaDoorY6
import Derived.Test.YtnclddfljghebaaDoorZr
import Derived.Test.YtnclddfljghebaaDoorDx
import Derived.Test.YtnclddfljghebaaDoorEl
import Derived.Test.YtnclddfljghebaaDoorZe
import Derived.Test.YtnclddfljghebaaDoorZp
import Derived.Deep.DeepCutAuto
namespace Go.Proofs.YtnclddfljghebaaDoor
open Go.RowKit

end Go.Proofs.YtnclddfljghebaaDoor

namespace Go.Proofs.YtnclddfljghebaaDoor
open Go.RowKit

theorem row_blk {w : World} {ao : Option Addr} {xs : List Nat} (h : LRow w ao xs) {p : Addr} (e : ao = some p) (h0 : ¬ xs.length = 0) : p.block < w.heap.size := by
  rcases h with h | ⟨b', off', e', hc⟩
  · exact absurd h h0
  · rw [e] at e'
    cases e'
    exact World.block_lt_of_cell? w _ (hc 0 (by omega))
end Go.Proofs.YtnclddfljghebaaDoor

namespace Go.Proofs.YtnclddfljghebaaDoor
open Go.RowKit

theorem NS.setBox {w : World} {ao : Option Addr} {cap : Nat} {xs : List Nat} {B c : Nat} (h : NS w ao cap xs) (hf : Frs B ao) (hc : c < B) (o : Nat) (v : Value) : NS (w.setCell ⟨c, o, none⟩ v) ao cap xs := ⟨h.1.box hf hc o v, h.2⟩
theorem of_norm {a : Nat} (hf : finB a = true) : normD ⟨sgn a, [spF a], spE a⟩ = ofD a := by
  by_cases h0 : rung a = 0
  · have e1 : spF a = 0 := by unfold spF; rw [if_pos h0]
    have e2 : ofD a = (dy0, 0) := by unfold ofD; rw [if_neg (by rw [hf]; simp), if_pos e1]
    rw [e2, e1]
    exact norm_zero rfl
  · have h1 := (sp_bd hf h0).1
    have e2 : ofD a = (⟨sgn a, [spF a], spE a⟩, 0) := by unfold ofD; rw [if_neg (by rw [hf]; simp), if_neg h1]
    obtain ⟨b1, b2, b3, b4, b5, b6⟩ := sp_bd hf h0
    have p2 := (sp_parts h0).2.1
    rw [e2]
    exact nrm_right (d := ⟨sgn a, [spF a], spE a⟩) (fun y hy => by simp at hy; omega) (right_of (by simp) ⟨by simp, by simpa using p2, by simpa using b1, by simp only; omega, by simp only; omega⟩)
theorem NS.one (w : World) (x : Nat) : NS (w.alloc (.cells #[.int .u64 (x : Int)] 40)) (some ⟨w.heap.size, 0, none⟩) 1 [x] :=
  ⟨one_lrow w x _ rfl, fun h => (by cases h), by simp⟩
theorem two_more {W w1 w2 : World} {o1 o2 : Obj} (h1 : Below W.heap.size W w1) (h2 : Below ((w1.alloc o1).alloc o2).heap.size ((w1.alloc o1).alloc o2) w2) : Below W.heap.size W w2 := by
  have h3 : Below W.heap.size W ((w1.alloc o1).alloc o2) := (h1.alloc h1.size _).alloc (by have := h1.size; simp; omega) _
  exact h3.trans (h2.mono h3.size)
theorem intD_lo (n : Int) : (normD ⟨decide (n < 0), lo n.natAbs, 0⟩).1 = intD n := by
  unfold intD normD sv
  have e : vl [n.natAbs] = n.natAbs := by simp [vl]
  simp only [vl_lo, e]
end Go.Proofs.YtnclddfljghebaaDoor

namespace Go.Proofs.YtnclddfljghebaaDoor
open Go.RowKit

theorem addD_at {a b : Dy} (ra : rightB a = true) (rb : rightB b = true) {k : Nat} (hk : b.exp = a.exp + k) : addD a b = nrm (sv a + sv b * 2 ^ k) a.exp := by
  have h1 := right_exp ra
  have h2 := right_exp rb
  unfold addD
  rw [ra, rb]
  simp only [Bool.and_self, if_true]
  have s := nrm_shift (sv a + sv b * 2 ^ k) a.exp (a.exp + 65536).toNat
  rw [show a.exp - ((a.exp + 65536).toNat : Int) = -65536 by omega] at s
  rw [← s]
  congr 1
  unfold qd
  rw [hk, show (a.exp + (k : Int) + 65536).toNat = k + (a.exp + 65536).toNat by omega, Int.pow_add, Int.add_mul, Int.mul_assoc]
theorem addD_turn (a b : Dy) : addD a b = addD b a := by
  unfold addD
  rw [Bool.and_comm, Int.add_comm]
theorem far_abs {A B : Nat} {k : Nat} (hA : A < 2 ^ (k - 2)) (hB : B ≠ 0) (hk : 2 ≤ k) : 2 ^ (k - 1) ≤ B * 2 ^ k - A := by
  have h1 : 2 ^ k = 2 * 2 ^ (k - 1) := by rw [← Nat.pow_succ']; congr 1; omega
  have h2 : 2 ^ (k - 1) = 2 * 2 ^ (k - 2) := by rw [← Nat.pow_succ']; congr 1; omega
  have h3 : 2 ^ k ≤ B * 2 ^ k := Nat.le_mul_of_pos_left _ (Nat.pos_of_ne_zero hB)
  omega
theorem far_add {a b : Dy} (ra : rightB a = true) (rb : rightB b = true) (la : Lm a.mag) (na : a.mag.length ≠ 0) (nb : b.mag.length ≠ 0) {k : Nat} (hk : b.exp = a.exp + k) (hf : 16385 < k) : addD a b = (dy0, 3) := by
  rw [addD_at ra rb hk]
  obtain ⟨a0, ao⟩ := right_ne ra na
  obtain ⟨b0, bo⟩ := right_ne rb nb
  have xa := right_exp ra
  have hA : vl a.mag < 2 ^ (k - 2) := Nat.lt_of_lt_of_le (vl_lt la) (Nat.pow_le_pow_right (by omega) (by omega))
  have hab := far_abs hA b0 (show 2 ≤ k by omega)
  obtain ⟨P, hP⟩ : ∃ P, vl b.mag * 2 ^ k = P := ⟨_, rfl⟩
  have hPe : P % 2 = 0 := by
    rw [← hP, show k = (k - 1) + 1 by omega, Nat.pow_succ, ← Nat.mul_assoc, Nat.mul_mod_left]
  have hPb : (sv b * 2 ^ k).natAbs = P := by
    rw [Int.natAbs_mul, sv_abs, Int.natAbs_pow, ← hP]; rfl
  have hAa := sv_abs a
  rw [hP] at hab
  obtain ⟨Y, hY⟩ : ∃ Y, sv b * 2 ^ k = Y := ⟨_, rfl⟩
  rw [hY] at hPb ⊢
  obtain ⟨Q, hQ⟩ : ∃ Q, 2 ^ (k - 1) = Q := ⟨_, rfl⟩
  rw [hQ] at hab
  have hS : Q ≤ (sv a + Y).natAbs := by omega
  have hva : vl a.mag % 2 = 1 := by rw [vl_odd la na]; omega
  have hodd : (sv a + Y).natAbs % 2 = 1 := by omega
  have hQp : 0 < Q := by rw [← hQ]; exact Nat.two_pow_pos _
  have ht : tz (sv a + Y).natAbs = 0 := tz_odd hodd
  have hbl : k ≤ bl (sv a + Y).natAbs := by
    by_cases h : k ≤ bl (sv a + Y).natAbs
    · exact h
    · have : (sv a + Y).natAbs < 2 ^ (k - 1) := bl_le_iff.1 (by omega)
      omega
  unfold nrm
  rw [if_neg (by omega), if_pos (by omega)]
/-- Are two dyads so far apart that their sum is too long? -/
def farB (a b : Dy) : Bool := decide (a.mag.length ≠ 0) && (decide (b.mag.length ≠ 0) && (decide (16385 < a.exp - b.exp) || decide (16385 < b.exp - a.exp)))
end Go.Proofs.YtnclddfljghebaaDoor

namespace Go.Proofs.YtnclddfljghebaaDoor
open Go.RowKit

/-- A product's right dyad, by the values. -/
theorem dmul_norm {a b : Dy} (ha : rightB a = true) (hb : rightB b = true) : normD ⟨a.neg != b.neg, lo (vl a.mag * vl b.mag), a.exp + b.exp⟩ = mulD a b := by
  have h1 := right_exp ha
  have h2 := right_exp hb
  unfold mulD
  rw [ha, hb]
  simp only [Bool.and_self, if_true]
  unfold normD qd
  have e : sv ⟨a.neg != b.neg, lo (vl a.mag * vl b.mag), a.exp + b.exp⟩ = sv a * sv b := by
    unfold sv
    simp only [vl_lo]
    have h := Int.natCast_mul (vl a.mag) (vl b.mag)
    cases a.neg <;> cases b.neg <;> simp [h, Int.neg_mul, Int.mul_neg]
  rw [e]
  simp only
  have s := nrm_shift (sv a * sv b) (a.exp + b.exp) ((a.exp + 65536).toNat + (b.exp + 65536).toNat)
  rw [show a.exp + b.exp - (((a.exp + 65536).toNat + (b.exp + 65536).toNat : Nat) : Int) = -131072 by omega] at s
  rw [← s]
  congr 1
  rw [Int.pow_add]
  ac_rfl
theorem mul_not {a b : Dy} (h : rightB a = false ∨ rightB b = false) : mulD a b = (dy0, 2) := by
  unfold mulD
  rcases h with h | h <;> rw [h] <;> simp
end Go.Proofs.YtnclddfljghebaaDoor

namespace Go.Proofs.YtnclddfljghebaaDoor
open Go.RowKit

theorem add_not {a b : Dy} (h : rightB a = false ∨ rightB b = false) : addD a b = (dy0, 2) := by
  unfold addD
  rcases h with h | h <;> rw [h] <;> simp
theorem far_long {a b : Dy} (ra : rightB a = true) (rb : rightB b = true) (la : Lm a.mag) (lb : Lm b.mag) (h : farB a b = true) : addD a b = (dy0, 3) := by
  unfold farB at h
  simp at h
  obtain ⟨h1, h2, h3⟩ := h
  have na : a.mag.length ≠ 0 := fun e => h1 (List.eq_nil_of_length_eq_zero e)
  have nb : b.mag.length ≠ 0 := fun e => h2 (List.eq_nil_of_length_eq_zero e)
  by_cases hle : a.exp ≤ b.exp
  · exact far_add ra rb la na nb (k := (b.exp - a.exp).toNat) (by omega) (by omega)
  · rw [addD_turn]
    exact far_add rb ra lb nb na (k := (a.exp - b.exp).toNat) (by omega) (by omega)
/-- The right dyad of a number of the sum's value. -/
theorem plus_norm {a b z : Dy} (ra : rightB a = true) (rb : rightB b = true) (h : PlusV ⟨a.neg, lo (vl a.mag), a.exp⟩ ⟨b.neg, lo (vl b.mag), b.exp⟩ z) : normD z = addD a b := by
  have h1 := right_exp ra
  have h2 := right_exp rb
  obtain ⟨_, he, hv⟩ := h
  have hz : -65536 ≤ z.exp := by simp only at he; omega
  have e := hv (-65536) (by simp only; omega) (by simp only; omega)
  have sa : sv ⟨a.neg, lo (vl a.mag), a.exp⟩ = sv a := by unfold sv; simp only [vl_lo]
  have sb : sv ⟨b.neg, lo (vl b.mag), b.exp⟩ = sv b := by unfold sv; simp only [vl_lo]
  rw [sa, sb] at e
  simp only at e
  unfold addD
  rw [ra, rb]
  simp only [Bool.and_self, if_true]
  have s := nrm_shift (sv z) z.exp (z.exp + 65536).toNat
  rw [show z.exp - ((z.exp + 65536).toNat : Int) = -65536 by omega] at s
  unfold normD
  rw [← s]
  have e2 : sv z * 2 ^ (z.exp + 65536).toNat = qd a + qd b := e
  rw [e2]
end Go.Proofs.YtnclddfljghebaaDoor

namespace Go.Proofs.YtnclddfljghebaaDoor
open Go.RowKit

def negD (d : Dy) : Dy × Int := if rightB d then (trn d, 0) else (dy0, 2)
theorem sg_right {d : Dy} (hr : rightB d = true) : sgD d = sgI (sv d) := by
  unfold sgD
  rcases right_cases hr with h | ⟨h0, _, _, h3, _⟩
  · rw [h]; rfl
  · rw [if_neg h0]
    have hv := vl_ne_last h0 h3
    unfold sgI sv
    cases d.neg <;> simp <;> omega
end Go.Proofs.YtnclddfljghebaaDoor

namespace Go.Proofs.YtnclddfljghebaaDoor
open Go.RowKit

theorem neg_norm {d : Dy} (hL : Lm d.mag) (hr : rightB d = true) : normD ⟨!d.neg, lo (vl d.mag), d.exp⟩ = negD d := by
  unfold negD
  rw [if_pos hr]
  have e : normD ⟨!d.neg, lo (vl d.mag), d.exp⟩ = normD (trn d) := by
    unfold normD
    congr 1
    unfold sv trn
    simp only [vl_lo]
    by_cases h0 : d.mag.length = 0
    · have hm : d.mag = [] := List.eq_nil_of_length_eq_zero h0
      rw [hm]; simp [vl]
    · have h1 : decide (0 < d.mag.length) = true := decide_eq_true (by omega)
      rw [h1]; simp
  rw [e]
  exact nrm_right (d := trn d) hL (trn_right hr)
end Go.Proofs.YtnclddfljghebaaDoor

namespace Go.Proofs.YtnclddfljghebaaDoor
open Go.RowKit

def scaleD (d : Dy) (n : Int) : Dy × Int :=
  if rightB d = false then (dy0, 2) else if d.mag.length = 0 then (dy0, 0) else if n < -65536 - d.exp ∨ 65536 - d.exp < n then (dy0, 3) else (⟨d.neg, d.mag, d.exp + n⟩, 0)
theorem scale_norm {d : Dy} (hL : Lm d.mag) (hr : rightB d = true) (h0 : d.mag.length ≠ 0) (n : Int) : normD ⟨d.neg, lo (vl d.mag), d.exp + n⟩ = scaleD d n := by
  unfold scaleD
  rw [if_neg (by rw [hr]; simp), if_neg h0]
  rcases right_cases hr with h | ⟨_, h1, h2, h3, h4, h5⟩
  · rw [h] at h0; exact absurd rfl h0
  · have hv := vl_ne_last h0 h3
    have hodd := vl_odd hL h0
    have ht : tz (vl d.mag) = 0 := tz_odd (by omega)
    have hlo := lo_vl hL (Or.inr h3)
    have hb := bl_limbs hL h1
    rw [hlo]
    have hz : ((tz (vl d.mag) : Nat) : Int) = 0 := by rw [ht]; rfl
    by_cases hc : n < -65536 - d.exp ∨ 65536 - d.exp < n
    · rw [if_pos hc]
      exact norm_long (d := ⟨d.neg, d.mag, d.exp + n⟩) hv (by simp only; omega)
    · rw [if_neg hc, norm_fine (d := ⟨d.neg, d.mag, d.exp + n⟩) hv (by simp only; omega)]
      simp [ht, hlo]
end Go.Proofs.YtnclddfljghebaaDoor

namespace Go.Proofs.YtnclddfljghebaaDoor
open Go.RowKit

theorem LRow.blk {w : World} {ao : Option Addr} {xs : List Nat} (h : LRow w ao xs) {b off : Nat} (e : ao = some ⟨b, off, none⟩) (h0 : xs.length ≠ 0) : b < w.heap.size := by
  rcases h with h | ⟨b', off', e', hc⟩
  · exact absurd h h0
  · rw [e] at e'
    cases e'
    exact World.block_lt_of_cell? w _ (hc 0 (by omega))
theorem one_more {W w2 w3 : World} {o : Obj} (h1 : Below W.heap.size W w2) (h2 : Below (w2.alloc o).heap.size (w2.alloc o) w3) : Below W.heap.size w2 w3 := by
  have h3 : Below w2.heap.size w2 w3 := ((Below.refl _ _).alloc (Nat.le_refl _) _).trans (h2.mono (by simp))
  exact h3.mono h1.size
end Go.Proofs.YtnclddfljghebaaDoor

namespace Go.Proofs.YtnclddfljghebaaDoor
open Go.RowKit

end Go.Proofs.YtnclddfljghebaaDoor

namespace Go.Proofs.YtnclddfljghebaaDoor
open Go.RowKit

theorem sg_of {a b : Int} (h : a < b) : sgI (a - b) = -1 := by unfold sgI; rw [if_pos (by omega)]
theorem sg_of' {a b : Int} (h : b < a) : sgI (a - b) = 1 := by unfold sgI; rw [if_neg (by omega), if_neg (by omega)]
theorem qd_pos {d : Dy} : (0 < sv d → 0 < qd d) ∧ (sv d < 0 → qd d < 0) ∧ (sv d = 0 → qd d = 0) := by
  have hp := pow_pos_int (d.exp + 65536).toNat
  unfold qd
  exact ⟨fun h => Int.mul_pos h hp, fun h => Int.mul_neg_of_neg_of_pos h hp, fun h => by rw [h, Int.zero_mul]⟩
theorem sgI_range (x : Int) : -1 ≤ sgI x ∧ sgI x ≤ 1 := by unfold sgI; split <;> (try split) <;> omega
theorem cmp_signs {x y : Dy} : (sgI (sv x) < sgI (sv y) → sgI (qd x - qd y) = -1) ∧ (sgI (sv y) < sgI (sv x) → sgI (qd x - qd y) = 1) ∧ (sgI (sv x) = 0 → sgI (sv y) = 0 → sgI (qd x - qd y) = 0) := by
  obtain ⟨p1, p2, p3⟩ := qd_pos (d := x)
  obtain ⟨q1, q2, q3⟩ := qd_pos (d := y)
  have hx : (sgI (sv x) = -1 ∧ sv x < 0) ∨ (sgI (sv x) = 0 ∧ sv x = 0) ∨ (sgI (sv x) = 1 ∧ 0 < sv x) := by unfold sgI; split <;> (try split) <;> omega
  have hy : (sgI (sv y) = -1 ∧ sv y < 0) ∨ (sgI (sv y) = 0 ∧ sv y = 0) ∨ (sgI (sv y) = 1 ∧ 0 < sv y) := by unfold sgI; split <;> (try split) <;> omega
  rcases hx with ⟨e1, h1⟩ | ⟨e1, h1⟩ | ⟨e1, h1⟩ <;> rcases hy with ⟨e2, h2⟩ | ⟨e2, h2⟩ | ⟨e2, h2⟩ <;> rw [e1, e2] <;>
    refine ⟨fun h => ?_, fun h => ?_, fun h g => ?_⟩ <;> first
    | omega
    | (apply sg_of; first | (have := p1 h1; have := q1 h2; omega) | (have := p1 h1; have := q2 h2; omega) | (have := p1 h1; have := q3 h2; omega) | (have := p2 h1; have := q1 h2; omega) | (have := p2 h1; have := q3 h2; omega) | (have := p3 h1; have := q1 h2; omega))
    | (apply sg_of'; first | (have := p1 h1; have := q2 h2; omega) | (have := p1 h1; have := q3 h2; omega) | (have := p3 h1; have := q2 h2; omega))
    | (have a := p3 h1; have b := q3 h2; rw [a, b]; rfl)
theorem cmp_tops {x y : Dy} (hx : vl x.mag ≠ 0) (hy : vl y.mag ≠ 0) (h1 : -65536 ≤ x.exp) (h2 : -65536 ≤ y.exp) (hs : sgI (sv x) = sgI (sv y)) (ht : x.exp + (bl (vl x.mag) : Int) < y.exp + (bl (vl y.mag) : Int)) : sgI (qd x - qd y) = -sgI (sv x) ∧ sgI (qd y - qd x) = sgI (sv x) := by
  have bx := (bl_spec hx).2.1
  have by_ := (bl_spec hy).1
  have bp := bl_pos hy
  have key : vl x.mag * 2 ^ (x.exp + 65536).toNat < vl y.mag * 2 ^ (y.exp + 65536).toNat := by
    calc vl x.mag * 2 ^ (x.exp + 65536).toNat < 2 ^ bl (vl x.mag) * 2 ^ (x.exp + 65536).toNat := (Nat.mul_lt_mul_right (Nat.two_pow_pos _)).2 bx
      _ = 2 ^ (bl (vl x.mag) + (x.exp + 65536).toNat) := by rw [← Nat.pow_add]
      _ ≤ 2 ^ (bl (vl y.mag) - 1 + (y.exp + 65536).toNat) := Nat.pow_le_pow_right (by omega) (by omega)
      _ = 2 ^ (bl (vl y.mag) - 1) * 2 ^ (y.exp + 65536).toNat := by rw [Nat.pow_add]
      _ ≤ vl y.mag * 2 ^ (y.exp + 65536).toNat := Nat.mul_le_mul_right _ by_
  have k2 : (vl x.mag : Int) * 2 ^ (x.exp + 65536).toNat < (vl y.mag : Int) * 2 ^ (y.exp + 65536).toNat := by
    rw [← up_cast, ← up_cast]; omega
  have k0 : 0 ≤ (vl x.mag : Int) * 2 ^ (x.exp + 65536).toNat := Int.mul_nonneg (by omega) (Int.le_of_lt (pow_pos_int _))
  have qx : qd x = if x.neg then -((vl x.mag : Int) * 2 ^ (x.exp + 65536).toNat) else (vl x.mag : Int) * 2 ^ (x.exp + 65536).toNat := by
    unfold qd sv; cases x.neg <;> simp [Int.neg_mul]
  have qy : qd y = if y.neg then -((vl y.mag : Int) * 2 ^ (y.exp + 65536).toNat) else (vl y.mag : Int) * 2 ^ (y.exp + 65536).toNat := by
    unfold qd sv; cases y.neg <;> simp [Int.neg_mul]
  have sx : sgI (sv x) = if x.neg then -1 else 1 := by unfold sgI sv; cases x.neg <;> simp <;> omega
  have sy : sgI (sv y) = if y.neg then -1 else 1 := by unfold sgI sv; cases y.neg <;> simp <;> omega
  rw [sx, sy] at hs
  rw [qx, qy, sx]
  generalize (vl x.mag : Int) * 2 ^ (x.exp + 65536).toNat = P at *
  generalize (vl y.mag : Int) * 2 ^ (y.exp + 65536).toNat = Q at *
  cases hnx : x.neg <;> cases hny : y.neg <;> rw [hnx, hny] at hs <;> simp only [Bool.false_eq_true, if_false, if_true] at hs ⊢
  · exact ⟨sg_of k2, sg_of' k2⟩
  · omega
  · omega
  · exact ⟨sg_of' (by omega), sg_of (by omega)⟩
/-- The two boxes that Compare lays. -/
def W2 (w : World) (n1 n2 : Bool) (xs ys : List Nat) (ao bo : Option Addr) (cap bcap : Nat) (ex ey : Int) : World := (w.alloc (.cells #[.bool n1, .slice ao xs.length cap, .int .i64 ex] 73)).alloc (.cells #[.bool n2, .slice bo ys.length bcap, .int .i64 ey] 73)
theorem plus_cmp {x y z : Dy} (h1 : -65536 ≤ x.exp) (h2 : -65536 ≤ y.exp) (h : PlusV x ⟨!y.neg, y.mag, y.exp⟩ z) : sgI (sv z) = sgI (qd x - qd y) := by
  obtain ⟨_, he, hv⟩ := h
  have e := hv (-65536) h1 (by simp only; omega)
  have sy : sv ⟨!y.neg, y.mag, y.exp⟩ = -sv y := by unfold sv; cases y.neg <;> simp
  rw [sy] at e
  simp only at e
  have e2 : sv z * 2 ^ (z.exp - -65536).toNat = qd x - qd y := by
    rw [e, Int.neg_mul]; rfl
  rw [← e2, sg_mul]
end Go.Proofs.YtnclddfljghebaaDoor
