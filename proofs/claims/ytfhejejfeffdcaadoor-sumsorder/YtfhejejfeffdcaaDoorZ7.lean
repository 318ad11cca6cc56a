/- What the document's Of (layer 3) answers: one step on from the nearest float. -/
import Derived.Test.YtfhejejfeffdcaaDoorU9
import Derived.Test.YtfhejejfeffdcaaDoorZ4
import Derived.Deep.DeepCutAuto
namespace Go.Proofs.YtfhejejfeffdcaaDoor
open Go.RowKit

/-- What is kept of a number's limbs at the power last and above. -/
def cutL (xs : List Nat) (ex last : Int) : List Nat := if last ≤ ex then xs else lo (vl xs / 2 ^ (last - ex).toNat)
end Go.Proofs.YtfhejejfeffdcaaDoor

namespace Go.Proofs.YtfhejejfeffdcaaDoor
open Go.RowKit

theorem bl_log {v : Nat} (h : v ≠ 0) : (bl v : Int) = v.log2 + 1 := by unfold bl; rw [if_neg h]; omega
theorem cut_evenW (neg : Bool) (n d : Nat) : Ieee.Toward.even.cut neg n d = n / 2 ^ d + (if 2 ^ d < 2 * (n % 2 ^ d) ∨ (2 ^ d = 2 * (n % 2 ^ d) ∧ n / 2 ^ d % 2 = 1) then 1 else 0) := by
  unfold Ieee.Toward.cut
  simp only []
  by_cases hd : d ≤ n.log2 + 2
  · rw [Nat.min_eq_left hd, Nat.shiftLeft_eq, Nat.one_mul]
    congr 1
    by_cases h1 : 2 ^ d < 2 * (n % 2 ^ d)
    · simp [h1]
    · by_cases h2 : 2 ^ d = 2 * (n % 2 ^ d) ∧ n / 2 ^ d % 2 = 1
      · rw [if_pos (Or.inr h2)]
        rw [decide_eq_false h1, beq_iff_eq.2 h2.1, beq_iff_eq.2 h2.2]; rfl
      · rw [if_neg (fun h => h.elim h1 h2), decide_eq_false h1]
        have : (2 ^ d == 2 * (n % 2 ^ d) && n / 2 ^ d % 2 == 1) = false := by
          rw [Bool.eq_false_iff]; intro h
          simp only [Bool.and_eq_true, beq_iff_eq] at h
          exact h2 h
        rw [this]; rfl
  · have hlt : n < 2 ^ (n.log2 + 1) := Nat.lt_log2_self
    have e1 : 2 ^ (n.log2 + 2) = 2 * 2 ^ (n.log2 + 1) := by rw [Nat.pow_succ 2 (n.log2 + 1), Nat.mul_comm]
    have e2 : 2 ^ (n.log2 + 2) ≤ 2 ^ d := Nat.pow_le_pow_right (by omega) (by omega)
    rw [Nat.min_eq_right (by omega), Nat.shiftLeft_eq, Nat.one_mul]
    generalize 2 ^ (n.log2 + 1) = A at *
    generalize 2 ^ (n.log2 + 2) = B at *
    generalize 2 ^ d = C at *
    rw [Nat.div_eq_of_lt (show n < B by omega), Nat.mod_eq_of_lt (show n < B by omega), Nat.div_eq_of_lt (show n < C by omega), Nat.mod_eq_of_lt (show n < C by omega), if_neg (by omega)]
    have h1 : decide (B < 2 * n) = false := by simp; omega
    rw [h1]
    simp
/-- What is left against the half, and what is kept in the end. -/
def nHalf (V : Nat) (ex L : Int) : Int := if L ≤ ex then -1 else sgI (((V % 2 ^ (L - ex).toNat : Nat) : Int) * 2 - ((2 ^ (L - ex).toNat : Nat) : Int))
def nK (V : Nat) (ex : Int) : Nat := if 0 < nHalf V ex (rLa V ex) ∨ (nHalf V ex (rLa V ex) = 0 ∧ K0 V ex % 2 = 1) then K0 V ex + 1 else K0 V ex
theorem nK_bd {V : Nat} {ex : Int} (h0 : V ≠ 0) : nK V ex ≤ 9007199254740992 ∧ (rLa V ex = -1074 ∨ 4503599627370496 ≤ nK V ex) ∧ -1074 ≤ rLa V ex ∧ K0 V ex < 9007199254740992 := by
  obtain ⟨b1, b2, _⟩ := K0_bd (e := ex) h0
  refine ⟨by unfold nK; split <;> omega, b2.imp id (fun h => by unfold nK; split <;> omega), (rLa_cases V ex).1, b1⟩
theorem near_plain (neg : Bool) {V : Nat} {ex : Int} (h0 : V ≠ 0) : Ieee.double.nearest neg V ex = Ieee.double.word neg (ldW (nK V ex) (rLa V ex)) := by
  have s2 : Ieee.double.binade = 4503599627370496 := by decide
  have s3 : Ieee.double.infRung = 9218868437227405312 := by decide
  have s4 : Ieee.double.leastPlace = -1074 := by decide
  have s5 : (Ieee.double.fractionBits : Int) = 52 := by decide
  have hb := bl_log h0
  unfold Ieee.Format.nearest
  simp only [s2, s3, s4, s5]
  rw [if_neg h0]
  have hlast : max (ex + (V.log2 : Int) - 52) (-1074) = rLa V ex := by unfold rLa; omega
  rw [hlast, cut_evenW]
  unfold ldW rW
  rw [show rLa V ex - -1074 = rLa V ex + 1074 by omega]
  suffices key : (V <<< (ex - rLa V ex).toNat) / 2 ^ (rLa V ex - ex).toNat + (if 2 ^ (rLa V ex - ex).toNat < 2 * ((V <<< (ex - rLa V ex).toNat) % 2 ^ (rLa V ex - ex).toNat) ∨ (2 ^ (rLa V ex - ex).toNat = 2 * ((V <<< (ex - rLa V ex).toNat) % 2 ^ (rLa V ex - ex).toNat) ∧ (V <<< (ex - rLa V ex).toNat) / 2 ^ (rLa V ex - ex).toNat % 2 = 1) then 1 else 0) = nK V ex by rw [key]
  have hd : rDr V ex = rLa V ex - ex := rfl
  unfold nK nHalf K0 shr
  rw [hd]
  by_cases hc : rLa V ex ≤ ex
  · rw [if_pos hc, if_neg (by omega : ¬ (0 < (-1 : Int) ∨ ((-1 : Int) = 0 ∧ _)))]
    have e2 : (rLa V ex - ex).toNat = 0 := by omega
    rw [e2, Nat.pow_zero, Nat.mod_one, Nat.div_one, if_neg (by omega), Nat.add_zero, Nat.shiftLeft_eq]
    by_cases he : 0 ≤ rLa V ex - ex
    · rw [if_pos he, show (ex - rLa V ex).toNat = 0 by omega, Nat.pow_zero, Nat.mul_one, Nat.div_one]
    · rw [if_neg he, show -(rLa V ex - ex) = ex - rLa V ex by omega]
  · rw [if_neg hc, if_pos (by omega : 0 ≤ rLa V ex - ex)]
    have e2 : (ex - rLa V ex).toNat = 0 := by omega
    rw [e2, Nat.shiftLeft_zero]
    generalize (2 : Nat) ^ (rLa V ex - ex).toNat = P
    generalize V % P = R
    generalize V / P = Q
    by_cases h1 : P < 2 * R
    · rw [sgI_pos (by omega : (0 : Int) < (R : Int) * 2 - (P : Int)), if_pos (Or.inl h1), if_pos (Or.inl (by omega))]
    · by_cases h2 : P = 2 * R
      · have h3 : sgI ((R : Int) * 2 - (P : Int)) = 0 := by rw [show (R : Int) * 2 - (P : Int) = 0 by omega]; rfl
        rw [h3]
        by_cases h4 : Q % 2 = 1
        · rw [if_pos (Or.inr ⟨h2, h4⟩), if_pos (Or.inr ⟨rfl, h4⟩)]
        · rw [if_neg (fun h => h.elim h1 (fun h => h4 h.2)), if_neg (fun h => h.elim (by omega) (fun h => h4 h.2)), Nat.add_zero]
      · rw [sgI_neg (by omega : (R : Int) * 2 - (P : Int) < 0), if_neg (fun h => h.elim h1 (fun h => h2 h.1)), if_neg (by omega), Nat.add_zero]
end Go.Proofs.YtfhejejfeffdcaaDoor

namespace Go.Proofs.YtfhejejfeffdcaaDoor
open Go.RowKit

theorem sv_pos (xs : List Nat) (e : Int) : sv ⟨false, xs, e⟩ = (vl xs : Int) := by unfold sv; simp
theorem sv_less (xs : List Nat) (e : Int) : sv ⟨true, xs, e⟩ = -(vl xs : Int) := by unfold sv; simp
theorem rest_half {xs : List Nat} {ex L : Int} {z : Dy} (hx : -65536 ≤ ex) (hl : -65535 ≤ L) (h : PlusV ⟨false, xs, ex⟩ ⟨!false, cutL xs ex L, max ex L⟩ z) : sgI (qd z - qd ⟨false, lo 1, L - 1⟩) = nHalf (vl xs) ex L := by
  have e := h.2.2 (-65536) hx (by simp only; omega)
  simp only [Bool.not_false] at e
  rw [sv_pos, sv_less] at e
  have hq : qd z = (vl xs : Int) * 2 ^ (ex + 65536).toNat - (vl (cutL xs ex L) : Int) * 2 ^ (max ex L + 65536).toNat := by
    have e1 : qd z = sv z * 2 ^ (z.exp - -65536).toNat := by unfold qd; rw [show z.exp - -65536 = z.exp + 65536 by omega]
    rw [e1, e, show ex - -65536 = ex + 65536 by omega, show max ex L - -65536 = max ex L + 65536 by omega, Int.neg_mul]
    omega
  have hh : qd ⟨false, lo 1, L - 1⟩ = 2 ^ (L - 1 + 65536).toNat := by unfold qd; rw [sv_pos, vl_lo]; simp
  rw [hq, hh]
  unfold nHalf cutL
  by_cases hc : L ≤ ex
  · rw [if_pos hc, if_pos hc, show max ex L = ex by omega, Int.sub_self]
    have := pow_pos_int (L - 1 + 65536).toNat
    exact sgI_neg (by omega)
  · rw [if_neg hc, if_neg hc, show max ex L = L by omega, vl_lo]
    obtain ⟨d, hd⟩ : ∃ d : Nat, (L - ex).toNat = d + 1 := ⟨(L - ex).toNat - 1, by omega⟩
    rw [hd, show (L + 65536).toNat = (d + 1) + (ex + 65536).toNat by omega, show (L - 1 + 65536).toNat = d + (ex + 65536).toNat by omega, pow_add_int (d + 1) (ex + 65536).toNat, pow_add_int d (ex + 65536).toNat]
    have hm := Nat.mod_add_div (vl xs) (2 ^ (d + 1))
    have hc2 : ((2 ^ (d + 1) : Nat) : Int) = 2 ^ d * 2 := by rw [Nat.pow_succ]; simp
    have hc3 : (2 : Int) ^ (d + 1) = 2 ^ d * 2 := by rw [Int.pow_succ]
    have hm2 : (vl xs : Int) = ((vl xs % 2 ^ (d + 1) : Nat) : Int) + 2 ^ d * 2 * ((vl xs / 2 ^ (d + 1) : Nat) : Int) := by
      rw [← hc2, ← Int.natCast_mul, ← Int.natCast_add, hm]
    have e2 : (vl xs : Int) * 2 ^ (ex + 65536).toNat - ((vl xs / 2 ^ (d + 1) : Nat) : Int) * (2 ^ (d + 1) * 2 ^ (ex + 65536).toNat) - 2 ^ d * 2 ^ (ex + 65536).toNat = (((vl xs % 2 ^ (d + 1) : Nat) : Int) - 2 ^ d) * 2 ^ (ex + 65536).toNat := by
      rw [hc3]
      generalize ((vl xs % 2 ^ (d + 1) : Nat) : Int) = R at *
      generalize ((vl xs / 2 ^ (d + 1) : Nat) : Int) = Q at *
      generalize (2 : Int) ^ (ex + 65536).toNat = B at *
      generalize (2 : Int) ^ d = A at *
      rw [hm2, Int.add_mul, Int.sub_mul, ← Int.mul_assoc Q, Int.mul_comm Q (A * 2)]
      omega
    rw [e2, sg_mul, hc2]
    generalize ((vl xs % 2 ^ (d + 1) : Nat) : Int) = R
    generalize (2 : Int) ^ d = A
    unfold sgI
    (repeat' split) <;> omega
/-- A box just made and filled. -/
theorem Hd.newT {w : World} {d : Dy} {ao : Option Addr} {cap : Nat} {t : TypeId} (h : LRow w ao d.mag) : Hd (w.alloc (.cells #[.bool d.neg, .slice ao d.mag.length cap, .int .i64 d.exp] t)) w.heap.size d ao cap := by
  refine ⟨?_, ?_, ?_, h.alloc _⟩ <;> go_simp
theorem Hd.allocT {w : World} {p : Nat} {d : Dy} {ao : Option Addr} {cap : Nat} (h : Hd w p d ao cap) (o : Obj) : Hd (w.alloc o) p d ao cap := h.below ((Below.refl _ _).alloc (Nat.le_refl _) o)
end Go.Proofs.YtfhejejfeffdcaaDoor

namespace Go.Proofs.YtfhejejfeffdcaaDoor
open Go.RowKit

end Go.Proofs.YtfhejejfeffdcaaDoor

namespace Go.Proofs.YtfhejejfeffdcaaDoor
open Go.RowKit

theorem fl_units (neg : Bool) {k : Nat} (hk : k < 9223372036854775808) : qd (flD (Ieee.double.word neg k)) = if neg then -((val k * 2 ^ kV : Nat) : Int) else ((val k * 2 ^ kV : Nat) : Int) := by
  rw [qd_fl]
  unfold vI
  rw [(word_rung neg hk).1, (word_rung neg hk).2, show pwL = kV from rfl, Int.natCast_mul, Int.natCast_pow]
  cases neg <;> simp [Int.neg_mul]
theorem x_units (neg : Bool) (xs : List Nat) (ex : Int) : qd ⟨neg, xs, ex⟩ = if neg then -((vl xs * 2 ^ (ex + 65536).toNat : Nat) : Int) else ((vl xs * 2 ^ (ex + 65536).toNat : Nat) : Int) := by
  unfold qd
  rw [Int.natCast_mul, Int.natCast_pow]
  cases neg
  · rw [sv_pos]; rfl
  · rw [sv_less, Int.neg_mul]; rfl
theorem sdK_fin (neg : Bool) (A : Nat) {k : Nat} (hk : k < 9218868437227405312) : sdK neg A k = if neg then -sgI ((A : Int) - ((val k * 2 ^ kV : Nat) : Int)) else sgI ((A : Int) - ((val k * 2 ^ kV : Nat) : Int)) := by
  unfold sdK
  rw [if_neg (by omega)]
theorem sg_flip (neg : Bool) (A B : Int) : sgI ((if neg then -A else A) - (if neg then -B else B)) = if neg then -sgI (A - B) else sgI (A - B) := by
  cases neg
  · simp
  · simp only [if_true]
    unfold sgI
    (repeat' split) <;> omega
theorem side_sd (neg : Bool) {xs : List Nat} {ex : Int} {k : Nat} (hk : k < 9218868437227405312) : sgI (qd ⟨neg, xs, ex⟩ - qd (flD (Ieee.double.word neg k))) = sdK neg (vl xs * 2 ^ (ex + 65536).toNat) k := by
  rw [sdK_fin neg _ hk, ← sg_flip, ← x_units, fl_units neg (by omega)]
/-- What Of tells of a number that is not 0. -/
def ofW (neg : Bool) (V : Nat) (ex m : Int) (k : Nat) : Nat := stepF (Ieee.double.word neg k) (sdK neg (V * 2 ^ (ex + 65536).toNat) k) m
end Go.Proofs.YtfhejejfeffdcaaDoor
