/- Rounding, told by what is rounded: which floats lie about it: no program in this text. -/
import Derived.Test.YtnclddfljghebaaGreatDoorZg
import Derived.Test.YtnclddfljghebaaGreatDoorDr
namespace Go.Proofs.YtnclddfljghebaaGreatDoor
open Go.RowKit

theorem word_lt64 (s : Bool) {r : Nat} (h : r < 9223372036854775808) : Ieee.double.word s r < 18446744073709551616 := by
  cases s
  · rw [word_pos]; omega
  · rw [word_neg]; omega
theorem word_rung (s : Bool) {r : Nat} (h : r < 9223372036854775808) : rung (Ieee.double.word s r) = r ∧ sgn (Ieee.double.word s r) = s := by
  cases s
  · rw [word_pos]; exact ⟨rung_small h, sgn_small h⟩
  · rw [word_neg]; unfold rung sgn; constructor
    · omega
    · simp
theorem word_of {a : Nat} (ha : a < 18446744073709551616) : a = Ieee.double.word (sgn a) (rung a) := by
  have := rung_of a ha
  cases hs : sgn a
  · rw [word_pos]; rw [hs] at this; simpa using this
  · rw [word_neg]; rw [hs] at this; simpa using this
theorem read_word (s : Bool) {r : Nat} (h : r < 9218868437227405312) : Ieee.double.read (Ieee.double.word s r) = .number s (mg r) (-1074 + (up r : Nat)) := by
  obtain ⟨h1, h2⟩ := word_rung s (r := r) (by omega)
  rw [read_fin (word_lt64 s (by omega)) (by unfold finB; rw [h1]; simpa using h), h1, h2]
theorem read_two : Ieee.double.read 4611686018427387904 = .number false 4503599627370496 (-51) := by decide +kernel

/-- From one number told in two ways to 'nearest_val'. -/
theorem pow_cancel {a b k l : Nat} (h : a * 2 ^ k = b * 2 ^ l) (hkl : k ≤ l) : a = b * 2 ^ (l - k) := by
  have : b * 2 ^ l = b * 2 ^ (l - k) * 2 ^ k := by rw [Nat.mul_assoc, ← Nat.pow_add]; congr 2; omega
  rw [this] at h
  exact Nat.eq_of_mul_eq_mul_right (Nat.two_pow_pos k) h

theorem half_exact (s : Bool) {r q : Nat} (hr : r < 9218868437227405312) (hq : q < 9218868437227405312) (hr0 : r ≠ 0) (hq0 : q ≠ 0) (hu1 : up q ≤ up r) (hu2 : up r ≤ up q + 1) (hv : val r = 2 * val q) :
    floatBits .quo .f64 (Ieee.double.word s r) 4611686018427387904 = some (Ieee.double.word s q) := by
  have hm0 := mg_ne hr0
  have hl : (mg r).log2 < 53 := log2_lt53 hm0 (mg_lt r)
  have hl2 : Nat.log2 4503599627370496 = 52 := by decide
  unfold floatBits
  simp only [fmt64, Ieee.Format.div]
  rw [read_word s hr, read_two]
  have hd : Ieee.double.fractionBits + 2 = 54 := rfl
  simp only [Ieee.Datum.quotient, hd, hl2]
  rw [if_neg (by omega)]
  simp only [Option.map_some, Ieee.Format.write, Option.some.injEq, Bool.xor_false, Nat.shiftLeft_eq]
  have e1 : mg r * 2 ^ (54 + 52 - (mg r).log2) = mg r * 2 ^ (54 - (mg r).log2) * 4503599627370496 := by
    rw [show (4503599627370496 : Nat) = 2 ^ 52 from rfl, Nat.mul_assoc, ← Nat.pow_add, show 54 - (mg r).log2 + 52 = 54 + 52 - (mg r).log2 by omega]
  rw [e1, Nat.mul_div_cancel _ (by omega), Nat.mul_mod_left]
  have e2 : ((0 : Nat) != 0).toNat = 0 := rfl
  rw [e2, Nat.add_zero]
  have := nearest_val s (2 * (mg r * 2 ^ (54 - (mg r).log2))) (-1074 + (up r : Int) - -51 - ((54 + 52 - (mg r).log2 : Nat) : Int) - 1) (mg q) (up q) (mg_lt q) (mg_ne hq0) (mg_up_ok q) ?_
  · rw [this, ← rung_mg q, show min q 9218868437227405312 = q by omega]
  · right
    refine ⟨up q + 56 - (mg r).log2 - up r, by omega, ?_⟩
    have h1 : mg r * 2 ^ up r = 2 * (mg q * 2 ^ up q) := by rw [mg_up, mg_up]; exact hv
    have h2 : 2 * (mg r * 2 ^ (54 - (mg r).log2)) * 2 ^ up r = mg q * 2 ^ (up q + 56 - (mg r).log2) := by
      calc 2 * (mg r * 2 ^ (54 - (mg r).log2)) * 2 ^ up r = 2 * 2 ^ (54 - (mg r).log2) * (mg r * 2 ^ up r) := by
            ac_rfl
        _ = mg q * 2 ^ (up q + 56 - (mg r).log2) := by
            rw [h1, show up q + 56 - (mg r).log2 = up q + (54 - (mg r).log2) + 1 + 1 by omega, Nat.pow_succ, Nat.pow_succ, Nat.pow_add]
            ac_rfl
    exact pow_cancel h2 (by omega)

theorem double_exact (s : Bool) {r q : Nat} (hr : r < 9218868437227405312) (hq : q < 9218868437227405312) (hq0 : q ≠ 0) (hu1 : up r ≤ up q) (hv : val q = 2 * val r) :
    floatBits .mul .f64 (Ieee.double.word s r) 4611686018427387904 = some (Ieee.double.word s q) := by
  unfold floatBits
  simp only [fmt64, Ieee.Format.mul]
  rw [read_word s hr, read_two]
  simp only [Ieee.Datum.product, Option.map_some, Ieee.Format.write, Option.some.injEq, Bool.xor_false]
  have := nearest_val s (mg r * 4503599627370496) (-1074 + (up r : Int) + -51) (mg q) (up q) (mg_lt q) (mg_ne hq0) (mg_up_ok q) ?_
  · rw [this, ← rung_mg q, show min q 9218868437227405312 = q by omega]
  · right
    refine ⟨up q + 51 - up r, by omega, ?_⟩
    have h1 : mg q * 2 ^ up q = 2 * (mg r * 2 ^ up r) := by rw [mg_up, mg_up]; exact hv
    have h2 : mg r * 4503599627370496 * 2 ^ up r = mg q * 2 ^ (up q + 51) := by
      calc mg r * 4503599627370496 * 2 ^ up r = 2 ^ 51 * (2 * (mg r * 2 ^ up r)) := by
            rw [show (4503599627370496 : Nat) = 2 ^ 51 * 2 from rfl]; ac_rfl
        _ = mg q * 2 ^ (up q + 51) := by rw [← h1, Nat.pow_add]; ac_rfl
    exact pow_cancel h2 (by omega)

theorem sum_val (s t : Bool) (r q : Nat) : Ieee.Datum.sum (.number s (mg r) (-1074 + (up r : Nat))) (.number t (mg q) (-1074 + (up q : Nat))) =
    some (.number (if Ieee.signed s (mg r) (up r - min (up r) (up q)) + Ieee.signed t (mg q) (up q - min (up r) (up q)) = 0 then s && t else decide (Ieee.signed s (mg r) (up r - min (up r) (up q)) + Ieee.signed t (mg q) (up q - min (up r) (up q)) < 0))
      (Ieee.signed s (mg r) (up r - min (up r) (up q)) + Ieee.signed t (mg q) (up q - min (up r) (up q))).natAbs (-1074 + (min (up r) (up q) : Nat))) := by
  have e1 : (-1074 + (up r : Int) - (-1074 + ((min (up r) (up q) : Nat) : Int))).toNat = up r - min (up r) (up q) := by omega
  have e2 : (-1074 + (up q : Int) - (-1074 + ((min (up r) (up q) : Nat) : Int))).toNat = up q - min (up r) (up q) := by omega
  have e3 : min (-1074 + (up r : Int)) (-1074 + (up q : Int)) = -1074 + ((min (up r) (up q) : Nat) : Int) := by omega
  simp only [Ieee.Datum.sum, e3, e1, e2]

theorem sub_self {a : Nat} (ha : a < 18446744073709551616) (hf : finB a = true) : floatBits .sub .f64 a a = some 0 := by
  unfold floatBits
  simp only [fmt64, Ieee.Format.sub]
  rw [read_fin ha hf]
  simp only [Ieee.Datum.opposite]
  rw [sum_val]
  have h0 : ∀ s, Ieee.signed s (mg (rung a)) (up (rung a) - min (up (rung a)) (up (rung a))) + Ieee.signed (!s) (mg (rung a)) (up (rung a) - min (up (rung a)) (up (rung a))) = 0 := by
    intro s; cases s <;> simp [Ieee.signed] <;> omega
  rw [h0, if_pos rfl]
  simp only [Option.map_some, Ieee.Format.write, Int.natAbs_zero, Bool.and_not_self]
  unfold Ieee.Format.nearest
  rw [if_pos rfl]
  rfl

/-- The next rung's value. -/
theorem val_succ (r : Nat) : val (r + 1) = (mg r + 1) * 2 ^ up r := by
  unfold val mg up
  by_cases h1 : r + 1 < 4503599627370496
  · rw [if_pos h1, if_pos (by omega), if_pos (by omega)]; simp
  · by_cases h2 : r < 4503599627370496
    · rw [if_neg h1, if_pos h2, if_pos h2, show r + 1 = 4503599627370496 by omega]
    · rw [if_neg h1, if_neg h2, if_neg h2]
      by_cases h3 : r % 4503599627370496 + 1 < 4503599627370496
      · rw [show (r + 1) % 4503599627370496 = r % 4503599627370496 + 1 by omega, show (r + 1) / 4503599627370496 = r / 4503599627370496 by omega]
        congr 1
      · rw [show (r + 1) % 4503599627370496 = 0 by omega, show (r + 1) / 4503599627370496 - 1 = (r / 4503599627370496 - 1) + 1 by omega, show r % 4503599627370496 = 4503599627370495 by omega, Nat.pow_succ]
        generalize 2 ^ (r / 4503599627370496 - 1) = t
        omega
theorem up_succ (r : Nat) : up r ≤ up (r + 1) ∧ up (r + 1) ≤ up r + 1 := by unfold up; (repeat' split) <;> omega

theorem diff_one (r : Nat) : mg (r + 1) * 2 ^ (up (r + 1) - up r) = mg r + 1 := by
  have h1 := mg_up (r + 1)
  rw [val_succ] at h1
  have h2 := up_succ r
  have h3 : (mg r + 1) * 2 ^ up r = mg (r + 1) * 2 ^ up (r + 1) := h1.symm
  exact (pow_cancel h3 h2.1).symm

theorem sub_next {r : Nat} (h : r + 1 < 9218868437227405312) : floatBits .sub .f64 (r + 1) r = some (pw ((up r : Int) - 1074)) := by
  have hu := up_succ r
  have hd := diff_one r
  have hur : up r < 2046 := by unfold up; split <;> omega
  unfold floatBits
  simp only [fmt64, Ieee.Format.sub]
  rw [read_pos h, read_pos (r := r) (by omega)]
  simp only [Ieee.Datum.opposite]
  rw [sum_val, show min (up (r + 1)) (up r) = up r by omega]
  have ht : Ieee.signed false (mg (r + 1)) (up (r + 1) - up r) + Ieee.signed (!false) (mg r) (up r - up r) = 1 := by
    simp only [Ieee.signed, Bool.false_eq_true, if_false, Bool.not_false, if_true, Nat.shiftLeft_eq, hd]
    rw [Nat.sub_self, Nat.pow_zero, Nat.mul_one]; omega
  rw [ht]
  simp only [Option.map_some, Ieee.Format.write, Option.some.injEq]
  rw [if_neg (by omega), show decide ((1 : Int) < 0) = false by decide, show (1 : Int).natAbs = 1 from rfl]
  obtain ⟨p1, p2, p3⟩ := pw_ok (e := (up r : Int) - 1074) (by omega) (by omega)
  have hne : pw ((up r : Int) - 1074) ≠ 0 := by
    intro h0
    rw [h0] at p2
    have : mg 0 = 0 := by decide
    rw [this] at p2
    split at p2
    · have := Nat.two_pow_pos ((up r : Int) - 1074 + 1074).toNat; omega
    · omega
  have := nearest_val false 1 (-1074 + (up r : Nat)) (mg (pw ((up r : Int) - 1074))) (up (pw ((up r : Int) - 1074))) (mg_lt _) (mg_ne hne) (mg_up_ok _) ?_
  · rw [this, word_pos, ← rung_mg, show min (pw ((up r : Int) - 1074)) 9218868437227405312 = pw ((up r : Int) - 1074) by omega]
  · left
    rw [p2, p3]
    by_cases hc : (up r : Int) - 1074 < -1022
    · simp only [if_pos hc]
      exact ⟨((up r : Int) - 1074 + 1074).toNat, by omega, by rw [Nat.one_mul]⟩
    · simp only [if_neg hc]
      exact ⟨52, by omega, rfl⟩

/-- Half way between two neighbours of 53 bits. -/
theorem nearest_half (neg : Bool) {R U : Nat} (h1 : 4503599627370496 ≤ R) (h2 : R < 9007199254740992) (hU : 1 ≤ U) :
    ∃ k, (k = R ∨ k = R + 1) ∧ Ieee.double.nearest neg (2 * R + 1) (-1074 + ((U - 1 : Nat) : Int)) = Ieee.double.word neg (min (U * 4503599627370496 + k) 9218868437227405312) := by
  have s2 : Ieee.double.binade = 4503599627370496 := by decide
  have s3 : Ieee.double.infRung = 9218868437227405312 := by decide
  have s4 : Ieee.double.leastPlace = -1074 := by decide
  have s5 : (Ieee.double.fractionBits : Int) = 52 := by decide
  have hl : (2 * R + 1).log2 = 53 := log2_eq (by omega) (by omega)
  unfold Ieee.Format.nearest
  simp only [s2, s3, s4, s5, hl]
  rw [if_neg (by omega)]
  have hlast : max (-1074 + ((U - 1 : Nat) : Int) + ((53 : Nat) : Int) - 52) (-1074) = (U : Int) - 1074 := by omega
  rw [hlast]
  have e1 : (-1074 + ((U - 1 : Nat) : Int) - ((U : Int) - 1074)).toNat = 0 := by omega
  have e2 : ((U : Int) - 1074 - (-1074 + ((U - 1 : Nat) : Int))).toNat = 1 := by omega
  have e3 : ((U : Int) - 1074 - -1074).toNat = U := by omega
  rw [e1, e2, e3, Nat.shiftLeft_zero]
  refine ⟨Ieee.Toward.even.cut neg (2 * R + 1) 1, ?_, rfl⟩
  unfold Ieee.Toward.cut
  simp only [hl]
  have hm : min 1 (53 + 2) = 1 := rfl
  simp only [hm, Nat.one_shiftLeft, Nat.pow_one]
  rw [show (2 * R + 1) / 2 = R by omega, show (2 * R + 1) % 2 = 1 by omega]
  cases h : (decide (2 < 2 * 1) || (2 == 2 * 1 && R % 2 == 1))
  · left; rfl
  · right; rfl
end Go.Proofs.YtnclddfljghebaaGreatDoor

namespace Go.Proofs.YtnclddfljghebaaGreatDoor
open Go.RowKit

/-- From a float's least place down to a dyad's. -/
def kQ : Nat := 64462
theorem kQ_eq : kQ = 64462 := rfl
theorem rW_valQ {k : Nat} {la : Int} (hk : k < 9007199254740992) (hor : la = -1074 ∨ 4503599627370496 ≤ k) : val (rW k la) = k * 2 ^ (la + 1074).toNat ∧ val (rW k la + 1) = (k + 1) * 2 ^ (la + 1074).toNat := by
  have hU : (la + 1074).toNat = 0 ∨ 4503599627370496 ≤ k := by omega
  obtain ⟨e1, e2⟩ := mg_of hk hU
  unfold rW
  refine ⟨?_, ?_⟩
  · rw [← mg_up, e1, e2]
  · rw [val_succ, e1, e2]

/-- Where what is dropped is not nothing: the size below, the one above, the nearer one. -/
theorem rnd_nearQ {v : Nat} {e : Int} (hv : v % 2 = 1) (he : -65536 ≤ e) (hg : (bl v : Int) + e ≤ 1024) (hd : 0 < rDr v e) :
    ∃ s B R D : Nat, rSz v e 3 = s ∧ rSz v e 2 = s + 1 ∧ (rSz v e 0 = s ∨ rSz v e 0 = s + 1) ∧ s < 9218868437227405312 ∧ v = B + R ∧ 0 < R ∧ R < D ∧
      val s * 2 ^ kQ = B * 2 ^ (e + 65536).toNat ∧ val (s + 1) * 2 ^ kQ = (B + D) * 2 ^ (e + 65536).toNat ∧ (2 * R < D → rSz v e 0 = s) ∧ (D < 2 * R → rSz v e 0 = s + 1) := by
  have h0 : v ≠ 0 := by omega
  obtain ⟨k1, k2, k3, k4, k5⟩ := kept_bd h0 hg
  generalize hla : rLa v e = la at *
  have hdr : rDr v e = la - e := by unfold rDr; rw [hla]
  generalize hdn : (rDr v e).toNat = n at *
  have hn : 0 < n := by omega
  have hsh : shr v (rDr v e) = v / 2 ^ n := by unfold shr; rw [if_pos (by omega), hdn]
  rw [hsh] at k1 k2 k5
  have hD : 0 < 2 ^ n := Nat.pow_pos (by omega)
  have hDM := Nat.div_add_mod v (2 ^ n)
  have hlt := Nat.mod_lt v hD
  have h2 : 2 ^ n = 2 * 2 ^ (n - 1) := by
    have h3 : n = n - 1 + 1 := by omega
    rw [h3, Nat.pow_succ, Nat.mul_comm, Nat.add_sub_cancel]
  have hodd : v % 2 ^ n % 2 = 1 := by
    rw [h2, Nat.mod_mul_right_mod]; exact hv
  have hR : v % 2 ^ n ≠ 0 := by intro h; rw [h] at hodd; cases hodd
  have hbit : win v (rDr v e - 1) % 2 = v / 2 ^ (n - 1) % 2 := by
    unfold win shr
    rw [if_pos (by omega), show (rDr v e - 1).toNat = n - 1 by omega]
    omega
  have hq : v / 2 ^ (n - 1) % 2 = (v % 2 ^ n) / 2 ^ (n - 1) := by
    rw [h2, Nat.mul_comm 2, Nat.mod_mul_right_div_self]
  have hp1 : 0 < 2 ^ (n - 1) := Nat.pow_pos (by omega)
  have hw : win v (rDr v e) = v / 2 ^ n := k1
  have e3 : rSz v e 3 = rW (v / 2 ^ n) la := by
    unfold rSz; rw [if_neg (by omega), hla]; unfold rKp rUp; rw [hw]; simp
  have e2 : rSz v e 2 = rW (v / 2 ^ n) la + 1 := by
    unfold rSz; rw [if_neg (by omega), hla]; unfold rKp rUp; rw [hw, if_pos ⟨hd, by simp⟩]; unfold rW; omega
  have e0 : ∀ b, rUp v (rDr v e) 0 = b → rSz v e 0 = if b then rW (v / 2 ^ n) la + 1 else rW (v / 2 ^ n) la := by
    intro b hb
    unfold rSz; rw [if_neg (by omega), hla]; unfold rKp; rw [hw, hb]
    cases b
    · simp
    · rw [if_pos ⟨hd, rfl⟩, if_pos rfl]; unfold rW; omega
  have hup : rUp v (rDr v e) 0 = ((v % 2 ^ n / 2 ^ (n - 1) == 1) && (decide (1 < rDr v e) || (win v (rDr v e) % 2 == 1))) := by
    unfold rUp; rw [if_pos rfl, hbit, hq]
  have hpow : 2 ^ (la + 1074).toNat * 2 ^ kQ = 2 ^ n * 2 ^ (e + 65536).toNat := by
    rw [← Nat.pow_add, ← Nat.pow_add]; congr 1; have := kQ_eq; omega
  obtain ⟨v1, v2⟩ := rW_valQ k2 k5
  refine ⟨rW (v / 2 ^ n) la, 2 ^ n * (v / 2 ^ n), v % 2 ^ n, 2 ^ n, e3, e2, ?_, ?_, by omega, by omega, hlt, ?_, ?_, ?_, ?_⟩
  · have h := e0 _ rfl
    cases hb : rUp v (rDr v e) 0 <;> rw [hb] at h
    · exact Or.inl h
    · exact Or.inr h
  · unfold rW; omega
  · rw [v1, Nat.mul_assoc, hpow, ← Nat.mul_assoc, Nat.mul_comm (v / 2 ^ n)]
  · rw [v2, Nat.mul_assoc, hpow, ← Nat.mul_assoc, Nat.add_mul, Nat.one_mul, Nat.mul_comm (v / 2 ^ n)]
  · intro h
    have hz : v % 2 ^ n / 2 ^ (n - 1) = 0 := Nat.div_eq_of_lt (by omega)
    rw [hz] at hup
    exact e0 false hup
  · intro h
    have h3 : v % 2 ^ n / 2 ^ (n - 1) = 1 := by
      have h4 := Nat.div_mul_le_self (v % 2 ^ n) (2 ^ (n - 1))
      have h5 : v % 2 ^ n / 2 ^ (n - 1) < 2 := (Nat.div_lt_iff_lt_mul hp1).2 (by omega)
      have h6 : 1 ≤ v % 2 ^ n / 2 ^ (n - 1) := (Nat.le_div_iff_mul_le hp1).2 (by omega)
      omega
    have h1 : 1 < rDr v e := by
      by_cases h1 : n = 1
      · subst h1; simp at h hlt; omega
      · omega
    rw [h3, decide_eq_true h1] at hup
    exact e0 true hup

end Go.Proofs.YtnclddfljghebaaGreatDoor

namespace Go.Proofs.YtnclddfljghebaaGreatDoor
open Go.RowKit

theorem mul2_lt {a b c : Nat} (hc : 0 < c) : a * c < b * c ↔ a < b := ⟨fun h => Nat.lt_of_mul_lt_mul_right h, fun h => Nat.mul_lt_mul_of_pos_right h hc⟩
/-- 2g against the quotient with its bit is g times the divisor against what is divided. -/
theorem stk_at {A B s g : Nat} (hB : 0 < B) (hs : s = 2 * (A / B) + if A % B = 0 then 0 else 1) : (2 * g < s ↔ g * B < A) ∧ (s < 2 * g ↔ A < g * B) := by
  have h1 : g ≤ A / B ↔ g * B ≤ A := Nat.le_div_iff_mul_le hB
  have h2 : g < A / B → g * B < A := fun h => by
    have : (g + 1) * B ≤ A := (Nat.le_div_iff_mul_le hB).1 h
    rw [Nat.succ_mul] at this
    omega
  have h3 := Nat.div_add_mod A B
  rw [Nat.mul_comm] at h3
  have h4 : g = A / B → g * B = A - A % B := fun h => by rw [h]; omega
  split at hs <;> constructor <;> constructor <;> intro h
  · exact h2 (by omega)
  · have := h1.2 (Nat.le_of_lt h)
    rcases Nat.lt_or_eq_of_le this with k | k
    · omega
    · have := h4 k; omega
  · have : ¬ g ≤ A / B := by omega
    have := mt h1.2 this
    omega
  · have : ¬ g * B ≤ A := by omega
    have := mt h1.1 this
    omega
  · rcases Nat.lt_or_ge g (A / B) with k | k
    · exact h2 k
    · have := h4 (by omega); omega
  · have := h1.2 (Nat.le_of_lt h)
    omega
  · have : ¬ g ≤ A / B := by omega
    have := mt h1.2 this
    omega
  · have : ¬ g * B ≤ A := by omega
    have := mt h1.1 this
    omega
theorem stk {A B s f i F : Nat} (hB : 0 < B) (hs : s = 2 * (A / B) + if A % B = 0 then 0 else 1) (hbig : 9223372036854775808 ≤ A / B) (hf : f < 1152921504606846976) :
    (f * 2 ^ i < s * 2 ^ F ↔ f * 2 ^ i * B < 2 * A * 2 ^ F) ∧ (s * 2 ^ F < f * 2 ^ i ↔ 2 * A * 2 ^ F < f * 2 ^ i * B) := by
  have hp := Nat.two_pow_pos F
  by_cases h : F < i
  · obtain ⟨k, rfl⟩ : ∃ k, i = F + (1 + k) := ⟨i - F - 1, by omega⟩
    have e1 : f * 2 ^ (F + (1 + k)) = 2 * (f * 2 ^ k) * 2 ^ F := by rw [Nat.pow_add, Nat.pow_add]; grind
    have e2 : f * 2 ^ (F + (1 + k)) * B = 2 * (f * 2 ^ k * B) * 2 ^ F := by rw [e1]; grind
    rw [e2, e1, mul2_lt hp, mul2_lt hp, mul2_lt hp, mul2_lt hp]
    obtain ⟨a, b⟩ := stk_at (g := f * 2 ^ k) hB hs
    constructor
    · rw [a]; omega
    · rw [b]; omega
  · have hq : 2 * A ≥ 18446744073709551616 * B := by
      have := (Nat.le_div_iff_mul_le hB).1 hbig
      omega
    have hs2 : 18446744073709551616 ≤ s := by omega
    have h1 : f * 2 ^ i ≤ f * 2 ^ F := Nat.mul_le_mul_left _ (Nat.pow_le_pow_right (by omega) (by omega))
    have h2 : f * 2 ^ F < 1152921504606846976 * 2 ^ F := Nat.mul_lt_mul_of_pos_right hf hp
    have h3 : 18446744073709551616 * 2 ^ F ≤ s * 2 ^ F := Nat.mul_le_mul_right _ hs2
    have l1 : f * 2 ^ i < s * 2 ^ F := by omega
    have h4 : f * 2 ^ i * B < 1152921504606846976 * 2 ^ F * B := Nat.mul_lt_mul_of_pos_right (by omega) hB
    have h5 : 18446744073709551616 * B * 2 ^ F ≤ 2 * A * 2 ^ F := Nat.mul_le_mul_right _ hq
    have e5 : 18446744073709551616 * B * 2 ^ F = 16 * (1152921504606846976 * 2 ^ F * B) := by grind
    have l2 : f * 2 ^ i * B < 2 * A * 2 ^ F := by
      rw [e5] at h5
      generalize 1152921504606846976 * 2 ^ F * B = x at *
      omega
    exact ⟨⟨fun _ => l2, fun _ => l1⟩, ⟨fun h => by omega, fun h => by omega⟩⟩
end Go.Proofs.YtnclddfljghebaaGreatDoor

namespace Go.Proofs.YtnclddfljghebaaGreatDoor
open Go.RowKit

/-- What is said of a size X over D (in units of 2^-1074) that is rounded to the rung s, to s + 1, to the nearer one. -/
def Abt (X D s r3 r2 r0 : Nat) : Prop :=
  s ≤ 9218868437227405311 ∧ ((val s * D = X ∧ r3 = s ∧ r2 = s ∧ r0 = s) ∨
    (val s * D < X ∧ (s + 1 < 9218868437227405312 → X < val (s + 1) * D) ∧ r3 = s ∧ r2 = s + 1 ∧ (r0 = s ∨ r0 = s + 1) ∧
      (s + 1 < 9218868437227405312 → (2 * X < (val s + val (s + 1)) * D → r0 = s) ∧ ((val s + val (s + 1)) * D < 2 * X → r0 = s + 1))))
def eI : Nat := 2046
def eTop : Nat := 52 + eI + kQ
theorem eTop_eq : eTop = 66560 := rfl
theorem val_inf : val 9218868437227405312 * 2 ^ kQ = 2 ^ eTop := by
  have h : val 9218868437227405312 = 4503599627370496 * 2 ^ eI := by kernel_rfl
  have e : eTop = 52 + eI + kQ := rfl
  rw [e, Nat.pow_add, Nat.pow_add, h]
theorem mag_core {v : Nat} {e : Int} {X D : Nat} (hv : v % 2 = 1) (he : -65536 ≤ e)
    (t1 : ∀ k, (val k * 2 ^ kQ < v * 2 ^ (e + 65536).toNat ↔ val k * D < X) ∧ (v * 2 ^ (e + 65536).toNat < val k * 2 ^ kQ ↔ X < val k * D))
    (t2 : ∀ k, ((val k + val (k + 1)) * 2 ^ kQ < 2 * (v * 2 ^ (e + 65536).toNat) ↔ (val k + val (k + 1)) * D < 2 * X) ∧ (2 * (v * 2 ^ (e + 65536).toNat) < (val k + val (k + 1)) * 2 ^ kQ ↔ 2 * X < (val k + val (k + 1)) * D)) :
    ∃ s, Abt X D s (rSz v e 3) (rSz v e 2) (rSz v e 0) := by
  have h0 : v ≠ 0 := by omega
  have hb := bl_spec h0
  by_cases hg : 1024 < (bl v : Int) + e
  · refine ⟨9218868437227405311, Nat.le_refl _, Or.inr ⟨?_, fun c => by omega, ?_, ?_, Or.inr ?_, fun c => by omega⟩⟩
    · refine ((t1 _).1).1 ?_
      have h1 : 2 ^ (bl v - 1) * 2 ^ (e + 65536).toNat ≤ v * 2 ^ (e + 65536).toNat := Nat.mul_le_mul_right _ hb.1
      have h2 : 2 ^ eTop ≤ 2 ^ (bl v - 1) * 2 ^ (e + 65536).toNat := by
        rw [← Nat.pow_add]
        exact Nat.pow_le_pow_right (by omega) (by have := eTop_eq; omega)
      have h3 : val 9218868437227405311 * 2 ^ kQ < val 9218868437227405312 * 2 ^ kQ := Nat.mul_lt_mul_of_pos_right (val_lt (by omega)) (Nat.two_pow_pos _)
      rw [val_inf] at h3
      exact Nat.lt_of_lt_of_le h3 (Nat.le_trans h2 h1)
    all_goals
      unfold rSz
      rw [if_pos hg]
      rfl
  · have hg' : (bl v : Int) + e ≤ 1024 := by omega
    by_cases hd : 0 < rDr v e
    · obtain ⟨s, B, R, M, h3, h2, hn, hs, hBR, hR, hRM, e1, e2, n1, n2⟩ := rnd_nearQ hv he hg' hd
      have hE := Nat.two_pow_pos (e + 65536).toNat
      refine ⟨s, by omega, Or.inr ⟨((t1 s).1).1 ?_, fun _ => ((t1 (s + 1)).2).1 ?_, h3, h2, hn, fun _ => ⟨fun c => n1 ?_, fun c => n2 ?_⟩⟩⟩
      · rw [e1, hBR]; exact Nat.mul_lt_mul_of_pos_right (by omega) hE
      · rw [e2, hBR]; exact Nat.mul_lt_mul_of_pos_right (by omega) hE
      · have := ((t2 s).2).2 c
        rw [Nat.add_mul, e1, e2, hBR, ← Nat.add_mul, ← Nat.mul_assoc, mul2_lt hE] at this
        omega
      · have := ((t2 s).1).2 c
        rw [Nat.add_mul, e1, e2, hBR, ← Nat.add_mul, ← Nat.mul_assoc, mul2_lt hE] at this
        omega
    · obtain ⟨k1, k2, k3, k4, k5⟩ := kept_bd h0 hg'
      have hdr : rDr v e = rLa v e - e := rfl
      have hr : ∀ m, rSz v e m = rW (shr v (rDr v e)) (rLa v e) := fun m => by
        unfold rSz rKp
        rw [if_neg hg, if_neg (fun c => hd c.1), k1]
      have hk5 : rLa v e = -1074 ∨ 4503599627370496 ≤ shr v (rDr v e) := k5
      have hv2 := (rW_valQ k2 hk5).1
      have hsh : shr v (rDr v e) = v * 2 ^ (-(rDr v e)).toNat := by
        unfold shr
        by_cases c : 0 ≤ rDr v e
        · have c2 : rDr v e = 0 := by omega
          rw [c2]
          simp
        · rw [if_neg c]
      have hA : val (rW (shr v (rDr v e)) (rLa v e)) * 2 ^ kQ = v * 2 ^ (e + 65536).toNat := by
        rw [hv2, hsh, Nat.mul_assoc, Nat.mul_assoc, ← Nat.pow_add, ← Nat.pow_add]
        congr 2
        have := kQ_eq
        omega
      have hlt : rW (shr v (rDr v e)) (rLa v e) < 9218868437227405312 := by
        rcases Nat.lt_or_ge (rW (shr v (rDr v e)) (rLa v e)) 9218868437227405312 with c | c
        · exact c
        · exfalso
          have h1 : val 9218868437227405312 ≤ val (rW (shr v (rDr v e)) (rLa v e)) := by
            rcases Nat.lt_or_eq_of_le c with q | q
            · exact Nat.le_of_lt (val_lt q)
            · rw [← q]; exact Nat.le_refl _
          have h2 := Nat.mul_le_mul_right (2 ^ kQ) h1
          rw [val_inf, hA] at h2
          have h3 : v * 2 ^ (e + 65536).toNat < 2 ^ bl v * 2 ^ (e + 65536).toNat := Nat.mul_lt_mul_of_pos_right hb.2.1 (Nat.two_pow_pos _)
          have h4 : 2 ^ bl v * 2 ^ (e + 65536).toNat ≤ 2 ^ eTop := by
            rw [← Nat.pow_add]
            exact Nat.pow_le_pow_right (by omega) (by have := eTop_eq; omega)
          exact absurd (Nat.lt_of_lt_of_le h3 h4) (Nat.not_lt.2 h2)
      refine ⟨_, by omega, Or.inl ⟨?_, hr 3, hr 2, hr 0⟩⟩
      have a := t1 (rW (shr v (rDr v e)) (rLa v e))
      rw [hA] at a
      have c1 := mt a.1.2 (Nat.lt_irrefl _)
      have c2 := mt a.2.2 (Nat.lt_irrefl _)
      omega
end Go.Proofs.YtnclddfljghebaaGreatDoor
