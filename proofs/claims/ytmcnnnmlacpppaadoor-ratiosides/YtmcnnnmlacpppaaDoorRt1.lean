/- Division of two limbs by one, in halves (math/bits.Div64); division limb by limb (Knuth's way): what holds of the guesses; no program in this text. -/

namespace Go.Proofs.YtmcnnnmlacpppaaDoor

/-- A guess at a half of a quotient: not too small. -/
structure DvS (y1 y0 u v q r : Int) : Prop where
  e : q * y1 + r = u
  q0 : 0 ≤ q
  q2 : q ≤ 4294967297
  r0 : 0 ≤ r
  r2 : r < 4294967296
  g : (u * 4294967296 + v) / (y1 * 4294967296 + y0) ≤ q
theorem ediv_le_of {n d q : Int} (hd : 0 < d) (h : n < (q + 1) * d) : n / d ≤ q := by
  have := (Int.ediv_lt_iff_lt_mul hd (a := n) (b := q + 1)).2 h
  omega
theorem le_ediv_of {n d q : Int} (hd : 0 < d) (h : q * d ≤ n) : q ≤ n / d := (Int.le_ediv_iff_mul_le hd).2 h
section
variable {y1 y0 u v q r : Int}
theorem dv_start (h1 : 2147483648 ≤ y1) (h2 : y1 < 4294967296) (h3 : 0 ≤ y0) (h4 : y0 < 4294967296) (hu0 : 0 ≤ u) (hu : u < y1 * 4294967296 + y0) (_hv0 : 0 ≤ v) (hv : v < 4294967296) :
    DvS y1 y0 u v (u / y1) (u - u / y1 * y1) := by
  have e := Int.mul_ediv_add_emod u y1
  have m0 := Int.emod_nonneg u (show y1 ≠ 0 by omega)
  have m1 := Int.emod_lt_of_pos u (show 0 < y1 by omega)
  have p0 : 0 ≤ u / y1 := Int.ediv_nonneg hu0 (by omega)
  generalize u % y1 = m at *
  generalize u / y1 = q at *
  have e' : q * y1 = y1 * q := Int.mul_comm _ _
  refine ⟨by omega, p0, ?_, by omega, by omega, ediv_le_of (by omega) ?_⟩
  · refine Int.not_lt.1 fun hl => ?_
    have : y1 * 4294967298 ≤ y1 * q := Int.mul_le_mul_of_nonneg_left (by omega) (by omega)
    omega
  · have a : 0 ≤ (q + 1) * y0 := Int.mul_nonneg (by omega) h3
    have b : (q + 1) * (y1 * 4294967296 + y0) = (y1 * q + y1) * 4294967296 + (q + 1) * y0 := by grind
    omega
theorem dv_more (h : DvS y1 y0 u v q r) (h1 : 2147483648 ≤ y1) (h2 : y1 < 4294967296) (h3 : 0 ≤ y0) (h4 : y0 < 4294967296) (hu : u < y1 * 4294967296 + y0) (hv0 : 0 ≤ v) (hv : v < 4294967296)
    (ht : 4294967296 ≤ q ∨ 4294967296 * r + v < q * y0) : 1 ≤ q ∧ (r + y1 < 4294967296 → DvS y1 y0 u v (q - 1) (r + y1)) ∧ (4294967296 ≤ r + y1 → q - 1 = (u * 4294967296 + v) / (y1 * 4294967296 + y0)) := by
  have hY : 0 < y1 * 4294967296 + y0 := by omega
  have e := h.e
  have q1 : 1 ≤ q := by
    rcases ht with ht | ht
    · omega
    · refine Int.not_lt.1 fun hl => ?_
      have : q = 0 := by have := h.q0; omega
      have := h.r0
      grind
  have G : (u * 4294967296 + v) / (y1 * 4294967296 + y0) ≤ q - 1 := by
    refine ediv_le_of hY ?_
    rcases ht with ht | ht
    · have : 4294967296 * (y1 * 4294967296 + y0) ≤ q * (y1 * 4294967296 + y0) := Int.mul_le_mul_of_nonneg_right ht (by omega)
      rw [show q - 1 + 1 = q by omega]
      omega
    · have : (q - 1 + 1) * (y1 * 4294967296 + y0) = q * y1 * 4294967296 + q * y0 := by grind
      omega
  have e' : (q - 1) * y1 = q * y1 - y1 := by rw [Int.sub_mul]; omega
  refine ⟨q1, fun hr => ⟨by omega, by omega, by have := h.q2; omega, by have := h.r0; omega, hr, G⟩, fun hr => Int.le_antisymm (le_ediv_of hY ?_) G⟩
  have hq : q - 1 ≤ 4294967295 := by
    refine Int.not_lt.1 fun hl => ?_
    have := h.q2
    have hq : q = 4294967297 := by omega
    rw [hq] at e
    omega
  have a : (q - 1) * y0 ≤ 4294967295 * 4294967295 := Int.mul_le_mul hq (by omega) h3 (by omega)
  have b : (q - 1) * (y1 * 4294967296 + y0) = (q - 1) * y1 * 4294967296 + (q - 1) * y0 := by grind
  have := h.r0
  omega
theorem dv_stop (h : DvS y1 y0 u v q r) (h1 : 2147483648 ≤ y1) (h3 : 0 ≤ y0) (ht : ¬ (4294967296 ≤ q ∨ 4294967296 * r + v < q * y0)) : q = (u * 4294967296 + v) / (y1 * 4294967296 + y0) := by
  have hY : 0 < y1 * 4294967296 + y0 := by omega
  refine Int.le_antisymm (le_ediv_of hY ?_) h.g
  have b : q * (y1 * 4294967296 + y0) = q * y1 * 4294967296 + q * y0 := by grind
  have := h.e
  omega
end
/-- Both halves. -/
theorem dv_both {Y u v1 v0 : Int} (hY : 0 < Y) : (u * 4294967296 + v1) / Y * 4294967296 + ((u * 4294967296 + v1) % Y * 4294967296 + v0) / Y = (u * 18446744073709551616 + v1 * 4294967296 + v0) / Y := by
  have e := Int.mul_ediv_add_emod (u * 4294967296 + v1) Y
  generalize (u * 4294967296 + v1) / Y = q at *
  generalize (u * 4294967296 + v1) % Y = r at *
  have : u * 18446744073709551616 + v1 * 4294967296 + v0 = r * 4294967296 + v0 + (q * 4294967296) * Y := by grind
  rw [this, Int.add_mul_ediv_right _ _ (by omega)]
  omega
/-- The quotient's first guess, by the two highest limbs of the one and the highest of the other. -/
theorem guess_ge {U V u1 u0 v P : Nat} (hP : 0 < P) (hv : 0 < v) (hU : U < (u1 * 18446744073709551616 + u0 + 1) * P) (hV : v * P ≤ V) : U / V ≤ (u1 * 18446744073709551616 + u0) / v := by
  have hvP : 0 < v * P := Nat.mul_pos hv hP
  refine (Nat.le_div_iff_mul_le hv).2 ?_
  have a : U / V * (v * P) ≤ U := Nat.le_trans (Nat.mul_le_mul_left _ hV) (Nat.div_mul_le_self U V)
  have b : U / V * v * P < (u1 * 18446744073709551616 + u0 + 1) * P := by rw [Nat.mul_assoc]; omega
  have := Nat.lt_of_mul_lt_mul_right b
  omega
/-- A row taken off so far: t the old limbs' number below place k, X the subtrahend's, b how often. -/
def Took (T X b P o c : Nat) : Prop := o + X * b = T + P * c
theorem took_step {T X b P o c x t s d l h : Nat} (hk : Took T X b P o c) (hp : x * b + c = l + 18446744073709551616 * h) (hs : s + l = t + 18446744073709551616 * d) :
    Took (T + P * t) (X + P * x) b (18446744073709551616 * P) (o + P * s) (h + d) := by
  unfold Took at *
  have e1 : P * s + P * l = P * t + P * (18446744073709551616 * d) := by rw [← Nat.mul_add, hs, Nat.mul_add]
  have e2 : P * (x * b) + P * c = P * l + P * (18446744073709551616 * h) := by rw [← Nat.mul_add, hp, Nat.mul_add]
  have e3 : (X + P * x) * b = X * b + P * (x * b) := by rw [Nat.add_mul, Nat.mul_assoc]
  have e4 : 18446744073709551616 * P * (h + d) = P * (18446744073709551616 * h) + P * (18446744073709551616 * d) := by
    rw [Nat.mul_comm 18446744073709551616 P, Nat.mul_assoc, Nat.mul_add, Nat.mul_add]
  omega
theorem took_over {T X b P o c t s d : Nat} (hk : Took T X b P o c) (hs : s + c = t + 18446744073709551616 * d) :
    Took (T + P * t) X b (18446744073709551616 * P) (o + P * s) d := by
  unfold Took at *
  have e1 : P * s + P * c = P * t + P * (18446744073709551616 * d) := by rw [← Nat.mul_add, hs, Nat.mul_add]
  have e4 : 18446744073709551616 * P * d = P * (18446744073709551616 * d) := by rw [Nat.mul_comm 18446744073709551616 P, Nat.mul_assoc]
  omega
/-- What is carried stays a limb. -/
theorem took_carry {x b c l h t : Nat} (hx : x < 18446744073709551616) (hb : b < 18446744073709551616) (hc : c < 18446744073709551616) (hp : x * b + c = l + 18446744073709551616 * h) (hl : l < 18446744073709551616) : h + (if t < l then 1 else 0) < 18446744073709551616 := by
  have : x * b ≤ 18446744073709551615 * 18446744073709551615 := Nat.mul_le_mul (by omega) (by omega)
  split <;> omega
/-- One place of a quotient: what is left of the whole, below the divisor at that place. -/
theorem div_place {V j X lo U Z : Nat} (hX : X = lo + 2 ^ j * U) (hlo : lo < 2 ^ j) (hZ : Z = lo + 2 ^ j * (U % V)) (hV : 0 < V) : Z < V * 2 ^ j ∧ Z + V * (U / V * 2 ^ j) = X := by
  have m := Nat.mod_lt U hV
  have e := Nat.mod_add_div U V
  have a : 2 ^ j * (U % V + 1) ≤ 2 ^ j * V := Nat.mul_le_mul_left _ m
  rw [Nat.mul_add, Nat.mul_one] at a
  refine ⟨by rw [Nat.mul_comm V]; omega, ?_⟩
  have b : V * (U / V * 2 ^ j) = 2 ^ j * (V * (U / V)) := by rw [← Nat.mul_assoc, Nat.mul_comm]
  have c : 2 ^ j * (U % V) + 2 ^ j * (V * (U / V)) = 2 ^ j * U := by rw [← Nat.mul_add, e]
  omega
end Go.Proofs.YtmcnnnmlacpppaaDoor
