/- Division of two limbs by one, in halves (math/bits.Div64); division limb by limb (Knuth's way): what holds of the guesses; no program in this text. -/

namespace Go.Proofs.YtnclddfljghebaaGreatDoor

/-- What holds of the heads A, B of two numbers after some steps: the later heads, and how they come out of the first ones. -/
structure FoS (A B x y a0 a1 b0 b1 : Int) : Prop where
  ex : x = a0 * A + a1 * B
  ey : y = b0 * A + b1 * B
  det : a0 * b1 - a1 * b0 = 1 ∨ a0 * b1 - a1 * b0 = -1
  sg : (0 ≤ a0 ∧ a1 ≤ 0 ∧ b0 ≤ 0 ∧ 0 ≤ b1) ∨ (a0 ≤ 0 ∧ 0 ≤ a1 ∧ 0 ≤ b0 ∧ b1 ≤ 0)
  xa : 0 ≤ x + a0 ∧ 0 ≤ x + a1
  yb : 0 ≤ y + b0 ∧ 0 ≤ y + b1
  ba : (-A ≤ a0 ∧ a0 ≤ A) ∧ (-A ≤ a1 ∧ a1 ≤ A)
  bb : (-A ≤ b0 ∧ b0 ≤ A) ∧ (-A ≤ b1 ∧ b1 ≤ A)
  lx : x ≤ A
  ly : y ≤ A
  de : (a0 = 1 ∧ a1 = 0 ∧ b0 = 0 ∧ b1 = 1) ∨ ∀ P r s : Int, 0 ≤ r → r < P → 0 ≤ s → s < P → b0 * (A * P + r) + b1 * (B * P + s) < a0 * (A * P + r) + a1 * (B * P + s) ∧ a0 * (A * P + r) + a1 * (B * P + s) ≤ B * P + s

theorem FoS.start {A B : Int} (hA : 1 ≤ A) (hB : 0 ≤ B) (hBA : B ≤ A) : FoS A B A B 1 0 0 1 :=
  ⟨by grind, by grind, by grind, by grind, by omega, by omega, by omega, by omega, by omega, by omega, Or.inl ⟨rfl, rfl, rfl, rfl⟩⟩
theorem FoS.pos {A B x y a0 a1 b0 b1 : Int} (h : FoS A B x y a0 a1 b0 b1) : 0 ≤ x ∧ 0 ≤ y := by
  have := h.sg
  have := h.xa
  have := h.yb
  omega

/-- A number between: what stands below the heads can't turn the sign. -/
theorem head_low {H u v P r s : Int} (hr : 0 ≤ r) (hrP : r < P) (hs : 0 ≤ s) (hsP : s < P) (h0 : 0 ≤ H + u) (h1 : 0 ≤ H + v) (hg : (0 ≤ u ∧ v ≤ 0) ∨ (u ≤ 0 ∧ 0 ≤ v)) : 0 ≤ H * P + u * r + v * s := by
  rcases hg with ⟨h2, h3⟩ | ⟨h2, h3⟩
  · have a := Int.mul_nonneg h2 hr
    have b := Int.mul_nonneg (show 0 ≤ -v by omega) (show 0 ≤ P - s by omega)
    have c := Int.mul_nonneg h1 (show 0 ≤ P by omega)
    have e : H * P + u * r + v * s = u * r + (-v) * (P - s) + (H + v) * P := by grind
    omega
  · have a := Int.mul_nonneg h3 hs
    have b := Int.mul_nonneg (show 0 ≤ -u by omega) (show 0 ≤ P - r by omega)
    have c := Int.mul_nonneg h0 (show 0 ≤ P by omega)
    have e : H * P + u * r + v * s = v * s + (-u) * (P - r) + (H + u) * P := by grind
    omega
theorem head_lt {H u v P r s : Int} (hr : 0 ≤ r) (hrP : r < P) (hs : 0 ≤ s) (hsP : s < P) (h0 : 1 ≤ H + u) (h1 : 1 ≤ H + v) (hg : (0 ≤ u ∧ v ≤ 0) ∨ (u ≤ 0 ∧ 0 ≤ v)) : 0 < H * P + u * r + v * s := by
  have := head_low (H := H - 1) hr hrP hs hsP (by omega) (by omega) hg
  have e : (H - 1) * P + u * r + v * s = H * P + u * r + v * s - P := by grind
  omega

theorem FoS.step {A B x y a0 a1 b0 b1 q : Int} (h : FoS A B x y a0 a1 b0 b1) (hB : 0 ≤ B) (hBA : B ≤ A) (h0 : y + b0 ≠ 0) (h1 : y + b1 ≠ 0) (q0 : q = (x + a0) / (y + b0)) (q1 : q = (x + a1) / (y + b1)) :
    FoS A B y (x - q * y) b0 b1 (a0 - q * b0) (a1 - q * b1) ∧ 0 ≤ q ∧ q ≤ 2 * A ∧ x - q * y < y := by
  have p0 : 0 < y + b0 := by have := h.yb; omega
  have p1 : 0 < y + b1 := by have := h.yb; omega
  have hq : 0 ≤ q := by rw [q0]; exact Int.ediv_nonneg h.xa.1 (by omega)
  have hq2 : q ≤ x + a0 := by
    rw [q0]
    exact Int.ediv_le_self _ h.xa.1
  have m0 := Int.emod_nonneg (x + a0) (show y + b0 ≠ 0 by omega)
  have m1 := Int.emod_nonneg (x + a1) (show y + b1 ≠ 0 by omega)
  have l0 := Int.emod_lt_of_pos (x + a0) p0
  have l1 := Int.emod_lt_of_pos (x + a1) p1
  have e0 := Int.mul_ediv_add_emod (x + a0) (y + b0)
  have e1 := Int.mul_ediv_add_emod (x + a1) (y + b1)
  rw [← q0] at e0
  rw [← q1] at e1
  generalize (x + a0) % (y + b0) = r0 at *
  generalize (x + a1) % (y + b1) = r1 at *
  have yq0 : x - q * y + (a0 - q * b0) = r0 := by grind
  have yq1 : x - q * y + (a1 - q * b1) = r1 := by grind
  have hp := h.pos
  have y1 : 1 ≤ y := by have := h.sg; omega
  obtain ⟨N, hN⟩ : ∃ N, x - q * y = N := ⟨_, rfl⟩
  obtain ⟨c0, hc0⟩ : ∃ c, a0 - q * b0 = c := ⟨_, rfl⟩
  obtain ⟨c1, hc1⟩ : ∃ c, a1 - q * b1 = c := ⟨_, rfl⟩
  have sg : (0 ≤ b0 ∧ b1 ≤ 0 ∧ c0 ≤ 0 ∧ 0 ≤ c1) ∨ (b0 ≤ 0 ∧ 0 ≤ b1 ∧ 0 ≤ c0 ∧ c1 ≤ 0) := by
    rcases h.sg with ⟨s1, s2, s3, s4⟩ | ⟨s1, s2, s3, s4⟩
    · have a := Int.mul_nonneg hq (show 0 ≤ -b0 by omega)
      have b := Int.mul_nonneg hq s4
      rw [Int.mul_neg] at a
      exact Or.inr ⟨s3, s4, by omega, by omega⟩
    · have a := Int.mul_nonneg hq s3
      have b := Int.mul_nonneg hq (show 0 ≤ -b1 by omega)
      rw [Int.mul_neg] at b
      exact Or.inl ⟨s3, s4, by omega, by omega⟩
  have ey : N = c0 * A + c1 * B := by have := h.ex; have := h.ey; grind
  have det : b0 * c1 - b1 * c0 = 1 ∨ b0 * c1 - b1 * c0 = -1 := by
    rcases h.det with d | d
    · right; grind
    · left; grind
  have ey' := h.ey
  rw [hN, hc0] at yq0
  rw [hN, hc1] at yq1
  have N0 : 0 ≤ N := by omega
  -- Cramer: the numbers are small.
  have cr1 : c1 * y - b1 * N = A ∨ c1 * y - b1 * N = -A := by
    rcases det with d | d
    · left
      have : c1 * y - b1 * N = (b0 * c1 - b1 * c0) * A := by rw [ey', ey]; grind
      rw [this, d]; omega
    · right
      have : c1 * y - b1 * N = (b0 * c1 - b1 * c0) * A := by rw [ey', ey]; grind
      rw [this, d]; omega
  have cr0 : b0 * N - c0 * y = B ∨ b0 * N - c0 * y = -B := by
    rcases det with d | d
    · left
      have : b0 * N - c0 * y = (b0 * c1 - b1 * c0) * B := by rw [ey', ey]; grind
      rw [this, d]; omega
    · right
      have : b0 * N - c0 * y = (b0 * c1 - b1 * c0) * B := by rw [ey', ey]; grind
      rw [this, d]; omega
  have k : ∀ c : Int, 0 ≤ c → c ≤ c * y := fun c hc => by
    have := Int.mul_nonneg hc (show 0 ≤ y - 1 by omega)
    rw [Int.mul_sub] at this
    omega
  have bb : (-A ≤ c0 ∧ c0 ≤ A) ∧ (-A ≤ c1 ∧ c1 ≤ A) := by
    rcases sg with ⟨s1, s2, s3, s4⟩ | ⟨s1, s2, s3, s4⟩
    · have a := Int.mul_nonneg s1 N0
      have b := k (-c0) (by omega)
      rw [Int.neg_mul] at b
      have c := k c1 s4
      have d := Int.mul_nonneg (show 0 ≤ -b1 by omega) N0
      rw [Int.neg_mul] at d
      omega
    · have a := Int.mul_nonneg (show 0 ≤ -b0 by omega) N0
      rw [Int.neg_mul] at a
      have b := k c0 s3
      have c := k (-c1) (by omega)
      rw [Int.neg_mul] at c
      have d := Int.mul_nonneg s2 N0
      omega
  have Nx : N ≤ x := by
    have := Int.mul_nonneg hq hp.2
    omega
  refine ⟨⟨ey', by rw [hN, hc0, hc1]; exact ey, by rw [hc0, hc1]; exact det, by rw [hc0, hc1]; exact sg, ⟨by omega, by omega⟩, ⟨by omega, by omega⟩, h.bb, by rw [hc0, hc1]; exact bb, h.ly, by have := h.lx; omega, Or.inr ?_⟩, hq, by have := h.ba; have := h.lx; omega, by omega⟩
  intro P r s hr hrP hs hsP
  rw [hc0, hc1]
  have D := head_lt (H := y - N) (u := b0 - c0) (v := b1 - c1) hr hrP hs hsP (by omega) (by omega) (by omega)
  have E : b0 * (A * P + r) + b1 * (B * P + s) - (c0 * (A * P + r) + c1 * (B * P + s)) = (y - N) * P + (b0 - c0) * r + (b1 - c1) * s := by rw [ey', ey]; grind
  refine ⟨by omega, ?_⟩
  rcases h.de with ⟨rfl, rfl, rfl, rfl⟩ | hd
  · rw [Int.zero_mul, Int.one_mul]; omega
  · have := hd P r s hr hrP hs hsP
    omega
/-- What is mixed is not below 0. -/
theorem FoS.mixed {A B x y a0 a1 b0 b1 P r s : Int} (h : FoS A B x y a0 a1 b0 b1) (hr : 0 ≤ r) (hrP : r < P) (hs : 0 ≤ s) (hsP : s < P) :
    0 ≤ a0 * (A * P + r) + a1 * (B * P + s) ∧ 0 ≤ b0 * (A * P + r) + b1 * (B * P + s) := by
  have u := head_low (H := x) (u := a0) (v := a1) hr hrP hs hsP h.xa.1 h.xa.2 (by have := h.sg; omega)
  have v := head_low (H := y) (u := b0) (v := b1) hr hrP hs hsP h.yb.1 h.yb.2 (by have := h.sg; omega)
  have ex := h.ex
  have ey := h.ey
  have e1 : a0 * (A * P + r) + a1 * (B * P + s) = x * P + a0 * r + a1 * s := by rw [ex]; grind
  have e2 : b0 * (A * P + r) + b1 * (B * P + s) = y * P + b0 * r + b1 * s := by rw [ey]; grind
  omega
/-- Mixed so, two numbers have the same divisors in common. -/
theorem gcd_mix {a b a0 a1 b0 b1 : Int} (hd : a0 * b1 - a1 * b0 = 1 ∨ a0 * b1 - a1 * b0 = -1) : Int.gcd (a0 * a + a1 * b) (b0 * a + b1 * b) = Int.gcd a b := by
  apply Nat.dvd_antisymm
  · obtain ⟨X, hX⟩ : ∃ X, a0 * a + a1 * b = X := ⟨_, rfl⟩
    obtain ⟨Y, hY⟩ : ∃ Y, b0 * a + b1 * b = Y := ⟨_, rfl⟩
    rw [hX, hY]
    have dX := Int.gcd_dvd_left X Y
    have dY := Int.gcd_dvd_right X Y
    refine Int.dvd_gcd ?_ ?_
    · rcases hd with d | d
      · have : a = b1 * X - a1 * Y := by rw [← hX, ← hY]; grind
        rw [this]; exact Int.dvd_sub (Int.dvd_mul_of_dvd_right dX) (Int.dvd_mul_of_dvd_right dY)
      · have : a = a1 * Y - b1 * X := by rw [← hX, ← hY]; grind
        rw [this]; exact Int.dvd_sub (Int.dvd_mul_of_dvd_right dY) (Int.dvd_mul_of_dvd_right dX)
    · rcases hd with d | d
      · have : b = a0 * Y - b0 * X := by rw [← hX, ← hY]; grind
        rw [this]; exact Int.dvd_sub (Int.dvd_mul_of_dvd_right dY) (Int.dvd_mul_of_dvd_right dX)
      · have : b = b0 * X - a0 * Y := by rw [← hX, ← hY]; grind
        rw [this]; exact Int.dvd_sub (Int.dvd_mul_of_dvd_right dX) (Int.dvd_mul_of_dvd_right dY)
  · have da := Int.gcd_dvd_left a b
    have db := Int.gcd_dvd_right a b
    exact Int.dvd_gcd (Int.dvd_add (Int.dvd_mul_of_dvd_right da) (Int.dvd_mul_of_dvd_right db)) (Int.dvd_add (Int.dvd_mul_of_dvd_right da) (Int.dvd_mul_of_dvd_right db))
end Go.Proofs.YtnclddfljghebaaGreatDoor

namespace Go.Proofs.YtnclddfljghebaaGreatDoor

/-- A guess at a half of a quotient: not too small. -/
structure DvS (y1 y0 u v q r : Int) : Prop where
  e : q * y1 + r = u
  q0 : 0 ≤ q
  q2 : q ≤ 4294967297
  r0 : 0 ≤ r
  r2 : r < 4294967296
  g : (u * 4294967296 + v) / (y1 * 4294967296 + y0) ≤ q
theorem ediv_le_of {n d q : Int} (hd : 0 < d) (h : n < (q + 1) * d) : n / d ≤ q := by
  have := (Int.ediv_lt_iff_lt_mul hd (a := n) (b := q + 1)).2 h
  omega
theorem le_ediv_of {n d q : Int} (hd : 0 < d) (h : q * d ≤ n) : q ≤ n / d := (Int.le_ediv_iff_mul_le hd).2 h
section
variable {y1 y0 u v q r : Int}
theorem dv_start (h1 : 2147483648 ≤ y1) (h2 : y1 < 4294967296) (h3 : 0 ≤ y0) (h4 : y0 < 4294967296) (hu0 : 0 ≤ u) (hu : u < y1 * 4294967296 + y0) (_hv0 : 0 ≤ v) (hv : v < 4294967296) :
    DvS y1 y0 u v (u / y1) (u - u / y1 * y1) := by
  have e := Int.mul_ediv_add_emod u y1
  have m0 := Int.emod_nonneg u (show y1 ≠ 0 by omega)
  have m1 := Int.emod_lt_of_pos u (show 0 < y1 by omega)
  have p0 : 0 ≤ u / y1 := Int.ediv_nonneg hu0 (by omega)
  generalize u % y1 = m at *
  generalize u / y1 = q at *
  have e' : q * y1 = y1 * q := Int.mul_comm _ _
  refine ⟨by omega, p0, ?_, by omega, by omega, ediv_le_of (by omega) ?_⟩
  · refine Int.not_lt.1 fun hl => ?_
    have : y1 * 4294967298 ≤ y1 * q := Int.mul_le_mul_of_nonneg_left (by omega) (by omega)
    omega
  · have a : 0 ≤ (q + 1) * y0 := Int.mul_nonneg (by omega) h3
    have b : (q + 1) * (y1 * 4294967296 + y0) = (y1 * q + y1) * 4294967296 + (q + 1) * y0 := by grind
    omega
theorem dv_more (h : DvS y1 y0 u v q r) (h1 : 2147483648 ≤ y1) (h2 : y1 < 4294967296) (h3 : 0 ≤ y0) (h4 : y0 < 4294967296) (hu : u < y1 * 4294967296 + y0) (hv0 : 0 ≤ v) (hv : v < 4294967296)
    (ht : 4294967296 ≤ q ∨ 4294967296 * r + v < q * y0) : 1 ≤ q ∧ (r + y1 < 4294967296 → DvS y1 y0 u v (q - 1) (r + y1)) ∧ (4294967296 ≤ r + y1 → q - 1 = (u * 4294967296 + v) / (y1 * 4294967296 + y0)) := by
  have hY : 0 < y1 * 4294967296 + y0 := by omega
  have e := h.e
  have q1 : 1 ≤ q := by
    rcases ht with ht | ht
    · omega
    · refine Int.not_lt.1 fun hl => ?_
      have : q = 0 := by have := h.q0; omega
      have := h.r0
      grind
  have G : (u * 4294967296 + v) / (y1 * 4294967296 + y0) ≤ q - 1 := by
    refine ediv_le_of hY ?_
    rcases ht with ht | ht
    · have : 4294967296 * (y1 * 4294967296 + y0) ≤ q * (y1 * 4294967296 + y0) := Int.mul_le_mul_of_nonneg_right ht (by omega)
      rw [show q - 1 + 1 = q by omega]
      omega
    · have : (q - 1 + 1) * (y1 * 4294967296 + y0) = q * y1 * 4294967296 + q * y0 := by grind
      omega
  have e' : (q - 1) * y1 = q * y1 - y1 := by rw [Int.sub_mul]; omega
  refine ⟨q1, fun hr => ⟨by omega, by omega, by have := h.q2; omega, by have := h.r0; omega, hr, G⟩, fun hr => Int.le_antisymm (le_ediv_of hY ?_) G⟩
  have hq : q - 1 ≤ 4294967295 := by
    refine Int.not_lt.1 fun hl => ?_
    have := h.q2
    have hq : q = 4294967297 := by omega
    rw [hq] at e
    omega
  have a : (q - 1) * y0 ≤ 4294967295 * 4294967295 := Int.mul_le_mul hq (by omega) h3 (by omega)
  have b : (q - 1) * (y1 * 4294967296 + y0) = (q - 1) * y1 * 4294967296 + (q - 1) * y0 := by grind
  have := h.r0
  omega
theorem dv_stop (h : DvS y1 y0 u v q r) (h1 : 2147483648 ≤ y1) (h3 : 0 ≤ y0) (ht : ¬ (4294967296 ≤ q ∨ 4294967296 * r + v < q * y0)) : q = (u * 4294967296 + v) / (y1 * 4294967296 + y0) := by
  have hY : 0 < y1 * 4294967296 + y0 := by omega
  refine Int.le_antisymm (le_ediv_of hY ?_) h.g
  have b : q * (y1 * 4294967296 + y0) = q * y1 * 4294967296 + q * y0 := by grind
  have := h.e
  omega
end
/-- Both halves. -/
theorem dv_both {Y u v1 v0 : Int} (hY : 0 < Y) : (u * 4294967296 + v1) / Y * 4294967296 + ((u * 4294967296 + v1) % Y * 4294967296 + v0) / Y = (u * 18446744073709551616 + v1 * 4294967296 + v0) / Y := by
  have e := Int.mul_ediv_add_emod (u * 4294967296 + v1) Y
  generalize (u * 4294967296 + v1) / Y = q at *
  generalize (u * 4294967296 + v1) % Y = r at *
  have : u * 18446744073709551616 + v1 * 4294967296 + v0 = r * 4294967296 + v0 + (q * 4294967296) * Y := by grind
  rw [this, Int.add_mul_ediv_right _ _ (by omega)]
  omega
/-- The quotient's first guess, by the two highest limbs of the one and the highest of the other. -/
theorem guess_ge {U V u1 u0 v P : Nat} (hP : 0 < P) (hv : 0 < v) (hU : U < (u1 * 18446744073709551616 + u0 + 1) * P) (hV : v * P ≤ V) : U / V ≤ (u1 * 18446744073709551616 + u0) / v := by
  have hvP : 0 < v * P := Nat.mul_pos hv hP
  refine (Nat.le_div_iff_mul_le hv).2 ?_
  have a : U / V * (v * P) ≤ U := Nat.le_trans (Nat.mul_le_mul_left _ hV) (Nat.div_mul_le_self U V)
  have b : U / V * v * P < (u1 * 18446744073709551616 + u0 + 1) * P := by rw [Nat.mul_assoc]; omega
  have := Nat.lt_of_mul_lt_mul_right b
  omega
/-- A row taken off so far: t the old limbs' number below place k, X the subtrahend's, b how often. -/
def Took (T X b P o c : Nat) : Prop := o + X * b = T + P * c
theorem took_step {T X b P o c x t s d l h : Nat} (hk : Took T X b P o c) (hp : x * b + c = l + 18446744073709551616 * h) (hs : s + l = t + 18446744073709551616 * d) :
    Took (T + P * t) (X + P * x) b (18446744073709551616 * P) (o + P * s) (h + d) := by
  unfold Took at *
  have e1 : P * s + P * l = P * t + P * (18446744073709551616 * d) := by rw [← Nat.mul_add, hs, Nat.mul_add]
  have e2 : P * (x * b) + P * c = P * l + P * (18446744073709551616 * h) := by rw [← Nat.mul_add, hp, Nat.mul_add]
  have e3 : (X + P * x) * b = X * b + P * (x * b) := by rw [Nat.add_mul, Nat.mul_assoc]
  have e4 : 18446744073709551616 * P * (h + d) = P * (18446744073709551616 * h) + P * (18446744073709551616 * d) := by
    rw [Nat.mul_comm 18446744073709551616 P, Nat.mul_assoc, Nat.mul_add, Nat.mul_add]
  omega
theorem took_over {T X b P o c t s d : Nat} (hk : Took T X b P o c) (hs : s + c = t + 18446744073709551616 * d) :
    Took (T + P * t) X b (18446744073709551616 * P) (o + P * s) d := by
  unfold Took at *
  have e1 : P * s + P * c = P * t + P * (18446744073709551616 * d) := by rw [← Nat.mul_add, hs, Nat.mul_add]
  have e4 : 18446744073709551616 * P * d = P * (18446744073709551616 * d) := by rw [Nat.mul_comm 18446744073709551616 P, Nat.mul_assoc]
  omega
/-- What is carried stays a limb. -/
theorem took_carry {x b c l h t : Nat} (hx : x < 18446744073709551616) (hb : b < 18446744073709551616) (hc : c < 18446744073709551616) (hp : x * b + c = l + 18446744073709551616 * h) (hl : l < 18446744073709551616) : h + (if t < l then 1 else 0) < 18446744073709551616 := by
  have : x * b ≤ 18446744073709551615 * 18446744073709551615 := Nat.mul_le_mul (by omega) (by omega)
  split <;> omega
/-- One place of a quotient: what is left of the whole, below the divisor at that place. -/
theorem div_place {V j X lo U Z : Nat} (hX : X = lo + 2 ^ j * U) (hlo : lo < 2 ^ j) (hZ : Z = lo + 2 ^ j * (U % V)) (hV : 0 < V) : Z < V * 2 ^ j ∧ Z + V * (U / V * 2 ^ j) = X := by
  have m := Nat.mod_lt U hV
  have e := Nat.mod_add_div U V
  have a : 2 ^ j * (U % V + 1) ≤ 2 ^ j * V := Nat.mul_le_mul_left _ m
  rw [Nat.mul_add, Nat.mul_one] at a
  refine ⟨by rw [Nat.mul_comm V]; omega, ?_⟩
  have b : V * (U / V * 2 ^ j) = 2 ^ j * (V * (U / V)) := by rw [← Nat.mul_assoc, Nat.mul_comm]
  have c : 2 ^ j * (U % V) + 2 ^ j * (V * (U / V)) = 2 ^ j * U := by rw [← Nat.mul_add, e]
  omega
end Go.Proofs.YtnclddfljghebaaGreatDoor
