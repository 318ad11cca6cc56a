/- Limbs of 64 bits as one whole number: its bits from a place on, its length, its noughts at the end; no program in this text. -/
import Derived.WalkKit
import Derived.Lib.TrailingZeros
namespace Go.Proofs.YtokfkooffbihcaaDoor

/-- The whole number of limbs, the lowest first. -/
def vl : List Nat → Nat
  | [] => 0
  | x :: xs => x + 18446744073709551616 * vl xs
/-- Each is a limb. -/
def Lm (xs : List Nat) : Prop := ∀ x ∈ xs, x < 18446744073709551616
/-- The n lowest limbs of a number. -/
def tl (n v : Nat) : List Nat := (List.range n).map fun i => v / 2 ^ (64 * i) % 18446744073709551616

theorem p64 : (2 : Nat) ^ 64 = 18446744073709551616 := rfl
theorem pow64_succ (n : Nat) : 2 ^ (64 * (n + 1)) = 18446744073709551616 * 2 ^ (64 * n) := by
  rw [show 64 * (n + 1) = 64 + 64 * n by omega, Nat.pow_add, p64]
theorem Lm.tail {x : Nat} {xs : List Nat} (h : Lm (x :: xs)) : x < 18446744073709551616 ∧ Lm xs := ⟨h x (by simp), fun y hy => h y (by simp [hy])⟩
theorem Lm.getD {xs : List Nat} (h : Lm xs) (i : Nat) : xs.getD i 0 < 18446744073709551616 := by
  rw [List.getD_eq_getElem?_getD]
  by_cases hi : i < xs.length
  · rw [List.getElem?_eq_getElem hi]; exact h _ (List.getElem_mem hi)
  · rw [List.getElem?_eq_none (by omega)]; simp
theorem vl_lt : ∀ {xs : List Nat}, Lm xs → vl xs < 2 ^ (64 * xs.length)
  | [], _ => by simp [vl]
  | x :: xs, h => by
    have h1 := h.tail
    have h2 := vl_lt h1.2
    rw [List.length_cons, pow64_succ, vl]
    omega
theorem vl_append : ∀ (xs ys : List Nat), vl (xs ++ ys) = vl xs + 2 ^ (64 * xs.length) * vl ys
  | [], ys => by simp [vl]
  | x :: xs, ys => by
    rw [List.cons_append, vl, vl, vl_append xs ys, List.length_cons, pow64_succ, Nat.mul_add, Nat.mul_assoc]
    omega
theorem vl_digit : ∀ {xs : List Nat}, Lm xs → ∀ i, xs.getD i 0 = vl xs / 2 ^ (64 * i) % 18446744073709551616
  | [], _, i => by simp [vl]
  | x :: xs, h, 0 => by
    have h1 := h.tail
    simp only [List.getD_cons_zero, vl, Nat.mul_zero, Nat.pow_zero, Nat.div_one]
    omega
  | x :: xs, h, i + 1 => by
    have h1 := h.tail
    rw [List.getD_cons_succ, vl_digit h1.2 i, pow64_succ, ← Nat.div_div_eq_div_mul, vl]
    rw [show (x + 18446744073709551616 * vl xs) / 18446744073709551616 = vl xs by omega]

theorem tl_length (n v : Nat) : (tl n v).length = n := by simp [tl]
theorem tl_lm (n v : Nat) : Lm (tl n v) := by
  intro x hx
  simp only [tl, List.mem_map] at hx
  obtain ⟨i, _, rfl⟩ := hx
  exact Nat.mod_lt _ (by omega)
theorem tl_getD {n v i : Nat} (h : i < n) : (tl n v).getD i 0 = v / 2 ^ (64 * i) % 18446744073709551616 := by
  simp [tl, List.getD_eq_getElem?_getD, h]
theorem tl_succ (n v : Nat) : tl (n + 1) v = tl n v ++ [v / 2 ^ (64 * n) % 18446744073709551616] := by simp [tl, List.range_succ]
theorem vl_tl (n v : Nat) : vl (tl n v) = v % 2 ^ (64 * n) := by
  induction n with
  | zero => simp [tl, vl, Nat.mod_one]
  | succ n ih =>
    rw [tl_succ, vl_append, ih, tl_length, pow64_succ, Nat.mul_comm 18446744073709551616, Nat.mod_mul]
    simp [vl]
theorem tl_vl {xs : List Nat} (h : Lm xs) : tl xs.length (vl xs) = xs := by
  apply List.ext_getElem (tl_length _ _)
  intro i h1 h2
  have a := tl_getD (v := vl xs) h2
  have b := vl_digit h i
  rw [List.getD_eq_getElem?_getD, List.getElem?_eq_getElem h1] at a
  rw [List.getD_eq_getElem?_getD, List.getElem?_eq_getElem h2] at b
  simp only [Option.getD_some] at a b
  omega
theorem vl_inj {xs ys : List Nat} (hx : Lm xs) (hy : Lm ys) (hl : xs.length = ys.length) (hv : vl xs = vl ys) : xs = ys := by
  rw [← tl_vl hx, ← tl_vl hy, hl, hv]
theorem Lm.snoc {xs : List Nat} {x : Nat} (h : Lm xs) (hx : x < 18446744073709551616) : Lm (xs ++ [x]) := by
  intro y hy
  rw [List.mem_append, List.mem_singleton] at hy
  rcases hy with hy | rfl
  · exact h y hy
  · exact hx
theorem Lm.take {xs : List Nat} (h : Lm xs) (n : Nat) : Lm (xs.take n) := fun y hy => h y (List.mem_of_mem_take hy)
theorem take_snoc {xs : List Nat} {k : Nat} (h : k < xs.length) : xs.take (k + 1) = xs.take k ++ [xs.getD k 0] := by
  rw [List.take_succ_eq_append_getElem h, List.getD_eq_getElem?_getD, List.getElem?_eq_getElem h]; rfl
theorem vl_take_succ {xs : List Nat} {k : Nat} (h : k < xs.length) : vl (xs.take (k + 1)) = vl (xs.take k) + 2 ^ (64 * k) * xs.getD k 0 := by
  rw [take_snoc h, vl_append, List.length_take, Nat.min_eq_left (by omega)]
  simp [vl]
theorem vl_take_lt {xs : List Nat} (h : Lm xs) (k : Nat) : vl (xs.take k) < 2 ^ (64 * k) := by
  refine Nat.lt_of_lt_of_le (vl_lt (h.take k)) (Nat.pow_le_pow_right (by omega) ?_)
  rw [List.length_take]; omega
theorem vl_split (xs : List Nat) (k : Nat) (h : k ≤ xs.length) : vl xs = vl (xs.take k) + 2 ^ (64 * k) * vl (xs.drop k) := by
  have := vl_append (xs.take k) (xs.drop k)
  rw [List.take_append_drop, List.length_take, Nat.min_eq_left h] at this
  exact this
theorem vl_zero {xs : List Nat} (h : ∀ i, i < xs.length → xs.getD i 0 = 0) : vl xs = 0 := by
  induction xs with
  | nil => rfl
  | cons x xs ih =>
    have h0 := h 0 (by simp)
    have h1 := ih (fun i hi => by have := h (i + 1) (by simp; omega); simpa using this)
    rw [vl, h1]
    simpa using h0

/-- A number's bits from a place on, below its end too. -/
def shr (v : Nat) (low : Int) : Nat := if 0 ≤ low then v / 2 ^ low.toNat else v * 2 ^ (-low).toNat
/-- 64 of them. -/
def win (v : Nat) (low : Int) : Nat := shr v low % 18446744073709551616
/-- The limb i, noughts beyond them. -/
def lmb (xs : List Nat) (i : Int) : Nat := if i < 0 then 0 else xs.getD i.toNat 0
theorem lmb_lt {xs : List Nat} (h : Lm xs) (i : Int) : lmb xs i < 18446744073709551616 := by
  unfold lmb; split
  · omega
  · exact h.getD _
theorem win_lt (v : Nat) (low : Int) : win v low < 18446744073709551616 := Nat.mod_lt _ (by omega)

theorem win_core (U P Q : Nat) (h : P * Q = 18446744073709551616) (hP : 0 < P) (hQ : 0 < Q) :
    U % 18446744073709551616 / P + U / 18446744073709551616 % 18446744073709551616 * Q % 18446744073709551616 = U / P % 18446744073709551616 ∧ U % 18446744073709551616 / P < Q ∧ ∃ k, U / 18446744073709551616 % 18446744073709551616 * Q % 18446744073709551616 = Q * k := by
  have e1 : U = U % (P * Q) + P * (Q * (U / (P * Q))) := by rw [← Nat.mul_assoc]; exact (Nat.mod_add_div U (P * Q)).symm
  have e2 : U / P = U % (P * Q) / P + Q * (U / (P * Q)) := by
    conv => lhs; rw [e1]
    exact Nat.add_mul_div_left _ _ hP
  have h3 : U % (P * Q) / P < Q := Nat.div_lt_of_lt_mul (Nat.mod_lt _ (Nat.mul_pos hP hQ))
  have h4 : U / (P * Q) % (P * Q) * Q % (P * Q) = Q * (U / (P * Q) % P) := by
    rw [Nat.mod_mul_mod, Nat.mul_comm P Q, Nat.mul_comm _ Q, Nat.mul_mod_mul_left]
  have h5 : (U % (P * Q) / P + Q * (U / (P * Q))) % (P * Q) = U % (P * Q) / P + Q * (U / (P * Q) % P) := by
    have e3 : Q * (U / (P * Q)) = Q * (U / (P * Q) % P) + P * Q * (U / (P * Q) / P) := by
      conv => lhs; rw [← Nat.mod_add_div (U / (P * Q)) P]
      rw [Nat.mul_add, ← Nat.mul_assoc Q P, Nat.mul_comm Q P]
    rw [e3, ← Nat.add_assoc, Nat.add_mul_mod_self_left, Nat.mod_eq_of_lt]
    have : U / (P * Q) % P < P := Nat.mod_lt _ hP
    calc U % (P * Q) / P + Q * (U / (P * Q) % P) < Q + Q * (U / (P * Q) % P) := by omega
      _ = Q * (U / (P * Q) % P + 1) := by rw [Nat.mul_add, Nat.mul_one, Nat.add_comm]
      _ ≤ Q * P := Nat.mul_le_mul_left _ this
      _ = P * Q := Nat.mul_comm _ _
  rw [← h]
  exact ⟨by rw [h4, e2, h5], h3, _, h4⟩

/-- The window as the program makes it: two limbs, shifted, laid together. -/
theorem win_two {xs : List Nat} (h : Lm xs) (i : Int) (o : Nat) (ho : o < 64) :
    lmb xs i / 2 ^ o + lmb xs (i + 1) * 2 ^ (64 - o) % 18446744073709551616 = win (vl xs) (64 * i + o) ∧ lmb xs i / 2 ^ o < 2 ^ (64 - o) ∧ ∃ k, lmb xs (i + 1) * 2 ^ (64 - o) % 18446744073709551616 = 2 ^ (64 - o) * k := by
  have hPQ : 2 ^ o * 2 ^ (64 - o) = 18446744073709551616 := by rw [← Nat.pow_add, show o + (64 - o) = 64 by omega, p64]
  have hP := Nat.two_pow_pos o
  have hQ := Nat.two_pow_pos (64 - o)
  by_cases hi : 0 ≤ i
  · obtain ⟨n, rfl⟩ : ∃ n : Nat, i = n := ⟨i.toNat, by omega⟩
    have c := win_core (vl xs / 2 ^ (64 * n)) _ _ hPQ hP hQ
    have d1 := vl_digit h n
    have d2 := vl_digit h (n + 1)
    rw [pow64_succ, Nat.mul_comm 18446744073709551616, ← Nat.div_div_eq_div_mul] at d2
    have l1 : lmb xs (n : Int) = xs.getD n 0 := by unfold lmb; rw [if_neg (by omega), Int.toNat_natCast]
    have l2 : lmb xs ((n : Int) + 1) = xs.getD (n + 1) 0 := by unfold lmb; rw [if_neg (by omega), show ((n : Int) + 1).toNat = n + 1 by omega]
    rw [l1, l2, d1, d2]
    have hw : win (vl xs) (64 * (n : Int) + o) = vl xs / 2 ^ (64 * n) / 2 ^ o % 18446744073709551616 := by
      unfold win shr
      rw [if_pos (by omega), show (64 * (n : Int) + o).toNat = 64 * n + o by omega, Nat.pow_add, Nat.div_div_eq_div_mul]
    rw [hw]
    exact c
  · have l1 : lmb xs i = 0 := by unfold lmb; rw [if_pos (by omega)]
    rw [l1, Nat.zero_div, Nat.zero_add]
    refine ⟨?_, hQ, ?_⟩
    · unfold win shr
      rw [if_neg (by omega)]
      by_cases hj : i = -1
      · subst hj
        have l2 : lmb xs (-1 + 1) = xs.getD 0 0 := by unfold lmb; rw [if_neg (by omega)]; rfl
        rw [l2, vl_digit h 0, show (-(64 * (-1 : Int) + o)).toNat = 64 - o by omega, Nat.mul_zero, Nat.pow_zero, Nat.div_one, Nat.mod_mul_mod]
      · have l2 : lmb xs (i + 1) = 0 := by unfold lmb; rw [if_pos (by omega)]
        rw [l2, Nat.zero_mul]
        obtain ⟨d, hd⟩ : ∃ d, (-(64 * i + o)).toNat = 64 + d := ⟨(-(64 * i + o)).toNat - 64, by omega⟩
        rw [hd, Nat.pow_add, p64, ← Nat.mul_assoc, Nat.mul_right_comm, Nat.mul_mod_left]
    · have : 2 ^ (64 - o) ∣ lmb xs (i + 1) * 2 ^ (64 - o) % 18446744073709551616 := by
        rw [← hPQ]
        exact (Nat.dvd_mod_iff (Nat.dvd_mul_left _ _)).2 (Nat.dvd_mul_left _ _)
      obtain ⟨k, hk⟩ := this
      exact ⟨k, hk⟩

/-- The number of bits up to the highest one. -/
def bl (v : Nat) : Nat := if v = 0 then 0 else v.log2 + 1
theorem bl_zero : bl 0 = 0 := rfl
theorem bl_spec {v : Nat} (h : v ≠ 0) : 2 ^ (bl v - 1) ≤ v ∧ v < 2 ^ bl v ∧ 1 ≤ bl v := by
  unfold bl; rw [if_neg h]
  exact ⟨by simpa using Nat.log2_self_le h, Nat.lt_log2_self, by omega⟩
theorem bl_of {v n : Nat} (h1 : 2 ^ n ≤ v) (h2 : v < 2 ^ (n + 1)) : bl v = n + 1 := by
  have h0 : v ≠ 0 := by have := Nat.two_pow_pos n; omega
  unfold bl
  rw [if_neg h0, (Nat.log2_eq_iff h0).2 ⟨h1, h2⟩]
theorem bl_le_iff {v n : Nat} : bl v ≤ n ↔ v < 2 ^ n := by
  by_cases h : v = 0
  · subst h; simp [bl, Nat.two_pow_pos]
  · unfold bl; rw [if_neg h, ← Nat.log2_lt h]; omega
theorem bl_pos {v : Nat} (h : v ≠ 0) : 0 < bl v := by have := (bl_spec h).2.2; omega
theorem bl_mul_pow {v k : Nat} (h : v ≠ 0) : bl (v * 2 ^ k) = bl v + k := by
  obtain ⟨a, b, c⟩ := bl_spec h
  have e : bl v + k = (bl v - 1 + k) + 1 := by omega
  rw [e]
  apply bl_of
  · rw [Nat.pow_add]; exact Nat.mul_le_mul_right _ a
  · rw [show bl v - 1 + k + 1 = bl v + k by omega, Nat.pow_add]; exact Nat.mul_lt_mul_of_pos_right b (Nat.two_pow_pos _)
theorem bl_join {a b n : Nat} (ha : a < 2 ^ n) (hb : b ≠ 0) : bl (a + 2 ^ n * b) = n + bl b := by
  obtain ⟨p, q, r⟩ := bl_spec hb
  have e : n + bl b = (n + (bl b - 1)) + 1 := by omega
  rw [e]
  apply bl_of
  · rw [Nat.pow_add]
    have := Nat.mul_le_mul_left (2 ^ n) p
    omega
  · rw [show n + (bl b - 1) + 1 = n + bl b by omega, Nat.pow_add]
    have : 2 ^ n * (b + 1) ≤ 2 ^ n * 2 ^ bl b := Nat.mul_le_mul_left _ q
    rw [Nat.mul_add, Nat.mul_one] at this
    omega
theorem bl_div {v k : Nat} : bl (v / 2 ^ k) = bl v - k := by
  by_cases h : v / 2 ^ k = 0
  · rw [h, bl_zero]
    have := (Nat.div_eq_zero_iff.1 h)
    have hp := Nat.two_pow_pos k
    have : v < 2 ^ k := by omega
    have := bl_le_iff.2 this
    omega
  · have hm := Nat.mod_add_div v (2 ^ k)
    have := bl_join (Nat.mod_lt v (Nat.two_pow_pos k)) h
    rw [hm] at this
    omega

/-- The number of noughts below the lowest one that is set; 0 of 0. -/
def tz (v : Nat) : Nat := if v = 0 then 0 else Lib.ctzFrom (bl v) v
theorem tz_zero : tz 0 = 0 := rfl
theorem tz_spec {v : Nat} (h : v ≠ 0) : ∃ m, v = 2 ^ tz v * (2 * m + 1) := by
  obtain ⟨m, hm, _⟩ := Lib.ctzFrom_spec (bl v) v (by omega) (bl_spec h).2.1
  unfold tz; rw [if_neg h]
  exact ⟨m, hm⟩
theorem two_pow_odd {a b m n : Nat} (h : 2 ^ a * (2 * m + 1) = 2 ^ b * (2 * n + 1)) : a = b ∧ m = n := by
  induction a generalizing b with
  | zero =>
    cases b with
    | zero => simp at h; omega
    | succ b => rw [Nat.pow_succ, Nat.mul_comm (2 ^ b) 2, Nat.mul_assoc] at h; simp at h; omega
  | succ a ih =>
    cases b with
    | zero => rw [Nat.pow_succ, Nat.mul_comm (2 ^ a) 2, Nat.mul_assoc] at h; simp at h; omega
    | succ b =>
      rw [Nat.pow_succ, Nat.mul_comm (2 ^ a) 2, Nat.mul_assoc, Nat.pow_succ, Nat.mul_comm (2 ^ b) 2, Nat.mul_assoc] at h
      have := ih (b := b) (by omega)
      omega
theorem tz_of (k m : Nat) : tz (2 ^ k * (2 * m + 1)) = k := by
  have h0 : 2 ^ k * (2 * m + 1) ≠ 0 := by have := Nat.mul_pos (Nat.two_pow_pos k) (show 0 < 2 * m + 1 by omega); omega
  obtain ⟨n, hn⟩ := tz_spec h0
  exact (two_pow_odd hn).1.symm
theorem odd_form {v : Nat} (h : v % 2 = 1) : v = 2 * (v / 2) + 1 := by omega
theorem tz_odd {v : Nat} (h : v % 2 = 1) : tz v = 0 := by
  have := tz_of 0 (v / 2)
  rwa [Nat.pow_zero, Nat.one_mul, ← odd_form h] at this
theorem tz_mul_pow {v k : Nat} (h : v ≠ 0) : tz (v * 2 ^ k) = tz v + k := by
  obtain ⟨m, hm⟩ := tz_spec h
  have : v * 2 ^ k = 2 ^ (tz v + k) * (2 * m + 1) := by
    conv => lhs; rw [hm]
    rw [Nat.pow_add, Nat.mul_right_comm]
  rw [this, tz_of]
theorem tz_div {v : Nat} (h : v ≠ 0) : v / 2 ^ tz v % 2 = 1 ∧ v = v / 2 ^ tz v * 2 ^ tz v := by
  obtain ⟨m, hm⟩ := tz_spec h
  have e : v / 2 ^ tz v = 2 * m + 1 := by
    conv => lhs; rw [hm]
    rw [tz_of, Nat.mul_div_cancel_left _ (Nat.two_pow_pos _)]
  rw [e]
  exact ⟨by omega, by rw [Nat.mul_comm]; exact hm⟩
theorem tz_lt_bl {v : Nat} (h : v ≠ 0) : tz v < bl v := by
  obtain ⟨m, hm⟩ := tz_spec h
  have h2 := (bl_spec h).2.1
  have h1 : 2 ^ tz v ≤ v := by
    conv => rhs; rw [hm]
    exact Nat.le_mul_of_pos_right _ (by omega)
  exact (Nat.pow_lt_pow_iff_right (by omega : 1 < 2)).1 (Nat.lt_of_le_of_lt h1 h2)
theorem tz_join {a b n : Nat} (ha : a < 2 ^ n) (h0 : a ≠ 0) : tz (a + 2 ^ n * b) = tz a := by
  obtain ⟨m, hm⟩ := tz_spec h0
  have hl : tz a < n := by
    have h1 : 2 ^ tz a ≤ a := by
      conv => rhs; rw [hm]
      exact Nat.le_mul_of_pos_right _ (by omega)
    exact (Nat.pow_lt_pow_iff_right (by omega : 1 < 2)).1 (Nat.lt_of_le_of_lt h1 ha)
  obtain ⟨d, hd⟩ : ∃ d, n = tz a + (d + 1) := ⟨n - tz a - 1, by omega⟩
  have e : a + 2 ^ n * b = 2 ^ tz a * (2 * (m + 2 ^ d * b) + 1) := by
    have e1 : 2 ^ n * b = 2 ^ tz a * (2 * (2 ^ d * b)) := by
      rw [hd, Nat.pow_add, Nat.pow_succ, Nat.mul_comm (2 ^ d) 2]
      simp only [Nat.mul_assoc]
    conv => lhs; rw [hm]
    rw [e1, ← Nat.mul_add]
    congr 1
    omega
  rw [e, tz_of]
theorem ctz_tz {x : Nat} (h : x < 18446744073709551616) (h0 : x ≠ 0) : Lib.ctz 64 x = tz x := by
  obtain ⟨m, hm, _⟩ := Lib.ctzFrom_spec 64 x (by omega) (by omega)
  unfold Lib.ctz; rw [if_neg h0]
  have := tz_of (Lib.ctzFrom 64 x) m
  rw [← hm] at this
  exact this.symm

/-- The limbs that a number needs. -/
def nl (v : Nat) : Nat := (bl v + 63) / 64
/-- A number in just the limbs that it needs. -/
def lo (v : Nat) : List Nat := tl (nl v) v
theorem nl_fits (v : Nat) : v < 2 ^ (64 * nl v) := by
  have : bl v ≤ 64 * nl v := by unfold nl; omega
  exact bl_le_iff.1 this
theorem vl_lo (v : Nat) : vl (lo v) = v := by unfold lo; rw [vl_tl, Nat.mod_eq_of_lt (nl_fits v)]
theorem lo_length (v : Nat) : (lo v).length = nl v := tl_length _ _
theorem lo_lm (v : Nat) : Lm (lo v) := tl_lm _ _
theorem lo_zero : lo 0 = [] := rfl
/-- Limbs whose last one is not 0 are just as many as needed. -/
theorem lo_vl {xs : List Nat} (h : Lm xs) (hlast : xs.length = 0 ∨ xs.getD (xs.length - 1) 0 ≠ 0) : lo (vl xs) = xs := by
  have e : nl (vl xs) = xs.length := by
    rcases hlast with h0 | h0
    · have : xs = [] := List.eq_nil_of_length_eq_zero h0
      subst this; rfl
    · by_cases hn : xs.length = 0
      · have : xs = [] := List.eq_nil_of_length_eq_zero hn
        subst this; rfl
      · have s := vl_take_succ (xs := xs) (k := xs.length - 1) (by omega)
        rw [show xs.length - 1 + 1 = xs.length by omega, List.take_length] at s
        have b := bl_join (vl_take_lt h (xs.length - 1)) h0
        rw [← s] at b
        have c := bl_spec h0
        have d : bl (xs.getD (xs.length - 1) 0) ≤ 64 := bl_le_iff.2 (h.getD _)
        unfold nl; omega
  unfold lo; rw [e, tl_vl h]
end Go.Proofs.YtokfkooffbihcaaDoor
