/- What is carried from digit to digit, in sums, differences, products, quotients, shifts: no program in this text. -/
import Derived.WalkKit
import Derived.Lib.TrailingZeros
namespace Go.Proofs.YtfipmopmpacdaaaGreatDoor
def vl : List Nat → Nat
 | [] => 0
 | x :: xs => x + 18446744073709551616 * vl xs
def Lm (xs : List Nat) : Prop := ∀ x ∈ xs, x < 18446744073709551616
def tl (n v : Nat) : List Nat := (List.range n).map fun i => v / 2 ^ (64 * i) % 18446744073709551616
theorem p64 : (2 : Nat) ^ 64 = 18446744073709551616 := rfl
theorem pow64_succ (n : Nat) : 2 ^ (64 * (n + 1)) = 18446744073709551616 * 2 ^ (64 * n) := by
 rw [show 64 * (n + 1) = 64 + 64 * n by omega, Nat.pow_add, p64]
theorem Lm.tail {x : Nat} {xs : List Nat} (h : Lm (x :: xs)) : x < 18446744073709551616 ∧ Lm xs := ⟨h x (by simp), fun y hy => h y (by simp [hy])⟩
theorem Lm.getD {xs : List Nat} (h : Lm xs) (i : Nat) : xs.getD i 0 < 18446744073709551616 := by
 rw [List.getD_eq_getElem?_getD]
 by_cases hi : i < xs.length
 ·rw [List.getElem?_eq_getElem hi]; exact h _ (List.getElem_mem hi)
 ·rw [List.getElem?_eq_none (by omega)]; simp
theorem vl_lt : ∀ {xs : List Nat}, Lm xs → vl xs < 2 ^ (64 * xs.length)
 | [], _ => by simp [vl]
 | x :: xs, h => by
  have h1 := h.tail
  have h2 := vl_lt h1.2
  rw [List.length_cons, pow64_succ, vl]
  omega
theorem vl_append : ∀ (xs ys : List Nat), vl (xs ++ ys) = vl xs + 2 ^ (64 * xs.length) * vl ys
 | [], ys => by simp [vl]
 | x :: xs, ys => by
  rw [List.cons_append, vl, vl, vl_append xs ys, List.length_cons, pow64_succ, Nat.mul_add, Nat.mul_assoc]
  omega
theorem vl_digit : ∀ {xs : List Nat}, Lm xs → ∀ i, xs.getD i 0 = vl xs / 2 ^ (64 * i) % 18446744073709551616
 | [], _, i => by simp [vl]
 | x :: xs, h, 0 => by
  have h1 := h.tail
  simp only [List.getD_cons_zero, vl, Nat.mul_zero, Nat.pow_zero, Nat.div_one]
  omega
 | x :: xs, h, i + 1 => by
  have h1 := h.tail
  rw [List.getD_cons_succ, vl_digit h1.2 i, pow64_succ, ← Nat.div_div_eq_div_mul, vl]
  rw [show (x + 18446744073709551616 * vl xs) / 18446744073709551616 = vl xs by omega]
theorem tl_length (n v : Nat) : (tl n v).length = n := by simp [tl]
theorem tl_lm (n v : Nat) : Lm (tl n v) := by
 intro x hx
 simp only [tl, List.mem_map] at hx
 obtain ⟨i, _, rfl⟩ := hx
 exact Nat.mod_lt _ (by omega)
theorem tl_getD {n v i : Nat} (h : i < n) : (tl n v).getD i 0 = v / 2 ^ (64 * i) % 18446744073709551616 := by
 simp [tl, List.getD_eq_getElem?_getD, h]
theorem tl_succ (n v : Nat) : tl (n + 1) v = tl n v ++ [v / 2 ^ (64 * n) % 18446744073709551616] := by simp [tl, List.range_succ]
theorem vl_tl (n v : Nat) : vl (tl n v) = v % 2 ^ (64 * n) := by
 induction n with
 | zero => simp [tl, vl, Nat.mod_one]
 | succ n ih =>
  rw [tl_succ, vl_append, ih, tl_length, pow64_succ, Nat.mul_comm 18446744073709551616, Nat.mod_mul]
  simp [vl]
theorem tl_vl {xs : List Nat} (h : Lm xs) : tl xs.length (vl xs) = xs := by
 apply List.ext_getElem (tl_length _ _)
 intro i h1 h2
 have a := tl_getD (v := vl xs) h2
 have b := vl_digit h i
 rw [List.getD_eq_getElem?_getD, List.getElem?_eq_getElem h1] at a
 rw [List.getD_eq_getElem?_getD, List.getElem?_eq_getElem h2] at b
 simp only [Option.getD_some] at a b
 omega
theorem Lm.snoc {xs : List Nat} {x : Nat} (h : Lm xs) (hx : x < 18446744073709551616) : Lm (xs ++ [x]) := by
 intro y hy
 rw [List.mem_append, List.mem_singleton] at hy
 rcases hy with hy | rfl
 ·exact h y hy
 ·exact hx
theorem Lm.take {xs : List Nat} (h : Lm xs) (n : Nat) : Lm (xs.take n) := fun y hy => h y (List.mem_of_mem_take hy)
theorem take_snoc {xs : List Nat} {k : Nat} (h : k < xs.length) : xs.take (k + 1) = xs.take k ++ [xs.getD k 0] := by
 rw [List.take_succ_eq_append_getElem h, List.getD_eq_getElem?_getD, List.getElem?_eq_getElem h]; rfl
theorem vl_take_succ {xs : List Nat} {k : Nat} (h : k < xs.length) : vl (xs.take (k + 1)) = vl (xs.take k) + 2 ^ (64 * k) * xs.getD k 0 := by
 rw [take_snoc h, vl_append, List.length_take, Nat.min_eq_left (by omega)]
 simp [vl]
theorem vl_take_lt {xs : List Nat} (h : Lm xs) (k : Nat) : vl (xs.take k) < 2 ^ (64 * k) := by
 refine Nat.lt_of_lt_of_le (vl_lt (h.take k)) (Nat.pow_le_pow_right (by omega) ?_)
 rw [List.length_take]; omega
theorem vl_split (xs : List Nat) (k : Nat) (h : k ≤ xs.length) : vl xs = vl (xs.take k) + 2 ^ (64 * k) * vl (xs.drop k) := by
 have := vl_append (xs.take k) (xs.drop k)
 rw [List.take_append_drop, List.length_take, Nat.min_eq_left h] at this
 exact this
theorem vl_zero {xs : List Nat} (h : ∀ i, i < xs.length → xs.getD i 0 = 0) : vl xs = 0 := by
 induction xs with
 | nil => rfl
 | cons x xs ih =>
  have h0 := h 0 (by simp)
  have h1 := ih (fun i hi => by have := h (i + 1) (by simp; omega); simpa using this)
  rw [vl, h1]
  simpa using h0
def shr (v : Nat) (low : Int) : Nat := if 0 ≤ low then v / 2 ^ low.toNat else v * 2 ^ (-low).toNat
def win (v : Nat) (low : Int) : Nat := shr v low % 18446744073709551616
def lmb (xs : List Nat) (i : Int) : Nat := if i < 0 then 0 else xs.getD i.toNat 0
theorem lmb_lt {xs : List Nat} (h : Lm xs) (i : Int) : lmb xs i < 18446744073709551616 := by
 unfold lmb; split
 ·omega
 ·exact h.getD _
theorem win_lt (v : Nat) (low : Int) : win v low < 18446744073709551616 := Nat.mod_lt _ (by omega)
theorem win_core (U P Q : Nat) (h : P * Q = 18446744073709551616) (hP : 0 < P) (hQ : 0 < Q) :
  U % 18446744073709551616 / P + U / 18446744073709551616 % 18446744073709551616 * Q % 18446744073709551616 = U / P % 18446744073709551616 ∧ U % 18446744073709551616 / P < Q ∧ ∃ k, U / 18446744073709551616 % 18446744073709551616 * Q % 18446744073709551616 = Q * k := by
 have e1 : U = U % (P * Q) + P * (Q * (U / (P * Q))) := by rw [← Nat.mul_assoc]; exact (Nat.mod_add_div U (P * Q)).symm
 have e2 : U / P = U % (P * Q) / P + Q * (U / (P * Q)) := by
  conv => lhs; rw [e1]
  exact Nat.add_mul_div_left _ _ hP
 have h3 : U % (P * Q) / P < Q := Nat.div_lt_of_lt_mul (Nat.mod_lt _ (Nat.mul_pos hP hQ))
 have h4 : U / (P * Q) % (P * Q) * Q % (P * Q) = Q * (U / (P * Q) % P) := by
  rw [Nat.mod_mul_mod, Nat.mul_comm P Q, Nat.mul_comm _ Q, Nat.mul_mod_mul_left]
 have h5 : (U % (P * Q) / P + Q * (U / (P * Q))) % (P * Q) = U % (P * Q) / P + Q * (U / (P * Q) % P) := by
  have e3 : Q * (U / (P * Q)) = Q * (U / (P * Q) % P) + P * Q * (U / (P * Q) / P) := by
   conv => lhs; rw [← Nat.mod_add_div (U / (P * Q)) P]
   rw [Nat.mul_add, ← Nat.mul_assoc Q P, Nat.mul_comm Q P]
  rw [e3, ← Nat.add_assoc, Nat.add_mul_mod_self_left, Nat.mod_eq_of_lt]
  have : U / (P * Q) % P < P := Nat.mod_lt _ hP
  calc U % (P * Q) / P + Q * (U / (P * Q) % P) < Q + Q * (U / (P * Q) % P) := by omega
   _ = Q * (U / (P * Q) % P + 1) := by rw [Nat.mul_add, Nat.mul_one, Nat.add_comm]
   _ ≤ Q * P := Nat.mul_le_mul_left _ this
   _ = P * Q := Nat.mul_comm _ _
 rw [← h]
 exact ⟨by rw [h4, e2, h5], h3, _, h4⟩
theorem win_two {xs : List Nat} (h : Lm xs) (i : Int) (o : Nat) (ho : o < 64) :
  lmb xs i / 2 ^ o + lmb xs (i + 1) * 2 ^ (64 - o) % 18446744073709551616 = win (vl xs) (64 * i + o) ∧ lmb xs i / 2 ^ o < 2 ^ (64 - o) ∧ ∃ k, lmb xs (i + 1) * 2 ^ (64 - o) % 18446744073709551616 = 2 ^ (64 - o) * k := by
 have hPQ : 2 ^ o * 2 ^ (64 - o) = 18446744073709551616 := by rw [← Nat.pow_add, show o + (64 - o) = 64 by omega, p64]
 have hP := Nat.two_pow_pos o
 have hQ := Nat.two_pow_pos (64 - o)
 by_cases hi : 0 ≤ i
 ·obtain ⟨n, rfl⟩ : ∃ n : Nat, i = n := ⟨i.toNat, by omega⟩
  have c := win_core (vl xs / 2 ^ (64 * n)) _ _ hPQ hP hQ
  have d1 := vl_digit h n
  have d2 := vl_digit h (n + 1)
  rw [pow64_succ, Nat.mul_comm 18446744073709551616, ← Nat.div_div_eq_div_mul] at d2
  have l1 : lmb xs (n : Int) = xs.getD n 0 := by unfold lmb; rw [if_neg (by omega), Int.toNat_natCast]
  have l2 : lmb xs ((n : Int) + 1) = xs.getD (n + 1) 0 := by unfold lmb; rw [if_neg (by omega), show ((n : Int) + 1).toNat = n + 1 by omega]
  rw [l1, l2, d1, d2]
  have hw : win (vl xs) (64 * (n : Int) + o) = vl xs / 2 ^ (64 * n) / 2 ^ o % 18446744073709551616 := by
   unfold win shr
   rw [if_pos (by omega), show (64 * (n : Int) + o).toNat = 64 * n + o by omega, Nat.pow_add, Nat.div_div_eq_div_mul]
  rw [hw]
  exact c
 ·have l1 : lmb xs i = 0 := by unfold lmb; rw [if_pos (by omega)]
  rw [l1, Nat.zero_div, Nat.zero_add]
  refine ⟨?_, hQ, ?_⟩
  ·unfold win shr
   rw [if_neg (by omega)]
   by_cases hj : i = -1
   ·subst hj
    have l2 : lmb xs (-1 + 1) = xs.getD 0 0 := by unfold lmb; rw [if_neg (by omega)]; rfl
    rw [l2, vl_digit h 0, show (-(64 * (-1 : Int) + o)).toNat = 64 - o by omega, Nat.mul_zero, Nat.pow_zero, Nat.div_one, Nat.mod_mul_mod]
   ·have l2 : lmb xs (i + 1) = 0 := by unfold lmb; rw [if_pos (by omega)]
    rw [l2, Nat.zero_mul]
    obtain ⟨d, hd⟩ : ∃ d, (-(64 * i + o)).toNat = 64 + d := ⟨(-(64 * i + o)).toNat - 64, by omega⟩
    rw [hd, Nat.pow_add, p64, ← Nat.mul_assoc, Nat.mul_right_comm, Nat.mul_mod_left]
  ·have : 2 ^ (64 - o) ∣ lmb xs (i + 1) * 2 ^ (64 - o) % 18446744073709551616 := by
    rw [← hPQ]
    exact (Nat.dvd_mod_iff (Nat.dvd_mul_left _ _)).2 (Nat.dvd_mul_left _ _)
   obtain ⟨k, hk⟩ := this
   exact ⟨k, hk⟩
def bl (v : Nat) : Nat := if v = 0 then 0 else v.log2 + 1
theorem bl_zero : bl 0 = 0 := rfl
theorem bl_spec {v : Nat} (h : v ≠ 0) : 2 ^ (bl v - 1) ≤ v ∧ v < 2 ^ bl v ∧ 1 ≤ bl v := by
 unfold bl; rw [if_neg h]
 exact ⟨by simpa using Nat.log2_self_le h, Nat.lt_log2_self, by omega⟩
theorem bl_of {v n : Nat} (h1 : 2 ^ n ≤ v) (h2 : v < 2 ^ (n + 1)) : bl v = n + 1 := by
 have h0 : v ≠ 0 := by have := Nat.two_pow_pos n; omega
 unfold bl
 rw [if_neg h0, (Nat.log2_eq_iff h0).2 ⟨h1, h2⟩]
theorem bl_le_iff {v n : Nat} : bl v ≤ n ↔ v < 2 ^ n := by
 by_cases h : v = 0
 ·subst h; simp [bl, Nat.two_pow_pos]
 ·unfold bl; rw [if_neg h, ← Nat.log2_lt h]; omega
theorem bl_pos {v : Nat} (h : v ≠ 0) : 0 < bl v := by have := (bl_spec h).2.2; omega
theorem bl_mul_pow {v k : Nat} (h : v ≠ 0) : bl (v * 2 ^ k) = bl v + k := by
 obtain ⟨a, b, c⟩ := bl_spec h
 have e : bl v + k = (bl v - 1 + k) + 1 := by omega
 rw [e]
 apply bl_of
 ·rw [Nat.pow_add]; exact Nat.mul_le_mul_right _ a
 ·rw [show bl v - 1 + k + 1 = bl v + k by omega, Nat.pow_add]; exact Nat.mul_lt_mul_of_pos_right b (Nat.two_pow_pos _)
theorem bl_join {a b n : Nat} (ha : a < 2 ^ n) (hb : b ≠ 0) : bl (a + 2 ^ n * b) = n + bl b := by
 obtain ⟨p, q, r⟩ := bl_spec hb
 have e : n + bl b = (n + (bl b - 1)) + 1 := by omega
 rw [e]
 apply bl_of
 ·rw [Nat.pow_add]
  have := Nat.mul_le_mul_left (2 ^ n) p
  omega
 ·rw [show n + (bl b - 1) + 1 = n + bl b by omega, Nat.pow_add]
  have : 2 ^ n * (b + 1) ≤ 2 ^ n * 2 ^ bl b := Nat.mul_le_mul_left _ q
  rw [Nat.mul_add, Nat.mul_one] at this
  omega
theorem bl_div {v k : Nat} : bl (v / 2 ^ k) = bl v - k := by
 by_cases h : v / 2 ^ k = 0
 ·rw [h, bl_zero]
  have := (Nat.div_eq_zero_iff.1 h)
  have hp := Nat.two_pow_pos k
  have : v < 2 ^ k := by omega
  have := bl_le_iff.2 this
  omega
 ·have hm := Nat.mod_add_div v (2 ^ k)
  have := bl_join (Nat.mod_lt v (Nat.two_pow_pos k)) h
  rw [hm] at this
  omega
def tz (v : Nat) : Nat := if v = 0 then 0 else Lib.ctzFrom (bl v) v
theorem tz_spec {v : Nat} (h : v ≠ 0) : ∃ m, v = 2 ^ tz v * (2 * m + 1) := by
 obtain ⟨m, hm, _⟩ := Lib.ctzFrom_spec (bl v) v (by omega) (bl_spec h).2.1
 unfold tz; rw [if_neg h]
 exact ⟨m, hm⟩
theorem two_pow_odd {a b m n : Nat} (h : 2 ^ a * (2 * m + 1) = 2 ^ b * (2 * n + 1)) : a = b ∧ m = n := by
 induction a generalizing b with
 | zero =>
  cases b with
  | zero => simp at h; omega
  | succ b => rw [Nat.pow_succ, Nat.mul_comm (2 ^ b) 2, Nat.mul_assoc] at h; simp at h; omega
 | succ a ih =>
  cases b with
  | zero => rw [Nat.pow_succ, Nat.mul_comm (2 ^ a) 2, Nat.mul_assoc] at h; simp at h; omega
  | succ b =>
   rw [Nat.pow_succ, Nat.mul_comm (2 ^ a) 2, Nat.mul_assoc, Nat.pow_succ, Nat.mul_comm (2 ^ b) 2, Nat.mul_assoc] at h
   have := ih (b := b) (by omega)
   omega
theorem tz_of (k m : Nat) : tz (2 ^ k * (2 * m + 1)) = k := by
 have h0 : 2 ^ k * (2 * m + 1) ≠ 0 := by have := Nat.mul_pos (Nat.two_pow_pos k) (show 0 < 2 * m + 1 by omega); omega
 obtain ⟨n, hn⟩ := tz_spec h0
 exact (two_pow_odd hn).1.symm
theorem odd_form {v : Nat} (h : v % 2 = 1) : v = 2 * (v / 2) + 1 := by omega
theorem tz_odd {v : Nat} (h : v % 2 = 1) : tz v = 0 := by
 have := tz_of 0 (v / 2)
 rwa [Nat.pow_zero, Nat.one_mul, ← odd_form h] at this
theorem tz_mul_pow {v k : Nat} (h : v ≠ 0) : tz (v * 2 ^ k) = tz v + k := by
 obtain ⟨m, hm⟩ := tz_spec h
 have : v * 2 ^ k = 2 ^ (tz v + k) * (2 * m + 1) := by
  conv => lhs; rw [hm]
  rw [Nat.pow_add, Nat.mul_right_comm]
 rw [this, tz_of]
theorem tz_div {v : Nat} (h : v ≠ 0) : v / 2 ^ tz v % 2 = 1 ∧ v = v / 2 ^ tz v * 2 ^ tz v := by
 obtain ⟨m, hm⟩ := tz_spec h
 have e : v / 2 ^ tz v = 2 * m + 1 := by
  conv => lhs; rw [hm]
  rw [tz_of, Nat.mul_div_cancel_left _ (Nat.two_pow_pos _)]
 rw [e]
 exact ⟨by omega, by rw [Nat.mul_comm]; exact hm⟩
theorem tz_lt_bl {v : Nat} (h : v ≠ 0) : tz v < bl v := by
 obtain ⟨m, hm⟩ := tz_spec h
 have h2 := (bl_spec h).2.1
 have h1 : 2 ^ tz v ≤ v := by
  conv => rhs; rw [hm]
  exact Nat.le_mul_of_pos_right _ (by omega)
 exact (Nat.pow_lt_pow_iff_right (by omega : 1 < 2)).1 (Nat.lt_of_le_of_lt h1 h2)
theorem tz_join {a b n : Nat} (ha : a < 2 ^ n) (h0 : a ≠ 0) : tz (a + 2 ^ n * b) = tz a := by
 obtain ⟨m, hm⟩ := tz_spec h0
 have hl : tz a < n := by
  have h1 : 2 ^ tz a ≤ a := by
   conv => rhs; rw [hm]
   exact Nat.le_mul_of_pos_right _ (by omega)
  exact (Nat.pow_lt_pow_iff_right (by omega : 1 < 2)).1 (Nat.lt_of_le_of_lt h1 ha)
 obtain ⟨d, hd⟩ : ∃ d, n = tz a + (d + 1) := ⟨n - tz a - 1, by omega⟩
 have e : a + 2 ^ n * b = 2 ^ tz a * (2 * (m + 2 ^ d * b) + 1) := by
  have e1 : 2 ^ n * b = 2 ^ tz a * (2 * (2 ^ d * b)) := by
   rw [hd, Nat.pow_add, Nat.pow_succ, Nat.mul_comm (2 ^ d) 2]
   simp only [Nat.mul_assoc]
  conv => lhs; rw [hm]
  rw [e1, ← Nat.mul_add]
  congr 1
  omega
 rw [e, tz_of]
theorem ctz_tz {x : Nat} (h : x < 18446744073709551616) (h0 : x ≠ 0) : Lib.ctz 64 x = tz x := by
 obtain ⟨m, hm, _⟩ := Lib.ctzFrom_spec 64 x (by omega) (by omega)
 unfold Lib.ctz; rw [if_neg h0]
 have := tz_of (Lib.ctzFrom 64 x) m
 rw [← hm] at this
 exact this.symm
def nl (v : Nat) : Nat := (bl v + 63) / 64
def lo (v : Nat) : List Nat := tl (nl v) v
theorem nl_fits (v : Nat) : v < 2 ^ (64 * nl v) := by
 have : bl v ≤ 64 * nl v := by unfold nl; omega
 exact bl_le_iff.1 this
theorem vl_lo (v : Nat) : vl (lo v) = v := by unfold lo; rw [vl_tl, Nat.mod_eq_of_lt (nl_fits v)]
theorem lo_length (v : Nat) : (lo v).length = nl v := tl_length _ _
theorem lo_lm (v : Nat) : Lm (lo v) := tl_lm _ _
theorem lo_zero : lo 0 = [] := rfl
theorem lo_vl {xs : List Nat} (h : Lm xs) (hlast : xs.length = 0 ∨ xs.getD (xs.length - 1) 0 ≠ 0) : lo (vl xs) = xs := by
 have e : nl (vl xs) = xs.length := by
  rcases hlast with h0 | h0
  ·have : xs = [] := List.eq_nil_of_length_eq_zero h0
   subst this; rfl
  ·by_cases hn : xs.length = 0
   ·have : xs = [] := List.eq_nil_of_length_eq_zero hn
    subst this; rfl
   ·have s := vl_take_succ (xs := xs) (k := xs.length - 1) (by omega)
    rw [show xs.length - 1 + 1 = xs.length by omega, List.take_length] at s
    have b := bl_join (vl_take_lt h (xs.length - 1)) h0
    rw [← s] at b
    have c := bl_spec h0
    have d : bl (xs.getD (xs.length - 1) 0) ≤ 64 := bl_le_iff.2 (h.getD _)
    unfold nl; omega
 unfold lo; rw [e, tl_vl h]
structure Dy where
 neg : Bool
 mag : List Nat
 exp : Int
def dy0 : Dy := ⟨false, [], 0⟩
def rightB (d : Dy) : Bool := if d.mag.length = 0 then !d.neg && decide (d.exp = 0) else decide (d.mag.length ≤ 256 ∧ d.mag.getD 0 0 % 2 = 1 ∧ d.mag.getD (d.mag.length - 1) 0 ≠ 0 ∧ -65536 ≤ d.exp ∧ d.exp ≤ 65536)
def sv (d : Dy) : Int := if d.neg then -(vl d.mag : Int) else vl d.mag
def nrm (m e : Int) : Dy × Int :=
 if m = 0 then (dy0, 0)
 else if 16384 < bl m.natAbs - tz m.natAbs ∨ e + tz m.natAbs < -65536 ∨ 65536 < e + tz m.natAbs then (dy0, 3)
 else (⟨decide (m < 0), lo (m.natAbs / 2 ^ tz m.natAbs), e + tz m.natAbs⟩, 0)
def qd (d : Dy) : Int := sv d * 2 ^ (d.exp + 65536).toNat
theorem nrm_lm (m e : Int) : Lm (nrm m e).1.mag := by
 unfold nrm
 split
 ·intro x hx; simp [dy0] at hx
 ·split
  ·intro x hx; simp [dy0] at hx
  ·exact lo_lm _
theorem nrm_shift (m e : Int) (k : Nat) : nrm (m * 2 ^ k) (e - k) = nrm m e := by
 by_cases h : m = 0
 ·subst h; rw [Int.zero_mul]; unfold nrm; rw [if_pos rfl, if_pos rfl]
 ·have hp : (0 : Int) < 2 ^ k := Int.pow_pos (by omega)
  have h' : m * 2 ^ k ≠ 0 := Int.mul_ne_zero h (by omega)
  have ea : (m * 2 ^ k).natAbs = m.natAbs * 2 ^ k := by rw [Int.natAbs_mul, Int.natAbs_pow]; rfl
  have h0 : m.natAbs ≠ 0 := by omega
  have e1 := bl_mul_pow (v := m.natAbs) (k := k) h0
  have e2 := tz_mul_pow (v := m.natAbs) (k := k) h0
  have e3 : m.natAbs * 2 ^ k / 2 ^ (tz m.natAbs + k) = m.natAbs / 2 ^ tz m.natAbs := by
   rw [Nat.pow_add, Nat.mul_comm (2 ^ tz m.natAbs), ← Nat.div_div_eq_div_mul, Nat.mul_div_cancel _ (Nat.two_pow_pos k)]
  have e4 : decide (m * 2 ^ k < 0) = decide (m < 0) := by
   by_cases hm : m < 0
   ·simp only [hm, Int.mul_neg_of_neg_of_pos hm hp]
   ·have := Int.mul_nonneg (show 0 ≤ m by omega) (Int.le_of_lt hp)
    simp only [hm, show ¬ m * 2 ^ k < 0 by omega]
  unfold nrm
  rw [if_neg h, if_neg h', ea, e1, e2, e3, e4, show e - (k : Int) + ((tz m.natAbs + k : Nat) : Int) = e + tz m.natAbs by omega, show bl m.natAbs + k - (tz m.natAbs + k) = bl m.natAbs - tz m.natAbs by omega]
theorem vl_odd {xs : List Nat} (h : Lm xs) (hn : xs.length ≠ 0) : vl xs % 2 = xs.getD 0 0 % 2 := by
 cases xs with
 | nil => simp at hn
 | cons x xs => simp only [vl, List.getD_cons_zero]; omega
theorem right_cases {d : Dy} (h : rightB d = true) : d = dy0 ∨ (d.mag.length ≠ 0 ∧ d.mag.length ≤ 256 ∧ d.mag.getD 0 0 % 2 = 1 ∧ d.mag.getD (d.mag.length - 1) 0 ≠ 0 ∧ -65536 ≤ d.exp ∧ d.exp ≤ 65536) := by
 unfold rightB at h
 by_cases hn : d.mag.length = 0
 ·rw [if_pos hn] at h
  left
  obtain ⟨n, m, e⟩ := d
  have : m = [] := List.eq_nil_of_length_eq_zero hn
  subst this
  simp at h
  obtain ⟨rfl, rfl⟩ := h
  rfl
 ·rw [if_neg hn] at h
  right
  exact ⟨hn, of_decide_eq_true h⟩
theorem right_of {d : Dy} (hn : d.mag.length ≠ 0) (h : d.mag.length ≤ 256 ∧ d.mag.getD 0 0 % 2 = 1 ∧ d.mag.getD (d.mag.length - 1) 0 ≠ 0 ∧ -65536 ≤ d.exp ∧ d.exp ≤ 65536) : rightB d = true := by
 unfold rightB; rw [if_neg hn]; exact decide_eq_true h
theorem right_exp {d : Dy} (h : rightB d = true) : -65536 ≤ d.exp ∧ d.exp ≤ 65536 ∧ d.mag.length ≤ 256 := by
 rcases right_cases h with rfl | h
 ·simp [dy0]
 ·omega
theorem sv_abs (d : Dy) : (sv d).natAbs = vl d.mag := by unfold sv; split <;> omega
theorem sv_neg {d : Dy} (h : vl d.mag ≠ 0) : decide (sv d < 0) = d.neg := by
 unfold sv; cases d.neg <;> simp <;> omega
theorem vl_ne_last {xs : List Nat} (hn : xs.length ≠ 0) (h : xs.getD (xs.length - 1) 0 ≠ 0) : vl xs ≠ 0 := by
 have s := vl_take_succ (xs := xs) (k := xs.length - 1) (by omega)
 rw [show xs.length - 1 + 1 = xs.length by omega, List.take_length] at s
 have := Nat.mul_pos (Nat.two_pow_pos (64 * (xs.length - 1))) (Nat.pos_of_ne_zero h)
 omega
theorem bl_limbs {xs : List Nat} (h : Lm xs) {n : Nat} (hl : xs.length ≤ n) : bl (vl xs) ≤ 64 * n :=
 bl_le_iff.2 (Nat.lt_of_lt_of_le (vl_lt h) (Nat.pow_le_pow_right (by omega) (by omega)))
theorem nrm_right {d : Dy} (hl : Lm d.mag) (h : rightB d = true) : nrm (sv d) d.exp = (d, 0) := by
 rcases right_cases h with rfl | ⟨hn, h1, h2, h3, h4, h5⟩
 ·rfl
 ·have h0 := vl_ne_last hn h3
  have hodd := vl_odd hl hn
  have ht : tz (vl d.mag) = 0 := tz_odd (by omega)
  have hb := bl_limbs hl h1
  have e0 : sv d ≠ 0 := by have := sv_abs d; omega
  have el := lo_vl hl (Or.inr h3)
  unfold nrm
  rw [if_neg e0, sv_abs, ht, if_neg (by simp; omega), Nat.pow_zero, Nat.div_one, el, sv_neg h0]
  simp
theorem lo_last {v : Nat} (h : v ≠ 0) : (lo v).getD ((lo v).length - 1) 0 ≠ 0 ∧ (lo v).length ≠ 0 := by
 have hb := bl_pos h
 have hn : nl v ≠ 0 := by unfold nl; omega
 rw [lo_length]
 refine ⟨?_, hn⟩
 unfold lo
 rw [tl_getD (by omega)]
 have h1 : 2 ^ (64 * (nl v - 1)) ≤ v := by
  refine Nat.le_trans (Nat.pow_le_pow_right (by omega) ?_) (bl_spec h).1
  unfold nl; omega
 have h2 : v / 2 ^ (64 * (nl v - 1)) < 18446744073709551616 := by
  apply Nat.div_lt_of_lt_mul
  have := nl_fits v
  rw [show nl v = nl v - 1 + 1 by omega, pow64_succ, Nat.mul_comm] at this
  exact this
 rw [Nat.mod_eq_of_lt h2]
 have := Nat.div_pos h1 (Nat.two_pow_pos _)
 omega
theorem lo_odd {v : Nat} (h : v % 2 = 1) : (lo v).getD 0 0 % 2 = 1 := by
 have h0 : v ≠ 0 := by omega
 have a := vl_odd (lo_lm v) (lo_last h0).2
 rw [vl_lo] at a
 omega
theorem nrm_ok {m e : Int} (h : (nrm m e).2 = 0) : rightB (nrm m e).1 = true ∧ ∀ L : Int, L ≤ e → L ≤ 0 → sv (nrm m e).1 * 2 ^ ((nrm m e).1.exp - L).toNat = m * 2 ^ (e - L).toNat := by
 unfold nrm at *
 by_cases h0 : m = 0
 ·rw [if_pos h0]
  refine ⟨rfl, fun L _ _ => ?_⟩
  rw [h0]; simp [sv, dy0, vl]
 ·rw [if_neg h0] at h ⊢
  by_cases hc : 16384 < bl m.natAbs - tz m.natAbs ∨ e + tz m.natAbs < -65536 ∨ 65536 < e + tz m.natAbs
  ·rw [if_pos hc] at h; simp at h
  ·rw [if_neg hc]
   have hm : m.natAbs ≠ 0 := by omega
   obtain ⟨d1, d2⟩ := tz_div hm
   have hv : m.natAbs / 2 ^ tz m.natAbs ≠ 0 := by omega
   obtain ⟨l1, l2⟩ := lo_last hv
   refine ⟨right_of l2 ⟨?_, lo_odd d1, l1, by simp only; omega, by simp only; omega⟩, fun L hL _ => ?_⟩
   ·rw [lo_length]; unfold nl; rw [bl_div]; omega
   ·have e1 : sv ⟨decide (m < 0), lo (m.natAbs / 2 ^ tz m.natAbs), e + tz m.natAbs⟩ * 2 ^ tz m.natAbs = m := by
     unfold sv
     simp only [vl_lo, decide_eq_true_eq]
     have e2 : ((m.natAbs / 2 ^ tz m.natAbs : Nat) : Int) * 2 ^ tz m.natAbs = (m.natAbs : Int) := by
      have := congrArg (Nat.cast (R := Int)) d2
      rw [Int.natCast_mul, Int.natCast_pow] at this
      exact this.symm
     split
     ·rw [Int.neg_mul, e2]; omega
     ·rw [e2]; omega
    show _ * 2 ^ (e + tz m.natAbs - L).toNat = _
    rw [show (e + (tz m.natAbs : Int) - L).toNat = tz m.natAbs + (e - L).toNat by omega, Int.pow_add, ← Int.mul_assoc, e1]
theorem nrm_q {m : Int} (h : (nrm m (-65536)).2 = 0) : rightB (nrm m (-65536)).1 = true ∧ qd (nrm m (-65536)).1 = m := by
 obtain ⟨a, b⟩ := nrm_ok h
 refine ⟨a, ?_⟩
 have := b (-65536) (by omega) (by omega)
 rw [show ((-65536 : Int) - -65536).toNat = 0 by omega, Int.pow_zero, Int.mul_one] at this
 exact this
theorem pow_add_int (a b : Nat) : (2 : Int) ^ (a + b) = 2 ^ a * 2 ^ b := Int.pow_add 2 a b
theorem qd_nrm {d : Dy} (hl : Lm d.mag) (h : rightB d = true) : nrm (qd d) (-65536) = (d, 0) := by
 have hx := right_exp h
 rw [← nrm_right hl h]
 have := nrm_shift (sv d) d.exp (d.exp + 65536).toNat
 rw [show d.exp - ((d.exp + 65536).toNat : Int) = -65536 by omega] at this
 exact this
theorem pow_pos_int (n : Nat) : (0 : Int) < 2 ^ n := Int.pow_pos (by omega)
def addD (a b : Dy) : Dy × Int := if rightB a && rightB b then nrm (qd a + qd b) (-65536) else (dy0, 2)
def mulD (a b : Dy) : Dy × Int := if rightB a && rightB b then nrm (qd a * qd b) (-131072) else (dy0, 2)
def normD (d : Dy) : Dy × Int := nrm (sv d) d.exp
def sgI (x : Int) : Int := if x < 0 then -1 else if x = 0 then 0 else 1
theorem sg_mul {x : Int} (n : Nat) : sgI (x * 2 ^ n) = sgI x := by
 have := pow_pos_int n
 unfold sgI
 rcases Int.lt_trichotomy x 0 with h | h | h
 ·rw [if_pos (Int.mul_neg_of_neg_of_pos h this), if_pos h]
 ·subst h; simp
 ·have := Int.mul_pos h this
  rw [if_neg (by omega), if_neg (by omega), if_neg (by omega), if_neg (by omega)]
theorem win_up (v k i : Nat) : win v (64 * (i : Int) - k) = v * 2 ^ k / 2 ^ (64 * i) % 18446744073709551616 := by
 unfold win shr
 congr 1
 by_cases h : k ≤ 64 * i
 ·rw [if_pos (by omega), show (64 * (i : Int) - k).toNat = 64 * i - k by omega]
  have e : 2 ^ (64 * i) = 2 ^ (64 * i - k) * 2 ^ k := by rw [← Nat.pow_add, show 64 * i - k + k = 64 * i by omega]
  rw [e, Nat.mul_div_mul_right _ _ (Nat.two_pow_pos k)]
 ·rw [if_neg (by omega), show (-(64 * (i : Int) - k)).toNat = k - 64 * i by omega]
  have e : 2 ^ k = 2 ^ (k - 64 * i) * 2 ^ (64 * i) := by rw [← Nat.pow_add, show k - 64 * i + 64 * i = k by omega]
  rw [e, ← Nat.mul_assoc, Nat.mul_div_cancel _ (Nat.two_pow_pos _)]
theorem win_down (v k i : Nat) : win v ((k : Int) + i * 64) = v / 2 ^ k / 2 ^ (64 * i) % 18446744073709551616 := by
 unfold win shr
 rw [if_pos (by omega), show ((k : Int) + i * 64).toNat = k + 64 * i by omega, Nat.pow_add, Nat.div_div_eq_div_mul]
theorem mod_next (A i : Nat) : A % 2 ^ (64 * (i + 1)) = A % 2 ^ (64 * i) + 2 ^ (64 * i) * (A / 2 ^ (64 * i) % 18446744073709551616) := by
 rw [pow64_succ, Nat.mul_comm 18446744073709551616, Nat.mod_mul]
def Summed (A B : Nat) (out : List Nat) (c : Nat) : Prop := Lm out ∧ c ≤ 1 ∧ vl out + 2 ^ (64 * out.length) * c = A % 2 ^ (64 * out.length) + B % 2 ^ (64 * out.length)
theorem summed_nil (A B : Nat) : Summed A B [] 0 := ⟨fun x hx => by simp at hx, by omega, by simp [vl, Nat.mod_one]⟩
theorem summed_step {A B : Nat} {out : List Nat} {c : Nat} (h : Summed A B out c) :
  Summed A B (out ++ [(A / 2 ^ (64 * out.length) % 18446744073709551616 + B / 2 ^ (64 * out.length) % 18446744073709551616 + c) % 18446744073709551616]) ((A / 2 ^ (64 * out.length) % 18446744073709551616 + B / 2 ^ (64 * out.length) % 18446744073709551616 + c) / 18446744073709551616) := by
 obtain ⟨h1, h2, h3⟩ := h
 have bx : A / 2 ^ (64 * out.length) % 18446744073709551616 < 18446744073709551616 := Nat.mod_lt _ (by omega)
 have yx : B / 2 ^ (64 * out.length) % 18446744073709551616 < 18446744073709551616 := Nat.mod_lt _ (by omega)
 refine ⟨h1.snoc (Nat.mod_lt _ (by omega)), by omega, ?_⟩
 rw [List.length_append, List.length_singleton, vl_append, mod_next A, mod_next B, pow64_succ]
 generalize A / 2 ^ (64 * out.length) % 18446744073709551616 = x at *
 generalize B / 2 ^ (64 * out.length) % 18446744073709551616 = y at *
 generalize A % 2 ^ (64 * out.length) = p at *
 generalize B % 2 ^ (64 * out.length) = q at *
 simp only [vl, Nat.mul_zero, Nat.add_zero]
 have e := Nat.mod_add_div (x + y + c) 18446744073709551616
 generalize (x + y + c) % 18446744073709551616 = s at *
 generalize (x + y + c) / 18446744073709551616 = d at *
 generalize 2 ^ (64 * out.length) = P at *
 have e2 : P * s + 18446744073709551616 * P * d = P * x + P * y + P * c := by
  rw [Nat.mul_comm 18446744073709551616 P, Nat.mul_assoc, ← Nat.mul_add, e, Nat.mul_add, Nat.mul_add]
 omega
theorem summed_end {A B : Nat} {out : List Nat} {c : Nat} (h : Summed A B out c) (hf : A + B < 2 ^ (64 * out.length)) : vl out = A + B := by
 obtain ⟨h1, h2, h3⟩ := h
 rw [Nat.mod_eq_of_lt (by omega), Nat.mod_eq_of_lt (by omega)] at h3
 have hc : c = 0 ∨ c = 1 := by omega
 rcases hc with rfl | rfl
 ·omega
 ·omega
def Lessed (A B : Nat) (out : List Nat) (c : Nat) : Prop := Lm out ∧ c ≤ 1 ∧ vl out + B % 2 ^ (64 * out.length) = A % 2 ^ (64 * out.length) + 2 ^ (64 * out.length) * c
theorem lessed_nil (A B : Nat) : Lessed A B [] 0 := ⟨fun x hx => by simp at hx, by omega, by simp [vl, Nat.mod_one]⟩
theorem lessed_step {A B : Nat} {out : List Nat} {c s d : Nat} (h : Lessed A B out c) (hs : s < 18446744073709551616) (hd : d ≤ 1)
  (he : s + B / 2 ^ (64 * out.length) % 18446744073709551616 + c = A / 2 ^ (64 * out.length) % 18446744073709551616 + 18446744073709551616 * d) :
  Lessed A B (out ++ [s]) d := by
 obtain ⟨h1, h2, h3⟩ := h
 refine ⟨h1.snoc hs, hd, ?_⟩
 rw [List.length_append, List.length_singleton, vl_append, mod_next A, mod_next B, pow64_succ]
 generalize A / 2 ^ (64 * out.length) % 18446744073709551616 = x at *
 generalize B / 2 ^ (64 * out.length) % 18446744073709551616 = y at *
 generalize A % 2 ^ (64 * out.length) = p at *
 generalize B % 2 ^ (64 * out.length) = q at *
 simp only [vl, Nat.mul_zero, Nat.add_zero]
 generalize 2 ^ (64 * out.length) = P at *
 have e2 : P * s + P * y + P * c = P * x + 18446744073709551616 * P * d := by
  rw [Nat.mul_comm 18446744073709551616 P, Nat.mul_assoc, ← Nat.mul_add, ← Nat.mul_add, ← Nat.mul_add, he]
 omega
theorem lessed_end {A B : Nat} {out : List Nat} {c : Nat} (h : Lessed A B out c) (hf : A < 2 ^ (64 * out.length)) (hb : B ≤ A) : vl out + B = A := by
 obtain ⟨h1, h2, h3⟩ := h
 have hv := vl_lt h1
 rw [Nat.mod_eq_of_lt (show A < _ by omega), Nat.mod_eq_of_lt (show B < _ by omega)] at h3
 have hc : c = 0 ∨ c = 1 := by omega
 rcases hc with rfl | rfl
 ·omega
 ·omega
def Rowed (t m : List Nat) (b : Nat) (k : Nat) (out : List Nat) (c : Nat) : Prop := Lm out ∧ out.length = k ∧ c < 18446744073709551616 ∧ vl out + 2 ^ (64 * k) * c = vl (t.take k) + vl (m.take k) * b
theorem rowed_nil (t m : List Nat) (b : Nat) : Rowed t m b 0 [] 0 := ⟨fun x hx => by simp at hx, rfl, by omega, by simp [vl]⟩
theorem row_fits {x b t c : Nat} (hx : x < 18446744073709551616) (hb : b < 18446744073709551616) (ht : t < 18446744073709551616) (hc : c < 18446744073709551616) :
  x * b + t + c < 18446744073709551616 * 18446744073709551616 := by
 have : x * b ≤ 18446744073709551615 * 18446744073709551615 := Nat.mul_le_mul (by omega) (by omega)
 omega
theorem rowed_step {t m : List Nat} {b k : Nat} {out : List Nat} {c : Nat} (h : Rowed t m b k out c) (ht : Lm t) (hm : Lm m) (hb : b < 18446744073709551616) (hk : k < m.length) (hkt : k < t.length) :
  Rowed t m b (k + 1) (out ++ [(m.getD k 0 * b + t.getD k 0 + c) % 18446744073709551616]) ((m.getD k 0 * b + t.getD k 0 + c) / 18446744073709551616) := by
 obtain ⟨h1, h2, h3, h4⟩ := h
 have f := row_fits (hm.getD k) hb (ht.getD k) h3
 refine ⟨h1.snoc (Nat.mod_lt _ (by omega)), by simp [h2], Nat.div_lt_of_lt_mul f, ?_⟩
 rw [vl_append, h2, pow64_succ, vl_take_succ hkt, vl_take_succ hk]
 simp only [vl, Nat.mul_zero, Nat.add_zero]
 have e := Nat.mod_add_div (m.getD k 0 * b + t.getD k 0 + c) 18446744073709551616
 generalize (m.getD k 0 * b + t.getD k 0 + c) % 18446744073709551616 = s at *
 generalize (m.getD k 0 * b + t.getD k 0 + c) / 18446744073709551616 = d at *
 generalize m.getD k 0 = x at *
 generalize t.getD k 0 = y at *
 generalize 2 ^ (64 * k) = P at *
 generalize vl (m.take k) = M at *
 have e2 : P * s + 18446744073709551616 * P * d = P * (x * b) + P * y + P * c := by
  rw [Nat.mul_comm 18446744073709551616 P, Nat.mul_assoc, ← Nat.mul_add, e, Nat.mul_add, Nat.mul_add]
 have e3 : (M + P * x) * b = M * b + P * (x * b) := by rw [Nat.add_mul, Nat.mul_assoc]
 rw [e3]
 omega
theorem top_step {A B j : Nat} (h : A / 2 ^ (64 * (j + 1)) = B / 2 ^ (64 * (j + 1))) :
  (A / 2 ^ (64 * j) % 18446744073709551616 = B / 2 ^ (64 * j) % 18446744073709551616 → A / 2 ^ (64 * j) = B / 2 ^ (64 * j)) ∧
  (A / 2 ^ (64 * j) % 18446744073709551616 < B / 2 ^ (64 * j) % 18446744073709551616 → A < B) := by
 have e : ∀ X : Nat, X / 2 ^ (64 * (j + 1)) = X / 2 ^ (64 * j) / 18446744073709551616 := by
  intro X; rw [pow64_succ, Nat.mul_comm, Nat.div_div_eq_div_mul]
 rw [e, e] at h
 have ha := Nat.mod_add_div (A / 2 ^ (64 * j)) 18446744073709551616
 have hb := Nat.mod_add_div (B / 2 ^ (64 * j)) 18446744073709551616
 refine ⟨fun g => by omega, fun g => ?_⟩
 have : A / 2 ^ (64 * j) < B / 2 ^ (64 * j) := by omega
 exact Nat.lt_of_not_le fun hle => by
  have := Nat.div_le_div_right (c := 2 ^ (64 * j)) hle
  omega
def vh : List Nat → Nat
 | [] => 0
 | x :: xs => x + 4294967296 * vh xs
def Hm (xs : List Nat) : Prop := ∀ x ∈ xs, x < 4294967296
def th (n v : Nat) : List Nat := (List.range n).map fun i => v / 2 ^ (32 * i) % 4294967296
theorem p32 : (2 : Nat) ^ 32 = 4294967296 := rfl
theorem pow32_succ (n : Nat) : 2 ^ (32 * (n + 1)) = 4294967296 * 2 ^ (32 * n) := by
 rw [show 32 * (n + 1) = 32 + 32 * n by omega, Nat.pow_add, p32]
theorem Hm.tail {x : Nat} {xs : List Nat} (h : Hm (x :: xs)) : x < 4294967296 ∧ Hm xs := ⟨h x (by simp), fun y hy => h y (by simp [hy])⟩
theorem Hm.getD {xs : List Nat} (h : Hm xs) (i : Nat) : xs.getD i 0 < 4294967296 := by
 rw [List.getD_eq_getElem?_getD]
 by_cases hi : i < xs.length
 ·rw [List.getElem?_eq_getElem hi]; exact h _ (List.getElem_mem hi)
 ·rw [List.getElem?_eq_none (by omega)]; simp
theorem vh_lt : ∀ {xs : List Nat}, Hm xs → vh xs < 2 ^ (32 * xs.length)
 | [], _ => by simp [vh]
 | x :: xs, h => by
  have h1 := h.tail
  have h2 := vh_lt h1.2
  rw [List.length_cons, pow32_succ, vh]
  omega
theorem vh_append : ∀ (xs ys : List Nat), vh (xs ++ ys) = vh xs + 2 ^ (32 * xs.length) * vh ys
 | [], ys => by simp [vh]
 | x :: xs, ys => by
  rw [List.cons_append, vh, vh, vh_append xs ys, List.length_cons, pow32_succ, Nat.mul_add, Nat.mul_assoc]
  omega
theorem vh_digit : ∀ {xs : List Nat}, Hm xs → ∀ i, xs.getD i 0 = vh xs / 2 ^ (32 * i) % 4294967296
 | [], _, i => by simp [vh]
 | x :: xs, h, 0 => by
  have h1 := h.tail
  simp only [List.getD_cons_zero, vh, Nat.mul_zero, Nat.pow_zero, Nat.div_one]
  omega
 | x :: xs, h, i + 1 => by
  have h1 := h.tail
  rw [List.getD_cons_succ, vh_digit h1.2 i, pow32_succ, ← Nat.div_div_eq_div_mul, vh]
  rw [show (x + 4294967296 * vh xs) / 4294967296 = vh xs by omega]
theorem th_length (n v : Nat) : (th n v).length = n := by simp [th]
theorem th_lm (n v : Nat) : Hm (th n v) := by
 intro x hx
 simp only [th, List.mem_map] at hx
 obtain ⟨i, _, rfl⟩ := hx
 exact Nat.mod_lt _ (by omega)
theorem th_getD {n v i : Nat} (h : i < n) : (th n v).getD i 0 = v / 2 ^ (32 * i) % 4294967296 := by
 simp [th, List.getD_eq_getElem?_getD, h]
theorem th_succ (n v : Nat) : th (n + 1) v = th n v ++ [v / 2 ^ (32 * n) % 4294967296] := by simp [th, List.range_succ]
theorem vh_th (n v : Nat) : vh (th n v) = v % 2 ^ (32 * n) := by
 induction n with
 | zero => simp [th, vh, Nat.mod_one]
 | succ n ih =>
  rw [th_succ, vh_append, ih, th_length, pow32_succ, Nat.mul_comm 4294967296, Nat.mod_mul]
  simp [vh]
theorem th_vh {xs : List Nat} (h : Hm xs) : th xs.length (vh xs) = xs := by
 apply List.ext_getElem (th_length _ _)
 intro i h1 h2
 have a := th_getD (v := vh xs) h2
 have b := vh_digit h i
 rw [List.getD_eq_getElem?_getD, List.getElem?_eq_getElem h1] at a
 rw [List.getD_eq_getElem?_getD, List.getElem?_eq_getElem h2] at b
 simp only [Option.getD_some] at a b
 omega
theorem Hm.snoc {xs : List Nat} {x : Nat} (h : Hm xs) (hx : x < 4294967296) : Hm (xs ++ [x]) := by
 intro y hy
 rw [List.mem_append, List.mem_singleton] at hy
 rcases hy with hy | rfl
 ·exact h y hy
 ·exact hx
theorem Hm.take {xs : List Nat} (h : Hm xs) (n : Nat) : Hm (xs.take n) := fun y hy => h y (List.mem_of_mem_take hy)
theorem vh_take_succ {xs : List Nat} {k : Nat} (h : k < xs.length) : vh (xs.take (k + 1)) = vh (xs.take k) + 2 ^ (32 * k) * xs.getD k 0 := by
 rw [take_snoc h, vh_append, List.length_take, Nat.min_eq_left (by omega)]
 simp [vh]
theorem vh_take_lt {xs : List Nat} (h : Hm xs) (k : Nat) : vh (xs.take k) < 2 ^ (32 * k) := by
 refine Nat.lt_of_lt_of_le (vh_lt (h.take k)) (Nat.pow_le_pow_right (by omega) ?_)
 rw [List.length_take]; omega
theorem vh_split (xs : List Nat) (k : Nat) (h : k ≤ xs.length) : vh xs = vh (xs.take k) + 2 ^ (32 * k) * vh (xs.drop k) := by
 have := vh_append (xs.take k) (xs.drop k)
 rw [List.take_append_drop, List.length_take, Nat.min_eq_left h] at this
 exact this
theorem vh_zero {xs : List Nat} (h : ∀ i, i < xs.length → xs.getD i 0 = 0) : vh xs = 0 := by
 induction xs with
 | nil => rfl
 | cons x xs ih =>
  have h0 := h 0 (by simp)
  have h1 := ih (fun i hi => by have := h (i + 1) (by simp; omega); simpa using this)
  rw [vh, h1]
  simpa using h0
def nh (v : Nat) : Nat := (bl v + 31) / 32
def lh (v : Nat) : List Nat := th (nh v) v
theorem nh_fits (v : Nat) : v < 2 ^ (32 * nh v) := by
 have : bl v ≤ 32 * nh v := by unfold nh; omega
 exact bl_le_iff.1 this
theorem vh_lh (v : Nat) : vh (lh v) = v := by unfold lh; rw [vh_th, Nat.mod_eq_of_lt (nh_fits v)]
theorem lh_length (v : Nat) : (lh v).length = nh v := th_length _ _
theorem lh_lm (v : Nat) : Hm (lh v) := th_lm _ _
theorem lh_vh {xs : List Nat} (h : Hm xs) (hlast : xs.length = 0 ∨ xs.getD (xs.length - 1) 0 ≠ 0) : lh (vh xs) = xs := by
 have e : nh (vh xs) = xs.length := by
  rcases hlast with h0 | h0
  ·have : xs = [] := List.eq_nil_of_length_eq_zero h0
   subst this; rfl
  ·by_cases hn : xs.length = 0
   ·have : xs = [] := List.eq_nil_of_length_eq_zero hn
    subst this; rfl
   ·have s := vh_take_succ (xs := xs) (k := xs.length - 1) (by omega)
    rw [show xs.length - 1 + 1 = xs.length by omega, List.take_length] at s
    have b := bl_join (vh_take_lt h (xs.length - 1)) h0
    rw [← s] at b
    have c := bl_spec h0
    have d : bl (xs.getD (xs.length - 1) 0) ≤ 32 := bl_le_iff.2 (h.getD _)
    unfold nh; omega
 unfold lh; rw [e, th_vh h]
theorem Hm.lm {xs : List Nat} (h : Hm xs) : Lm xs := fun x hx => by have := h x hx; omega
theorem Hm.nil : Hm [] := fun x hx => by simp at hx
theorem Lm.nil : Lm [] := fun x hx => by simp at hx
theorem Hm.drop {xs : List Nat} (h : Hm xs) (n : Nat) : Hm (xs.drop n) := fun y hy => h y (List.mem_of_mem_drop hy)
theorem lo_take {xs : List Nat} (h : Lm xs) {n : Nat} (hn : n ≤ xs.length) (hz : ∀ i, n ≤ i → i < xs.length → xs.getD i 0 = 0) (hl : n = 0 ∨ xs.getD (n - 1) 0 ≠ 0) : xs.take n = lo (vl xs) := by
 have e : vl xs = vl (xs.take n) := by
  rw [vl_split xs n hn, vl_zero (xs := xs.drop n) (fun i hi => ?_)]
  ·simp
  ·rw [List.length_drop] at hi
   have := hz (n + i) (by omega) (by omega)
   rw [List.getD_eq_getElem?_getD] at this ⊢
   rw [List.getElem?_drop]; exact this
 rw [e, lo_vl (h.take n)]
 rw [List.length_take, Nat.min_eq_left hn]
 rcases hl with hl | hl
 ·exact Or.inl hl
 ·by_cases h0 : n = 0
  ·exact Or.inl h0
  ·right
   rw [List.getD_eq_getElem?_getD] at hl ⊢
   rw [List.getElem?_take, if_pos (by omega)]; exact hl
theorem lh_take {xs : List Nat} (h : Hm xs) {n : Nat} (hn : n ≤ xs.length) (hz : ∀ i, n ≤ i → i < xs.length → xs.getD i 0 = 0) (hl : n = 0 ∨ xs.getD (n - 1) 0 ≠ 0) : xs.take n = lh (vh xs) := by
 have e : vh xs = vh (xs.take n) := by
  rw [vh_split xs n hn, vh_zero (xs := xs.drop n) (fun i hi => ?_)]
  ·simp
  ·rw [List.length_drop] at hi
   have := hz (n + i) (by omega) (by omega)
   rw [List.getD_eq_getElem?_getD] at this ⊢
   rw [List.getElem?_drop]; exact this
 rw [e, lh_vh (h.take n)]
 rw [List.length_take, Nat.min_eq_left hn]
 rcases hl with hl | hl
 ·exact Or.inl hl
 ·by_cases h0 : n = 0
  ·exact Or.inl h0
  ·right
   rw [List.getD_eq_getElem?_getD] at hl ⊢
   rw [List.getElem?_take, if_pos (by omega)]; exact hl
def hx : List Nat → List Nat
 | [] => []
 | x :: xs => x % 4294967296 :: x / 4294967296 :: hx xs
theorem hx_length : ∀ xs : List Nat, (hx xs).length = 2 * xs.length
 | [] => rfl
 | x :: xs => by simp only [hx, List.length_cons, hx_length xs]; omega
theorem hx_append : ∀ xs ys : List Nat, hx (xs ++ ys) = hx xs ++ hx ys
 | [], ys => rfl
 | x :: xs, ys => by simp only [hx, List.cons_append, hx_append xs ys]
theorem hx_hm : ∀ {xs : List Nat}, Lm xs → Hm (hx xs)
 | [], _ => Hm.nil
 | x :: xs, h => by
  intro y hy
  have h1 := h.tail
  simp only [hx, List.mem_cons] at hy
  rcases hy with rfl | rfl | hy
  ·omega
  ·omega
  ·exact hx_hm h1.2 y hy
theorem vh_hx : ∀ {xs : List Nat}, Lm xs → vh (hx xs) = vl xs
 | [], _ => rfl
 | x :: xs, h => by
  have h1 := h.tail
  simp only [hx, vh, vl, vh_hx h1.2]
  omega
theorem hx_take {xs : List Nat} {k : Nat} (h : k < xs.length) : hx (xs.take (k + 1)) = hx (xs.take k) ++ [xs.getD k 0 % 4294967296, xs.getD k 0 / 4294967296] := by
 rw [take_snoc h, hx_append]; rfl
def px (d : List Nat) (k : Nat) : List Nat := (List.range k).map fun i => d.getD (2 * i) 0 + 4294967296 * d.getD (2 * i + 1) 0
theorem px_length (d : List Nat) (k : Nat) : (px d k).length = k := by simp [px]
theorem px_succ (d : List Nat) (k : Nat) : px d (k + 1) = px d k ++ [d.getD (2 * k) 0 + 4294967296 * d.getD (2 * k + 1) 0] := by simp [px, List.range_succ]
theorem px_lm {d : List Nat} (h : Hm d) (k : Nat) : Lm (px d k) := by
 intro x hx
 simp only [px, List.mem_map] at hx
 obtain ⟨i, _, rfl⟩ := hx
 have h1 := h.getD (2 * i)
 have h2 := h.getD (2 * i + 1)
 omega
theorem pow_64_32 (k : Nat) : (2 : Nat) ^ (64 * k) = 2 ^ (32 * (2 * k)) := by congr 1; omega
theorem vl_px {d : List Nat} (h : Hm d) (k : Nat) : vl (px d k) = vh d % 2 ^ (64 * k) := by
 induction k with
 | zero => simp [px, vl, Nat.mod_one]
 | succ k ih =>
  rw [px_succ, vl_append, ih, px_length, pow64_succ, Nat.mul_comm 18446744073709551616, Nat.mod_mul]
  simp only [vl, Nat.mul_zero, Nat.add_zero]
  rw [vh_digit h, vh_digit h, pow_64_32, pow32_succ, Nat.mul_comm 4294967296 (2 ^ _), ← Nat.div_div_eq_div_mul]
  generalize vh d / 2 ^ (32 * (2 * k)) = X
  congr 2
  omega
theorem vl_px_all {d : List Nat} (h : Hm d) {k : Nat} (hk : d.length ≤ 2 * k) : vl (px d k) = vh d := by
 rw [vl_px h, Nat.mod_eq_of_lt]
 rw [pow_64_32]
 exact Nat.lt_of_lt_of_le (vh_lt h) (Nat.pow_le_pow_right (by omega) (by omega))
theorem row_step (A Y x Q B : Nat) (hQ : 0 < Q) :
  x * (Y / Q % B) + A / Q % B + (A % Q + x * (Y % Q)) / Q = (A % (Q * B) + x * (Y % (Q * B))) / Q := by
 rw [Nat.mod_mul, Nat.mod_mul (x := Y), Nat.mul_add, ← Nat.mul_assoc, Nat.mul_comm x Q, Nat.mul_assoc]
 rw [show A % Q + Q * (A / Q % B) + (x * (Y % Q) + Q * (x * (Y / Q % B))) = (A % Q + x * (Y % Q)) + Q * (A / Q % B + x * (Y / Q % B)) by rw [Nat.mul_add]; omega]
 rw [Nat.add_mul_div_left _ _ hQ]
 omega
theorem row_digit (A Y x Q B : Nat) : (A % (Q * B) + x * (Y % (Q * B))) / Q % B = (A + x * Y) / Q % B := by
 have e : A + x * Y = (A % (Q * B) + x * (Y % (Q * B))) + Q * (B * (A / (Q * B) + x * (Y / (Q * B)))) := by
  have h1 := Nat.mod_add_div A (Q * B)
  have h2 := Nat.mod_add_div Y (Q * B)
  have h3 : x * Y = x * (Y % (Q * B)) + Q * (B * (x * (Y / (Q * B)))) := by
   conv => lhs; rw [← h2]
   rw [Nat.mul_add]
   congr 1
   ac_rfl
  have h4 : Q * (B * (A / (Q * B))) = Q * B * (A / (Q * B)) := by ac_rfl
  rw [Nat.mul_add, Nat.mul_add, h3, h4]
  omega
 rw [e]
 by_cases hQ : Q = 0
 ·subst hQ; simp
 ·rw [Nat.add_mul_div_left _ _ (Nat.pos_of_ne_zero hQ), Nat.add_mul_mod_self_left]
def wt (i : Nat) : Nat := 2 ^ (32 * i)
theorem wt_un (i : Nat) : 2 ^ (32 * i) = wt i := rfl
theorem wt_pos (i : Nat) : 0 < wt i := Nat.two_pow_pos _
theorem wt_zero : wt 0 = 1 := rfl
theorem wt_succ (i : Nat) : wt (i + 1) = wt i * 4294967296 := by unfold wt; rw [pow32_succ, Nat.mul_comm]
theorem wt_add (i k : Nat) : wt (i + k) = wt i * wt k := by unfold wt; rw [← Nat.pow_add]; congr 1; omega
def dg (v i : Nat) : Nat := v / wt i % 4294967296
theorem dg_lt (v i : Nat) : dg v i < 4294967296 := Nat.mod_lt _ (by omega)
theorem dg_of {xs : List Nat} (h : Hm xs) (i : Nat) : xs.getD i 0 = dg (vh xs) i := vh_digit h i
theorem lh_dg (v i : Nat) : (lh v).getD i 0 = dg v i := by rw [dg_of (lh_lm v), vh_lh]
theorem th_dg {n v i : Nat} (h : i < n) : (th n v).getD i 0 = dg v i := th_getD h
theorem th_snoc (n v : Nat) : th (n + 1) v = th n v ++ [dg v n] := th_succ n v
theorem vh_th' (n v : Nat) : vh (th n v) = v % wt n := vh_th n v
theorem lh_lt (v : Nat) : v < wt (lh v).length := by rw [lh_length]; exact nh_fits v
theorem vh_lt' {xs : List Nat} (h : Hm xs) : vh xs < wt xs.length := vh_lt h
def cr (x A Y i : Nat) : Nat := (A % wt i + x * (Y % wt i)) / wt i
theorem cr_zero (x A Y : Nat) : cr x A Y 0 = 0 := by unfold cr; rw [wt_zero, Nat.mod_one, Nat.mod_one]; simp
theorem cr_le (x A Y i : Nat) : cr x A Y i ≤ x := by
 unfold cr
 have h := wt_pos i
 have h1 := Nat.mod_lt A h
 have h2 := Nat.mul_le_mul_left x (Nat.le_of_lt (Nat.mod_lt Y h))
 rw [← Nat.lt_succ_iff]
 apply Nat.div_lt_of_lt_mul
 rw [Nat.mul_succ, Nat.mul_comm (wt i) x]
 omega
theorem cr_step (x A Y i : Nat) : (x * dg Y i + dg A i + cr x A Y i) % 4294967296 = dg (A + x * Y) i ∧ (x * dg Y i + dg A i + cr x A Y i) / 4294967296 = cr x A Y (i + 1) := by
 unfold dg cr
 have e := row_step A Y x (wt i) 4294967296 (wt_pos i)
 rw [e, wt_succ]
 exact ⟨row_digit _ _ _ _ _, by rw [Nat.div_div_eq_div_mul]⟩
theorem cr_end {x A Y i : Nat} (hA : A < wt i) (hY : Y < wt i) : cr x A Y i = (A + x * Y) / wt i := by unfold cr; rw [Nat.mod_eq_of_lt hA, Nat.mod_eq_of_lt hY]
theorem sum_step (A Y i : Nat) : (dg A i + dg Y i + cr 1 A Y i) % 4294967296 = dg (A + Y) i ∧ (dg A i + dg Y i + cr 1 A Y i) / 4294967296 = cr 1 A Y (i + 1) := by
 have h := cr_step 1 A Y i
 rw [Nat.one_mul, Nat.one_mul, Nat.add_comm (dg Y i)] at h
 exact h
theorem sum_end {A Y i : Nat} (hA : A < wt i) (hY : Y < wt i) (hc : cr 1 A Y i = 0) : vh (th i (A + Y)) = A + Y := by
 rw [cr_end hA hY, Nat.one_mul] at hc
 rw [vh_th', Nat.mod_eq_of_lt]
 rcases Nat.div_eq_zero_iff.1 hc with h | h
 ·have := wt_pos i; omega
 ·exact h
theorem less_step (D Y i : Nat) : (4294967296 + dg (D + Y) i - dg Y i - cr 1 D Y i) % 4294967296 = dg D i ∧ 1 - (4294967296 + dg (D + Y) i - dg Y i - cr 1 D Y i) / 4294967296 = cr 1 D Y (i + 1) := by
 obtain ⟨h1, h2⟩ := sum_step D Y i
 have c1 := cr_le 1 D Y i
 have c2 := cr_le 1 D Y (i + 1)
 have d1 := dg_lt D i
 have d2 := dg_lt Y i
 generalize dg (D + Y) i = a at *
 generalize dg D i = d at *
 generalize dg Y i = y at *
 generalize cr 1 D Y i = c at *
 generalize cr 1 D Y (i + 1) = c' at *
 omega
theorem up_list {A b n l : Nat} (hl : A < wt l) : vh (List.replicate n 0 ++ (th l (b * A) ++ [cr b 0 A l])) = wt n * (b * A) := by
 have hz : vh (List.replicate n 0) = 0 := vh_zero fun i hi => by
  rw [List.length_replicate] at hi
  rw [List.getD_eq_getElem?_getD, List.getElem?_replicate, if_pos hi]; rfl
 rw [vh_append, vh_append, hz, vh_th', cr_end (wt_pos l) hl, Nat.zero_add, Nat.zero_add, List.length_replicate, th_length]
 have e : vh [b * A / wt l] = b * A / wt l := by simp [vh]
 rw [wt_un, wt_un, e, Nat.mod_add_div]
theorem up_hm {A b n l : Nat} (hb : b < 4294967296) : Hm (List.replicate n 0 ++ (th l (b * A) ++ [cr b 0 A l])) := by
 intro x hx
 rw [List.mem_append, List.mem_append] at hx
 rcases hx with hx | hx | hx
 ·rw [List.mem_replicate] at hx; omega
 ·exact th_lm _ _ x hx
 ·rw [List.mem_singleton] at hx
  have := cr_le b 0 A l
  omega
theorem pow_split (n : Nat) : (2 : Nat) ^ n = wt (n / 32) * 2 ^ (n % 32) := by
 unfold wt; rw [← Nat.pow_add]; congr 1; omega
theorem mod_wt_succ (A i : Nat) : A % wt (i + 1) = A % wt i + wt i * dg A i := by rw [wt_succ, Nat.mod_mul]; rfl
theorem nh_le {v n : Nat} (h : v < wt n) : nh v ≤ n := by
 have : bl v ≤ 32 * n := bl_le_iff.2 h
 unfold nh; omega
theorem nl_le {v n : Nat} (h : v < 2 ^ (64 * n)) : nl v ≤ n := by
 have : bl v ≤ 64 * n := bl_le_iff.2 h
 unfold nl; omega
theorem lo_len {xs : List Nat} (h : Lm xs) : (lo (vl xs)).length ≤ xs.length := by rw [lo_length]; exact nl_le (vl_lt h)
end Go.Proofs.YtfipmopmpacdaaaGreatDoor
