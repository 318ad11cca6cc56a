/- Sums, differences, products, comparisons limb by limb, as plain numbers; no program in this text. -/
import Derived.Test.YtokfkooffbihcaaDoorDb
namespace Go.Proofs.YtokfkooffbihcaaDoor

/-- A window of a number made greater by a power of two. -/
theorem win_up (v k i : Nat) : win v (64 * (i : Int) - k) = v * 2 ^ k / 2 ^ (64 * i) % 18446744073709551616 := by
  unfold win shr
  congr 1
  by_cases h : k ≤ 64 * i
  · rw [if_pos (by omega), show (64 * (i : Int) - k).toNat = 64 * i - k by omega]
    have e : 2 ^ (64 * i) = 2 ^ (64 * i - k) * 2 ^ k := by rw [← Nat.pow_add, show 64 * i - k + k = 64 * i by omega]
    rw [e, Nat.mul_div_mul_right _ _ (Nat.two_pow_pos k)]
  · rw [if_neg (by omega), show (-(64 * (i : Int) - k)).toNat = k - 64 * i by omega]
    have e : 2 ^ k = 2 ^ (k - 64 * i) * 2 ^ (64 * i) := by rw [← Nat.pow_add, show k - 64 * i + 64 * i = k by omega]
    rw [e, ← Nat.mul_assoc, Nat.mul_div_cancel _ (Nat.two_pow_pos _)]
theorem win_down (v k i : Nat) : win v ((k : Int) + i * 64) = v / 2 ^ k / 2 ^ (64 * i) % 18446744073709551616 := by
  unfold win shr
  rw [if_pos (by omega), show ((k : Int) + i * 64).toNat = k + 64 * i by omega, Nat.pow_add, Nat.div_div_eq_div_mul]
theorem mod_next (A i : Nat) : A % 2 ^ (64 * (i + 1)) = A % 2 ^ (64 * i) + 2 ^ (64 * i) * (A / 2 ^ (64 * i) % 18446744073709551616) := by
  rw [pow64_succ, Nat.mul_comm 18446744073709551616, Nat.mod_mul]

/-- The sum so far: limbs, what is carried. -/
def Summed (A B : Nat) (out : List Nat) (c : Nat) : Prop := Lm out ∧ c ≤ 1 ∧ vl out + 2 ^ (64 * out.length) * c = A % 2 ^ (64 * out.length) + B % 2 ^ (64 * out.length)
theorem summed_nil (A B : Nat) : Summed A B [] 0 := ⟨fun x hx => by simp at hx, by omega, by simp [vl, Nat.mod_one]⟩
theorem summed_step {A B : Nat} {out : List Nat} {c : Nat} (h : Summed A B out c) :
    Summed A B (out ++ [(A / 2 ^ (64 * out.length) % 18446744073709551616 + B / 2 ^ (64 * out.length) % 18446744073709551616 + c) % 18446744073709551616]) ((A / 2 ^ (64 * out.length) % 18446744073709551616 + B / 2 ^ (64 * out.length) % 18446744073709551616 + c) / 18446744073709551616) := by
  obtain ⟨h1, h2, h3⟩ := h
  have bx : A / 2 ^ (64 * out.length) % 18446744073709551616 < 18446744073709551616 := Nat.mod_lt _ (by omega)
  have yx : B / 2 ^ (64 * out.length) % 18446744073709551616 < 18446744073709551616 := Nat.mod_lt _ (by omega)
  refine ⟨h1.snoc (Nat.mod_lt _ (by omega)), by omega, ?_⟩
  rw [List.length_append, List.length_singleton, vl_append, mod_next A, mod_next B, pow64_succ]
  generalize A / 2 ^ (64 * out.length) % 18446744073709551616 = x at *
  generalize B / 2 ^ (64 * out.length) % 18446744073709551616 = y at *
  generalize A % 2 ^ (64 * out.length) = p at *
  generalize B % 2 ^ (64 * out.length) = q at *
  simp only [vl, Nat.mul_zero, Nat.add_zero]
  have e := Nat.mod_add_div (x + y + c) 18446744073709551616
  generalize (x + y + c) % 18446744073709551616 = s at *
  generalize (x + y + c) / 18446744073709551616 = d at *
  generalize 2 ^ (64 * out.length) = P at *
  have e2 : P * s + 18446744073709551616 * P * d = P * x + P * y + P * c := by
    rw [Nat.mul_comm 18446744073709551616 P, Nat.mul_assoc, ← Nat.mul_add, e, Nat.mul_add, Nat.mul_add]
  omega
theorem summed_end {A B : Nat} {out : List Nat} {c : Nat} (h : Summed A B out c) (hf : A + B < 2 ^ (64 * out.length)) : vl out = A + B := by
  obtain ⟨h1, h2, h3⟩ := h
  rw [Nat.mod_eq_of_lt (by omega), Nat.mod_eq_of_lt (by omega)] at h3
  have hc : c = 0 ∨ c = 1 := by omega
  rcases hc with rfl | rfl
  · omega
  · omega
/-- The difference so far: limbs, what is borrowed. -/
def Lessed (A B : Nat) (out : List Nat) (c : Nat) : Prop := Lm out ∧ c ≤ 1 ∧ vl out + B % 2 ^ (64 * out.length) = A % 2 ^ (64 * out.length) + 2 ^ (64 * out.length) * c
theorem lessed_nil (A B : Nat) : Lessed A B [] 0 := ⟨fun x hx => by simp at hx, by omega, by simp [vl, Nat.mod_one]⟩
theorem lessed_step {A B : Nat} {out : List Nat} {c s d : Nat} (h : Lessed A B out c) (hs : s < 18446744073709551616) (hd : d ≤ 1)
    (he : s + B / 2 ^ (64 * out.length) % 18446744073709551616 + c = A / 2 ^ (64 * out.length) % 18446744073709551616 + 18446744073709551616 * d) :
    Lessed A B (out ++ [s]) d := by
  obtain ⟨h1, h2, h3⟩ := h
  refine ⟨h1.snoc hs, hd, ?_⟩
  rw [List.length_append, List.length_singleton, vl_append, mod_next A, mod_next B, pow64_succ]
  generalize A / 2 ^ (64 * out.length) % 18446744073709551616 = x at *
  generalize B / 2 ^ (64 * out.length) % 18446744073709551616 = y at *
  generalize A % 2 ^ (64 * out.length) = p at *
  generalize B % 2 ^ (64 * out.length) = q at *
  simp only [vl, Nat.mul_zero, Nat.add_zero]
  generalize 2 ^ (64 * out.length) = P at *
  have e2 : P * s + P * y + P * c = P * x + 18446744073709551616 * P * d := by
    rw [Nat.mul_comm 18446744073709551616 P, Nat.mul_assoc, ← Nat.mul_add, ← Nat.mul_add, ← Nat.mul_add, he]
  omega
theorem lessed_end {A B : Nat} {out : List Nat} {c : Nat} (h : Lessed A B out c) (hf : A < 2 ^ (64 * out.length)) (hb : B ≤ A) : vl out + B = A := by
  obtain ⟨h1, h2, h3⟩ := h
  have hv := vl_lt h1
  rw [Nat.mod_eq_of_lt (show A < _ by omega), Nat.mod_eq_of_lt (show B < _ by omega)] at h3
  have hc : c = 0 ∨ c = 1 := by omega
  rcases hc with rfl | rfl
  · omega
  · omega

/-- One row of a product so far: the limbs of 'to' that are done, what is carried: t the old limbs, m the limbs, by. -/
def Rowed (t m : List Nat) (b : Nat) (k : Nat) (out : List Nat) (c : Nat) : Prop := Lm out ∧ out.length = k ∧ c < 18446744073709551616 ∧ vl out + 2 ^ (64 * k) * c = vl (t.take k) + vl (m.take k) * b
theorem rowed_nil (t m : List Nat) (b : Nat) : Rowed t m b 0 [] 0 := ⟨fun x hx => by simp at hx, rfl, by omega, by simp [vl]⟩
theorem row_fits {x b t c : Nat} (hx : x < 18446744073709551616) (hb : b < 18446744073709551616) (ht : t < 18446744073709551616) (hc : c < 18446744073709551616) :
    x * b + t + c < 18446744073709551616 * 18446744073709551616 := by
  have : x * b ≤ 18446744073709551615 * 18446744073709551615 := Nat.mul_le_mul (by omega) (by omega)
  omega
theorem rowed_step {t m : List Nat} {b k : Nat} {out : List Nat} {c : Nat} (h : Rowed t m b k out c) (ht : Lm t) (hm : Lm m) (hb : b < 18446744073709551616) (hk : k < m.length) (hkt : k < t.length) :
    Rowed t m b (k + 1) (out ++ [(m.getD k 0 * b + t.getD k 0 + c) % 18446744073709551616]) ((m.getD k 0 * b + t.getD k 0 + c) / 18446744073709551616) := by
  obtain ⟨h1, h2, h3, h4⟩ := h
  have f := row_fits (hm.getD k) hb (ht.getD k) h3
  refine ⟨h1.snoc (Nat.mod_lt _ (by omega)), by simp [h2], Nat.div_lt_of_lt_mul f, ?_⟩
  rw [vl_append, h2, pow64_succ, vl_take_succ hkt, vl_take_succ hk]
  simp only [vl, Nat.mul_zero, Nat.add_zero]
  have e := Nat.mod_add_div (m.getD k 0 * b + t.getD k 0 + c) 18446744073709551616
  generalize (m.getD k 0 * b + t.getD k 0 + c) % 18446744073709551616 = s at *
  generalize (m.getD k 0 * b + t.getD k 0 + c) / 18446744073709551616 = d at *
  generalize m.getD k 0 = x at *
  generalize t.getD k 0 = y at *
  generalize 2 ^ (64 * k) = P at *
  generalize vl (m.take k) = M at *
  have e2 : P * s + 18446744073709551616 * P * d = P * (x * b) + P * y + P * c := by
    rw [Nat.mul_comm 18446744073709551616 P, Nat.mul_assoc, ← Nat.mul_add, e, Nat.mul_add, Nat.mul_add]
  have e3 : (M + P * x) * b = M * b + P * (x * b) := by rw [Nat.add_mul, Nat.mul_assoc]
  rw [e3]
  omega

/-- Which of two numbers is greater, from their highest limbs on. -/
theorem top_step {A B j : Nat} (h : A / 2 ^ (64 * (j + 1)) = B / 2 ^ (64 * (j + 1))) :
    (A / 2 ^ (64 * j) % 18446744073709551616 = B / 2 ^ (64 * j) % 18446744073709551616 → A / 2 ^ (64 * j) = B / 2 ^ (64 * j)) ∧
    (A / 2 ^ (64 * j) % 18446744073709551616 < B / 2 ^ (64 * j) % 18446744073709551616 → A < B) := by
  have e : ∀ X : Nat, X / 2 ^ (64 * (j + 1)) = X / 2 ^ (64 * j) / 18446744073709551616 := by
    intro X; rw [pow64_succ, Nat.mul_comm, Nat.div_div_eq_div_mul]
  rw [e, e] at h
  have ha := Nat.mod_add_div (A / 2 ^ (64 * j)) 18446744073709551616
  have hb := Nat.mod_add_div (B / 2 ^ (64 * j)) 18446744073709551616
  refine ⟨fun g => by omega, fun g => ?_⟩
  have : A / 2 ^ (64 * j) < B / 2 ^ (64 * j) := by omega
  exact Nat.lt_of_not_le fun hle => by
    have := Nat.div_le_div_right (c := 2 ^ (64 * j)) hle
    omega
end Go.Proofs.YtokfkooffbihcaaDoor
