/- limbs.Div: its plain part; Shift downwards. -/
import Derived.Test.YtmcnnnmlacpppaaDoorRt4
import Derived.Test.YtmcnnnmlacpppaaDoorWh2
namespace Go.Proofs.YtmcnnnmlacpppaaDoor
open Go.RowKit

theorem vF_put {m t v : Nat} {Q : Nat → Nat} (h : t < m) (h0 : Q t = 0) : vF m (fun j => if j = t then v else Q j) = vF m Q + 2 ^ (64 * t) * v := by
  induction m with
  | zero => omega
  | succ m ih =>
    rw [vF, vF]
    by_cases e : m = t
    · subst e
      rw [vF_congr (g := Q) (fun j hj => by rw [if_neg (by omega)]), if_pos rfl, h0, Nat.mul_zero, Nat.add_zero]
    · rw [ih (by omega), if_neg e]
      omega
theorem vF_three {Ln t n r : Nat} {F : Nat → Nat} (h : Ln = t + (n + r)) : vF Ln F = vF t F + 2 ^ (64 * t) * (vF n (fun j => F (t + j)) + 2 ^ (64 * n) * vF r (fun j => F (t + (n + j)))) := by
  rw [h, vF_split, vF_split]
theorem vF_laid {Ln t n r : Nat} {F : Nat → Nat} {out : List Nat} (hl : out.length = n) (h : Ln = t + (n + r)) : vF Ln (laidF F t n out) = vF t F + 2 ^ (64 * t) * (vl out + 2 ^ (64 * n) * vF r (fun j => F (t + (n + j)))) := by
  rw [vF_three h]
  have e1 : vF t (laidF F t n out) = vF t F := vF_congr fun j hj => by unfold laidF; rw [if_neg (by omega)]
  have e2 : vF n (fun j => laidF F t n out (t + j)) = vl out := by
    have := vF_list out n (by omega)
    rw [List.take_of_length_le (by omega)] at this
    rw [← this]
    exact vF_congr fun j hj => by unfold laidF; rw [if_pos (by omega), Nat.add_sub_cancel_left]
  have e3 : vF r (fun j => laidF F t n out (t + (n + j))) = vF r (fun j => F (t + (n + j))) := vF_congr fun j _ => by unfold laidF; rw [if_neg (by omega)]
  rw [e1, e2, e3]
/-- Division so far: what is left, the quotient's limbs from the highest on. -/
structure DivI (A V n Ln m k : Nat) (F Q : Nat → Nat) : Prop where
  fl : ∀ j, j < Ln → F j < 18446744073709551616
  ql : ∀ j, j < m → Q j < 18446744073709551616
  z : ∀ j, j < m - k → Q j = 0
  e : vF Ln F + V * vF m Q = A
  lt : vF Ln F < V * 2 ^ (64 * (m - k))
theorem DivI.part {A V n Ln m k t : Nat} {F Q : Nat → Nat} (h : DivI A V n Ln m k F Q) (hk : k < m) (hL : Ln = m + n) (hV : V < 2 ^ (64 * n)) (ht : t = m - 1 - k) :
    ∃ r, Ln = t + ((n + 1) + r) ∧ vF r (fun j => F (t + ((n + 1) + j))) = 0 ∧ vF (n + 1) (fun j => F (t + j)) < V * 18446744073709551616 := by
  obtain ⟨r, hr⟩ : ∃ r, Ln = t + ((n + 1) + r) := ⟨Ln - t - (n + 1), by omega⟩
  have e := vF_three (F := F) hr
  have lt := h.lt
  rw [show m - k = t + 1 by omega, pow64_succ] at lt
  have hP := Nat.two_pow_pos (64 * t)
  have e2 : 2 ^ (64 * (n + 1)) = 18446744073709551616 * 2 ^ (64 * n) := pow64_succ n
  refine ⟨r, hr, ?_, ?_⟩
  · rcases Nat.eq_zero_or_pos (vF r (fun j => F (t + ((n + 1) + j)))) with h0 | h0
    · exact h0
    · exfalso
      generalize vF r (fun j => F (t + ((n + 1) + j))) = R at *
      generalize vF (n + 1) (fun j => F (t + j)) = U at *
      have a : 2 ^ (64 * t) * (2 ^ (64 * (n + 1)) * 1) ≤ 2 ^ (64 * t) * (U + 2 ^ (64 * (n + 1)) * R) := Nat.mul_le_mul_left _ (Nat.le_trans (Nat.mul_le_mul_left _ h0) (Nat.le_add_left _ _))
      have b : V * (18446744073709551616 * 2 ^ (64 * t)) ≤ 2 ^ (64 * n) * (18446744073709551616 * 2 ^ (64 * t)) := Nat.mul_le_mul_right _ (by omega)
      have c : 2 ^ (64 * t) * (2 ^ (64 * (n + 1)) * 1) = 2 ^ (64 * n) * (18446744073709551616 * 2 ^ (64 * t)) := by rw [e2]; grind
      omega
  · generalize vF r (fun j => F (t + ((n + 1) + j))) = R at *
    generalize vF (n + 1) (fun j => F (t + j)) = U at *
    have a : 2 ^ (64 * t) * U ≤ 2 ^ (64 * t) * (U + 2 ^ (64 * (n + 1)) * R) := Nat.mul_le_mul_left _ (Nat.le_add_right _ _)
    have b : 2 ^ (64 * t) * U < 2 ^ (64 * t) * (V * 18446744073709551616) := by
      have : 2 ^ (64 * t) * (V * 18446744073709551616) = V * (18446744073709551616 * 2 ^ (64 * t)) := by grind
      omega
    exact Nat.lt_of_mul_lt_mul_left b
theorem DivI.step {A V n Ln m k t : Nat} {F Q : Nat → Nat} (h : DivI A V n Ln m k F Q) (hk : k < m) (hL : Ln = m + n) (hV0 : 0 < V) (hV : V < 2 ^ (64 * n)) (ht : t = m - 1 - k) {out : List Nat} (o1 : Lm out) (o2 : out.length = n + 1) (o3 : vl out = vF (n + 1) (fun j => F (t + j)) % V) :
    DivI A V n Ln m (k + 1) (laidF F t (n + 1) out) (fun j => if j = t then vF (n + 1) (fun j => F (t + j)) / V else Q j) := by
  obtain ⟨r, hr, hz, hU⟩ := h.part hk hL hV ht
  have e0 := vF_three (F := F) hr
  have e1 := vF_laid (F := F) o2 hr
  rw [hz, Nat.mul_zero, Nat.add_zero] at e0 e1
  rw [o3] at e1
  have hlo : vF t F < 2 ^ (64 * t) := vF_lt fun j hj => h.fl j (by omega)
  obtain ⟨d1, d2⟩ := div_place e0 hlo e1 hV0
  have hq : vF (n + 1) (fun j => F (t + j)) / V < 18446744073709551616 := Nat.div_lt_of_lt_mul hU
  refine ⟨fun j hj => ?_, fun j hj => ?_, fun j hj => ?_, ?_, ?_⟩
  · unfold laidF
    split
    · exact o1.getD _
    · exact h.fl j hj
  · by_cases c : j = t
    · rw [if_pos c]; exact hq
    · rw [if_neg c]; exact h.ql j hj
  · rw [if_neg (by omega)]; exact h.z j (by omega)
  · have a := h.e
    rw [vF_put (by omega) (h.z t (by omega)), Nat.mul_add, Nat.mul_comm (2 ^ (64 * t))]
    omega
  · rw [show m - (k + 1) = t by omega]
    exact d1
/-- All limbs are done. -/
theorem DivI.done {A V n Ln m : Nat} {F Q : Nat → Nat} (h : DivI A V n Ln m m F Q) (hV0 : 0 < V) : vF Ln F = A % V ∧ vF m Q = A / V := by
  have lt := h.lt
  rw [Nat.sub_self, Nat.mul_zero, Nat.pow_zero, Nat.mul_one] at lt
  have e := h.e
  rw [← e]
  exact ⟨by rw [Nat.add_mul_mod_self_left, Nat.mod_eq_of_lt lt], by rw [Nat.add_mul_div_left _ _ hV0, Nat.div_eq_of_lt lt, Nat.zero_add]⟩
theorem vF_win {n k v : Nat} (h : v * 2 ^ k < 2 ^ (64 * n)) : vF n (fun j => win v (64 * (j : Int) - k)) = v * 2 ^ k := by
  rw [vF_congr (g := fun j => (tl n (v * 2 ^ k)).getD j 0) (fun j hj => by rw [win_up, tl_getD hj])]
  have := vF_list (tl n (v * 2 ^ k)) n (by rw [tl_length]; omega)
  rw [List.take_of_length_le (by rw [tl_length]; omega), vl_tl, Nat.mod_eq_of_lt h] at this
  exact this
theorem DivI.start {v V n Ln m k : Nat} (_hL : Ln = m + n) (h : v * 2 ^ k < 2 ^ (64 * Ln)) (h2 : v * 2 ^ k < V * 2 ^ (64 * m)) : DivI (v * 2 ^ k) V n Ln m 0 (fun j => win v (64 * (j : Int) - k)) (fun _ => 0) :=
  ⟨fun j _ => win_lt _ _, fun _ _ => by omega, fun _ _ => rfl, by rw [vF_win h, vF_zero (fun _ _ => rfl), Nat.mul_zero, Nat.add_zero], by rw [vF_win h]; exact h2⟩
/-- Shift downwards, of any number. -/
theorem lshr_any (xs : List Nat) (ao : Option Addr) (cap k : Nat) (w : World) (hr : LRow w ao xs) (hL : Lm xs) (hn : xs.length ≤ 100000) (hk : k ≤ 100000000) :
    Calls Tryd.prog 39 #[.slice ao xs.length cap, .int .i64 (-(k : Int))] w (GaveLW w (vl xs / 2 ^ k)) := by
  have hb2 : bl (vl xs) ≤ 64 * xs.length := bl_le_iff.2 (vl_lt hL)
  by_cases h0 : bl (vl xs) ≤ k
  · have hz : vl xs / 2 ^ k = 0 := Nat.div_eq_of_lt (bl_le_iff.1 h0)
    refine (shift_none xs ao cap (-(k : Int)) (bl (vl xs)) rfl w hr hL (by omega) (by omega) (by omega) (by omega)).mono fun e w' ⟨he, hw⟩ => ?_
    subst he hw
    rw [hz]
    exact ⟨none, 0, rfl, ⟨Or.inl rfl, Nat.le_refl _, fun _ => rfl⟩, Below.refl _ _⟩
  · obtain ⟨n, hn'⟩ : ∃ n : Nat, (n : Int) = ((bl (vl xs) : Int) + (-(k : Int)) + 64 - 1) / 64 := ⟨(((bl (vl xs) : Int) + (-(k : Int)) + 64 - 1) / 64).toNat, by omega⟩
    have e1 : bl (vl xs / 2 ^ k) = bl (vl xs) - k := bl_div
    have e2 : nl (vl xs / 2 ^ k) = n := by unfold nl; rw [e1]; omega
    refine (shift_any xs ao cap (-(k : Int)) (bl (vl xs)) n rfl hn' w hr hL (by omega) (by omega) (by omega) (by omega) (by omega) (by omega) (by omega)).mono fun e w' ⟨he, hF, hw⟩ => ?_
    subst he
    refine ⟨some ⟨w.heap.size, 0, none⟩, n, by rw [e2], ⟨FRow.lrow hF (by rw [lo_length, e2]) (fun j hj => ?_), by rw [lo_length, e2]; exact Nat.le_refl _, fun e => by cases e⟩, hw⟩
    unfold lo
    rw [tl_getD (by rw [e2]; exact hj)]
    have := win_down (vl xs) k j
    rw [← this]
    congr 1
    omega
end Go.Proofs.YtmcnnnmlacpppaaDoor
