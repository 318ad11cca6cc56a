/- A whole number as a float, by every way: what round's Int and the document's answer. -/
import Derived.Test.YtfipmopmpacdaaaGreatDoorZw
import Derived.Test.YtfipmopmpacdaaaGreatDoorZo
import Derived.Test.YtfipmopmpacdaaaGreatDoorY8
import Derived.Test.YtfipmopmpacdaaaGreatDoorU2
import Derived.Test.YtfipmopmpacdaaaGreatDoorZi
import Derived.Test.YtfipmopmpacdaaaGreatDoorZt
import Derived.Test.YtfipmopmpacdaaaGreatDoorZm
namespace Go.Proofs.YtfipmopmpacdaaaGreatDoor
open Go.RowKit
def kV : Nat := 64462
theorem kV_eq : kV = 64462 := rfl
def NearK (A k : Nat) : Prop := k ≤ 9218868437227405312 ∧ ∀ r, r < 9218868437227405312 → (r < k ↔ aboveD kV A r)
theorem nearK_uniq {A k j : Nat} (h : NearK A k) (g : NearK A j) : k = j := by
 rcases Nat.lt_or_ge k j with c | c
 ·exfalso
  have hk := g.1
  have := (h.2 k (by omega)).2 ((g.2 k (by omega)).1 c)
  omega
 ·rcases Nat.lt_or_ge j k with c2 | c2
  ·exfalso
   have hk := h.1
   have := (g.2 j (by omega)).2 ((h.2 j (by omega)).1 c2)
   omega
  ·omega
theorem nearK_of (s : Bool) {m : Nat} {p : Int} (hm : m ≠ 0) (hp : -65536 ≤ p) : ∃ k, Ieee.double.nearest s m p = Ieee.double.word s k ∧ NearK (m * 2 ^ (p + 65536).toNat) k := by
 obtain ⟨k, ek, hk, c⟩ := near_anyD s p kV (m := m) hm (by have := kV_eq; omega)
 rw [show (p + 1074 + ((kV : Nat) : Int)).toNat = (p + 65536).toNat by have := kV_eq; omega] at c
 exact ⟨k, ek, hk, c⟩
theorem word_k (s : Bool) {k : Nat} (hk : k < 9223372036854775808) : Ieee.double.word s k = if s then 9223372036854775808 + k else k := by
 have h := word_rung s hk
 have hl : Ieee.double.word s k < 18446744073709551616 := Ieee.double.word_lt (neg := s) hk
 have e := rung_of _ hl
 rw [h.1, h.2] at e
 rw [e]
theorem stepF_plus {k : Nat} {r : Int} (m : Int) (hk : k ≤ 9218868437227405312) (h0 : k = 0 → ¬ r < 0) (h1 : k = 9218868437227405312 → ¬ 0 < r) :
  stepF k r m = if (m = 1 ∨ m = 3) ∧ r < 0 then k - 1 else if m = 2 ∧ 0 < r then k + 1 else k := by
 have hs := (rung_pos (r := k) (by omega)).2
 unfold stepF dnB upB
 rw [hs]
 by_cases c1 : r < 0
 ·have k0 : k ≠ 0 := fun h => h0 h c1
  rw [decide_eq_true c1, decide_eq_false (by omega : ¬ 0 < r)]
  rw [cpy_pos (by omega), next_less hk k0, rung_small (by omega)]
  by_cases c2 : m = 1
  ·subst c2; simp [c1]
  ·by_cases c3 : m = 3
   ·subst c3; simp [c1]
   ·simp [c2, c3]; omega
 ·rw [decide_eq_false c1]
  by_cases c4 : 0 < r
  ·have k1 : k < 9218868437227405312 := by
    rcases Nat.lt_or_ge k 9218868437227405312 with h | h
    ·exact h
    ·exact absurd c4 (h1 (by omega))
   rw [decide_eq_true c4, cpy_pos (by omega), next_plus k1, rung_small (by omega)]
   by_cases c2 : m = 2
   ·subst c2; simp [c4]
   ·simp [c2]; omega
  ·rw [decide_eq_false c4]
   simp [c1, c4]
theorem stepF_less {k : Nat} {r : Int} (m : Int) (hk : k ≤ 9218868437227405312) (h0 : k = 0 → ¬ 0 < r) (h1 : k = 9218868437227405312 → ¬ r < 0) :
  stepF (9223372036854775808 + k) r m = 9223372036854775808 + if (m = 2 ∨ m = 3) ∧ 0 < r then k - 1 else if m = 1 ∧ r < 0 then k + 1 else k := by
 have hs := (rung_big (r := k) (by omega)).2
 unfold stepF dnB upB
 rw [hs]
 by_cases c1 : 0 < r
 ·have k0 : k ≠ 0 := fun h => h0 h c1
  rw [decide_eq_true c1, decide_eq_false (by omega : ¬ r < 0)]
  rw [cpy_big (by omega), next_big_up hk k0]
  by_cases c2 : m = 2
  ·subst c2; simp [c1]
  ·by_cases c3 : m = 3
   ·subst c3; simp [c1]
   ·simp [c2, c3]; omega
 ·rw [decide_eq_false c1]
  by_cases c4 : r < 0
  ·have k1 : k < 9218868437227405312 := by
    rcases Nat.lt_or_ge k 9218868437227405312 with h | h
    ·exact h
    ·exact absurd c4 (h1 (by omega))
   rw [decide_eq_true c4, cpy_big (by omega), next_big_dn k1, (rung_big (by omega)).1]
   by_cases c2 : m = 1
   ·subst c2; simp [c4]
   ·simp [c2]; omega
  ·rw [decide_eq_false c4]
   simp [c1, c4]
def sdK (neg : Bool) (A k : Nat) : Int := if k = 9218868437227405312 then (if neg then 1 else -1) else if neg then -sgI ((A : Int) - ((val k * 2 ^ kV : Nat) : Int)) else sgI ((A : Int) - ((val k * 2 ^ kV : Nat) : Int))
theorem sgI_pos {x : Int} (h : 0 < x) : sgI x = 1 := by unfold sgI; rw [if_neg (by omega), if_neg (by omega)]
theorem sgI_neg {x : Int} (h : x < 0) : sgI x = -1 := by unfold sgI; rw [if_pos h]
end Go.Proofs.YtfipmopmpacdaaaGreatDoor
