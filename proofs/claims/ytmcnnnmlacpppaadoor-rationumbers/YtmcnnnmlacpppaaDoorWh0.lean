/- Limbs, any slice of them: Trim, Cmp, Add, Sub of layer 7's package limbs. -/
import Derived.Test.YtmcnnnmlacpppaaDoorZp
namespace Go.Proofs.YtmcnnnmlacpppaaDoor
open Go.RowKit

/-- Limbs in a slice that may be cut. -/
def LS (w : World) (ao : Option Addr) (cap : Nat) (xs : List Nat) : Prop := LRow w ao xs ∧ xs.length ≤ cap ∧ (ao = none → cap = 0)
theorem LS.below {w w' : World} {ao : Option Addr} {cap : Nat} {xs : List Nat} (h : LS w ao cap xs) (hb : Below w.heap.size w w') : LS w' ao cap xs := ⟨h.1.below hb, h.2⟩
theorem nlW_le {xs : List Nat} (h : Lm xs) : nl (vl xs) ≤ xs.length := by
  have := bl_le_iff.2 (vl_lt h)
  unfold nl
  omega
theorem loW_take {xs : List Nat} (h : Lm xs) : lo (vl xs) = xs.take (nl (vl xs)) := by
  have hl := nlW_le h
  refine List.ext_getElem (by rw [lo_length, List.length_take]; omega) fun i h1 h2 => ?_
  rw [lo_length] at h1
  have e1 : (lo (vl xs)).getD i 0 = vl xs / 2 ^ (64 * i) % 18446744073709551616 := by unfold lo; exact tl_getD h1
  have e2 := vl_digit h i
  rw [← e2] at e1
  simp only [List.getD_eq_getElem?_getD] at e1
  rw [List.getElem?_eq_getElem (by rw [lo_length]; exact h1), List.getElem?_eq_getElem (show i < xs.length by omega)] at e1
  simpa using e1
theorem LS.trim {w : World} {ao : Option Addr} {cap : Nat} {xs : List Nat} (h : LS w ao cap xs) (hL : Lm xs) : LS w ao cap (lo (vl xs)) := by
  have hl := nlW_le hL
  refine ⟨?_, by rw [lo_length]; have := h.2.1; omega, h.2.2⟩
  rcases h.1 with h0 | ⟨b, off, rfl, hc⟩
  · exact Or.inl (by rw [lo_length]; omega)
  · refine Or.inr ⟨b, off, rfl, fun j hj => ?_⟩
    rw [lo_length] at hj
    rw [hc j (by omega), loW_take hL]
    simp only [List.getD_eq_getElem?_getD, List.getElem?_take, if_pos hj]
set_option maxHeartbeats 400000 in
theorem trimL_any (xs : List Nat) (ao : Option Addr) (cap : Nat) (w : World) (h : LS w ao cap xs) (hL : Lm xs) (hn : xs.length ≤ 1000000) :
    Calls Tryd.prog 43 #[.slice ao xs.length cap] w fun e w' => e = .returned (.slice ao (nl (vl xs)) cap) ∧ w' = w := by
  have hcl := bitLen_any xs ao cap w h.1 hL (by omega)
  have ht := nlW_le hL
  have hc := h.2.1
  unfold nl at ht ⊢
  obtain ⟨l, hl⟩ : ∃ l, bl (vl xs) = l := ⟨_, rfl⟩
  rw [hl] at hcl ht ⊢
  have i1 : ((l : Int) + 64 - 1) / 64 = (((l + 63) / 64 : Nat) : Int) := by omega
  have i2 : (((l + 63) / 64 : Nat) : Int) ≤ (cap : Int) := by omega
  have i3 : l ≤ 100000000 := by omega
  obtain ⟨m, hm⟩ : ∃ m, (l + 63) / 64 = m := ⟨_, rfl⟩
  rw [hm] at i1 i2 ht ⊢
  have h0 := h.2.2
  clear hl hm h
  cases ao with
  | none =>
    have c0 := h0 rfl
    have m0 : m = 0 := by omega
    subst c0
    subst m0
    obtain ⟨N, hN⟩ : ∃ N, xs.length = N := ⟨_, rfl⟩
    have N0 : N = 0 := by omega
    rw [hN] at hcl ⊢
    subst N0
    clear hN hc ht i2
    go_enter Tryd.func43, Tryd.ntmps43
    go_wp2_with (go_at_call 44; refine hcl.mono ?_; rintro e w1 ⟨rfl, h1⟩; subst w1)
    go_ret
    exact ⟨rfl, rfl⟩
  | some a =>
    clear h0
    go_enter Tryd.func43, Tryd.ntmps43
    go_wp2_with (go_at_call 44; refine hcl.mono ?_; rintro e w1 ⟨rfl, h1⟩; subst w1)
    go_ret
    exact ⟨rfl, rfl⟩
end Go.Proofs.YtmcnnnmlacpppaaDoor
