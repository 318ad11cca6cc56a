/- What the reference's Told, Whole, Of, Int answer. -/
import Derived.Test.YtmbcmhncicbbjaaGreatDoorU8
import Derived.Test.YtmbcmhncicbbjaaGreatDoorR1
namespace Go.Proofs.YtmbcmhncicbbjaaGreatDoor
open Go.RowKit

theorem NS.setBox {w : World} {ao : Option Addr} {cap : Nat} {xs : List Nat} {B c : Nat} (h : NS w ao cap xs) (hf : Frs B ao) (hc : c < B) (o : Nat) (v : Value) : NS (w.setCell ⟨c, o, none⟩ v) ao cap xs := ⟨h.1.box hf hc o v, h.2⟩
theorem of_norm {a : Nat} (hf : finB a = true) : normD ⟨sgn a, [spF a], spE a⟩ = ofD a := by
  by_cases h0 : rung a = 0
  · have e1 : spF a = 0 := by unfold spF; rw [if_pos h0]
    have e2 : ofD a = (dy0, 0) := by unfold ofD; rw [if_neg (by rw [hf]; simp), if_pos e1]
    rw [e2, e1]
    exact norm_zero rfl
  · have h1 := (sp_bd hf h0).1
    have e2 : ofD a = (⟨sgn a, [spF a], spE a⟩, 0) := by unfold ofD; rw [if_neg (by rw [hf]; simp), if_neg h1]
    obtain ⟨b1, b2, b3, b4, b5, b6⟩ := sp_bd hf h0
    have p2 := (sp_parts h0).2.1
    rw [e2]
    exact nrm_right (d := ⟨sgn a, [spF a], spE a⟩) (fun y hy => by simp at hy; omega) (right_of (by simp) ⟨by simp, by simpa using p2, by simpa using b1, by simp only; omega, by simp only; omega⟩)
theorem NS.one (w : World) (x : Nat) : NS (w.alloc (.cells #[.int .u64 (x : Int)] 75)) (some ⟨w.heap.size, 0, none⟩) 1 [x] :=
  ⟨one_lrow w x _ rfl, fun h => (by cases h), by simp⟩
theorem two_more {W w1 w2 : World} {o1 o2 : Obj} (h1 : Below W.heap.size W w1) (h2 : Below ((w1.alloc o1).alloc o2).heap.size ((w1.alloc o1).alloc o2) w2) : Below W.heap.size W w2 := by
  have h3 : Below W.heap.size W ((w1.alloc o1).alloc o2) := (h1.alloc h1.size _).alloc (by have := h1.size; simp; omega) _
  exact h3.trans (h2.mono h3.size)
theorem intD_lo (n : Int) : (normD ⟨decide (n < 0), lo n.natAbs, 0⟩).1 = intD n := by
  unfold intD normD sv
  have e : vl [n.natAbs] = n.natAbs := by simp [vl]
  simp only [vl_lo, e]
end Go.Proofs.YtmbcmhncicbbjaaGreatDoor
