/- What holds of layer 3's laws answers of finite floats: on which side of a float the exact answer lies. -/
import Derived.Test.YtfipmopmpacdaaaGreatDoorY5
import Derived.Test.YtfipmopmpacdaaaGreatDoorV3
import Derived.Test.YtfipmopmpacdaaaGreatDoorZp
import Derived.Test.YtfipmopmpacdaaaGreatDoorV1
import Derived.Test.YtfipmopmpacdaaaGreatDoorY9
namespace Go.Proofs.YtfipmopmpacdaaaGreatDoor
open Go.RowKit
theorem it_inf {a : Nat} (ha : a < 18446744073709551616) (fa : finB a = false) : (nanB a = false ∧ Ieee.double.read a = .infinity (sgn a) ∧ a = Ieee.double.word (sgn a) 9218868437227405312) ∨ (nanB a = true ∧ ∃ s t, Ieee.double.read a = .nan s t) := by
 have hr : ¬ rung a < 9218868437227405312 := by unfold finB at fa; simpa using fa
 rw [read_eq a ha, if_neg hr]
 by_cases h : rung a = 9218868437227405312
 ·left
  rw [if_pos h]
  refine ⟨rung_nan (by omega), rfl, ?_⟩
  rw [word_k _ (by omega), ← h]
  exact rung_of a ha
 ·right
  rw [if_neg h]
  exact ⟨by unfold nanB; exact decide_eq_true (by omega), _, _, rfl⟩
def Fd (D : Dy) (X : Int) : Prop := rightB D = true ∧ Lm D.mag ∧ qd D = X * 2 ^ puH
def Fzr (w : World) (p : Nat) : Prop := w.frozen? ⟨p, 0, none⟩ = false ∧ w.frozen? ⟨p, 1, none⟩ = false ∧ w.frozen? ⟨p, 2, none⟩ = false
theorem Fzr.below {w w1 : World} {p : Nat} (h : Fzr w p) (hp : p < w.heap.size) (hb : Below w.heap.size w w1) : Fzr w1 p := by
 obtain ⟨_, hf⟩ := oldc hb
 exact ⟨(hf _ _ hp).trans h.1, (hf _ _ hp).trans h.2.1, (hf _ _ hp).trans h.2.2⟩
theorem Hd.six {w w1 : World} {p : Nat} {d : Dy} {ao : Option Addr} {cap : Nat} (h : Hd w p d ao cap) (hz : Fzr w p) (hb : Below w.heap.size w w1) : Hd w1 p d ao cap ∧ Fzr w1 p := ⟨h.below hb, hz.below (World.block_lt_of_cell? w _ h.c0) hb⟩
theorem Fzr.set {w : World} {p : Nat} (h : Fzr w p) (q : Nat) (v0 v1 v2 : Value) : Fzr (((w.setCell ⟨q, 0, none⟩ v0).setCell ⟨q, 1, none⟩ v1).setCell ⟨q, 2, none⟩ v2) p := by
 obtain ⟨h0, h1, h2⟩ := h
 exact ⟨by go_simp, by go_simp, by go_simp⟩
end Go.Proofs.YtfipmopmpacdaaaGreatDoor
