/- VectorTells, of any lists: both sides are one. -/
import Derived.Test.YtngkknbikljpkaaY1
namespace Go.Proofs.Ytngkknbikljpkaa
open Go.RowKit

theorem sameL_comm (xs ys : List Nat) : sameL ys xs = sameL xs ys := by
  by_cases hl : xs.length = ys.length
  · have hsym : ∀ a b, sameB a b = sameB b a := fun a b => by
      unfold sameB
      cases ha : nanB a <;> cases hb : nanB b
      · simp only [Bool.false_eq_true, if_false]
        by_cases e : a = b
        · subst e; rfl
        · rw [decide_eq_false e, decide_eq_false (fun h => e h.symm)]
      · simp only [Bool.false_eq_true, if_false, if_true]
        exact decide_eq_false (fun e => by subst e; rw [ha] at hb; cases hb)
      · simp only [Bool.false_eq_true, if_false, if_true]
        exact (decide_eq_false (fun e => by subst e; rw [ha] at hb; cases hb)).symm
      · rfl
    unfold sameL
    rw [hl]
    congr 1
    congr 1
    funext j
    exact hsym _ _
  · rw [sameL_len hl, sameL_len (fun h => hl h.symm)]
theorem sameB_self (a : Nat) : sameB a a = true := by unfold sameB; cases nanB a <;> simp
theorem sameL_self (xs : List Nat) : sameL xs xs = true := sameL_yes rfl fun _ _ => sameB_self _
theorem vsameNR {o : Option Nat} {r s : Nat} (h : NR o r) (g : NR o s) (w : World) : Calls Try.prog 9 #[.float .f64 r, .float .f64 s] w fun e w' => e = .returned (.bool true) ∧ w' = w := by
  have k := samef_any r s h.1 g.1 w
  rw [NR_sameB h g] at k
  exact k
end Go.Proofs.Ytngkknbikljpkaa
