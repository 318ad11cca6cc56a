/- VectorSums, of any lists and any factor: both sides are one. -/
import Derived.Test.YtngkknbikljpkaaAk
namespace Go.Proofs.Ytngkknbikljpkaa
open Go.RowKit

theorem ifFit_len (n m : Nat) (o : Nat → Option Nat) : (ifFit n m (tab n o)).length ≤ n := by
  unfold ifFit
  split
  · rw [tab_len]; exact Nat.le_refl _
  · simp
theorem sreals_LN {os : List (Option Nat)} {rs ss : List Nat} (hr : LN os rs) (hs : LN os ss) (ao bo : Option Addr) (cap cap2 : Nat) (w : World) (g1 : GRow w ao rs) (g2 : GRow w bo ss) (hl : os.length ≤ 17592186044416) :
    Calls Try.prog 18 #[.slice ao rs.length cap, .slice bo ss.length cap2] w fun e w' => e = .returned (.bool true) ∧ Below w.heap.size w w' := by
  have h := sreals_any rs ss ao bo cap cap2 w g1 g2 hr.fw hs.fw (by rw [hr.1]; omega) (by rw [hs.1]; omega)
  rw [hr.same hs] at h
  exact h
theorem GRow.cut {w : World} {ao : Option Addr} {xs : List Nat} (h : GRow w ao xs) (n : Nat) : GRow w ao (xs.take n) := by
  rcases h with h | ⟨b, off, rfl, hc⟩
  · exact Or.inl (by rw [List.length_take, h]; simp)
  · refine Or.inr ⟨b, off, rfl, fun j hj => ?_⟩
    rw [List.length_take] at hj
    rw [hc j (by omega), List.getD_eq_getElem?_getD, List.getD_eq_getElem?_getD, List.getElem?_take_of_lt (by omega)]
theorem FW.cut {xs : List Nat} (h : FW xs) (n : Nat) : FW (xs.take n) := fun x hx => h x (List.mem_of_mem_take hx)
theorem fit_le (n m : Nat) : 0 ≤ fitN n m ∧ fitN n m ≤ 4 := by
  unfold fitN
  split
  · split <;> omega
  · omega
end Go.Proofs.Ytngkknbikljpkaa
