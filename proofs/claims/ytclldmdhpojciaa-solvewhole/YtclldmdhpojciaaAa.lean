/- Lists of floats held against one another: SameReals, and Same of the program and of the document. -/
import Derived.Test.YtclldmdhpojciaaBb
import Derived.Test.YtclldmdhpojciaaWj
namespace Go.Proofs.Ytclldmdhpojciaa
open Go.RowKit

/-- Are both as long, and the same at each place? -/
def sameL (xs ys : List Nat) : Bool := decide (xs.length = ys.length) && (List.range xs.length).all fun j => sameB (xs.getD j 0) (ys.getD j 0)
theorem sameL_yes {xs ys : List Nat} (h : xs.length = ys.length) (hj : ∀ j, j < xs.length → sameB (xs.getD j 0) (ys.getD j 0) = true) : sameL xs ys = true := by
  unfold sameL
  rw [decide_eq_true h, Bool.true_and, List.all_eq_true]
  intro j hm
  exact hj j (List.mem_range.1 hm)
theorem sameL_len {xs ys : List Nat} (h : ¬ xs.length = ys.length) : sameL xs ys = false := by
  unfold sameL
  rw [decide_eq_false h, Bool.false_and]
theorem sameL_not {xs ys : List Nat} {j : Nat} (hj : j < xs.length) (h : sameB (xs.getD j 0) (ys.getD j 0) = false) : sameL xs ys = false := by
  unfold sameL
  have : ((List.range xs.length).all fun j => sameB (xs.getD j 0) (ys.getD j 0)) = false := by
    rw [List.all_eq_false]
    exact ⟨j, List.mem_range.2 hj, by rw [h]; simp⟩
  rw [this, Bool.and_false]
set_option maxHeartbeats 1000000 in
theorem sreals_any (xs ys : List Nat) (ao bo : Option Addr) (cap cap2 : Nat) (w : World) (hr : GRow w ao xs) (hs : GRow w bo ys) (hF : FW xs) (hG : FW ys) (hn : xs.length ≤ 1125899906842624) (_hm : ys.length ≤ 1125899906842624) :
    Calls Try.prog 31 #[.slice ao xs.length cap, .slice bo ys.length cap2] w fun e w' => e = .returned (.bool (sameL xs ys)) ∧ Below w.heap.size w w' := by
  by_cases hl : xs.length = ys.length
  · have HL : Hid (ys.length = xs.length) := hl.symm
    have HY : Hid ((∀ j, j < xs.length → sameB (xs.getD j 0) (ys.getD j 0) = true) → sameL xs ys = true) := sameL_yes hl
    have HX : Hid (∀ j, j < xs.length → sameB (xs.getD j 0) (ys.getD j 0) = false → sameL xs ys = false) := fun j h1 h2 => sameL_not h1 h2
    rw [← hl]
    clear hl
    go_enter Try.func31, Try.ntmps31
    go_wp2
    go_loopg [5] xs.length (fun g i wr => ∃ k : Nat, k ≤ xs.length ∧ g = xs.length - k ∧ i = .int .i64 k ∧ Hid (∀ j, j < k → sameB (xs.getD j 0) (ys.getD j 0) = true) ∧ Hid (Below w.heap.size w wr))
    case atStart => exact ⟨0, Nat.zero_le _, rfl, rfl, fun j hj => by omega, Below.refl _ _⟩
    case round =>
      obtain ⟨k, hk, hg, rfl, hN, hB⟩ := hrel
      have HG : Hid (gk = xs.length - k) := hg
      clear hg
      by_cases hlt : k < xs.length
      · rcases hr.below hB.out with h | ⟨b, off, rfl, hc⟩
        · omega
        rcases hs.below hB.out with h | ⟨b2, off2, rfl, hd⟩
        · have := HL.out; omega
        have hlt2 : k < ys.length := by have := HL.out; omega
        have g1 := hc k hlt
        have g2 := hd k hlt2
        have hx := hF.at hlt
        have hy := hG.at hlt2
        have H0 := HX.out k hlt
        have HS : Hid (sameB (xs.getD k 0) (ys.getD k 0) = true → ∀ j, j < k + 1 → sameB (xs.getD j 0) (ys.getD j 0) = true) := fun h j hj => by
          by_cases e : j = k
          · subst e; exact h
          · exact hN.out j (by omega)
        have i1 : (k : Int) < (xs.length : Int) := by omega
        generalize xs.getD k 0 = x at *
        generalize ys.getD k 0 = y at *
        have cs := samef_any x y hx hy
        have HD := hB.out.drew
        clear hc hd hlt2
        cases hq : sameB x y
        · rw [hq] at cs
          have HZ : Hid (sameL xs ys = false) := H0 hq
          clear H0
          go_wp2
          go_region_with (go_at_call 33; refine (cs _).mono ?_; rintro e w' ⟨rfl, rfl⟩)
          all_goals
            go_wp2
            go_ret
            exact ⟨end_bool HZ.out.symm, HD⟩
        · rw [hq] at cs
          go_wp2
          go_region_with (go_at_call 33; refine (cs _).mono ?_; rintro e w' ⟨rfl, rfl⟩)
          all_goals
            go_wp2
            go_roundg (xs.length - (k + 1))
            case measure => rw [HG.out]; omega
            case rel => exact ⟨k + 1, by omega, rfl, by go_num, HS.out hq, HD⟩
      · have hY := HY.out (fun j hj => hN.out j (by omega))
        have HZ : Hid (sameL xs ys = true) := hY
        clear hY
        have i1 : ¬ (k : Int) < (xs.length : Int) := by omega
        have HD := hB.out
        clear hN
        go_wp2
        go_ret
        exact ⟨end_bool HZ.out.symm, HD⟩
  · rw [sameL_len hl]
    have hI : ¬ (xs.length : Int) = (ys.length : Int) := by omega
    go_enter Try.func31, Try.ntmps31
    go_wp2
    go_ret
    exact ⟨rfl, Below.refl _ _⟩
end Go.Proofs.Ytclldmdhpojciaa
