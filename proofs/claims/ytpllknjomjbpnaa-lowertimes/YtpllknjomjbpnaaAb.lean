/- Same, of the program and of the document. -/
import Derived.Test.YtpllknjomjbpnaaAa
import Derived.Deep.QuietTactic
import Derived.BigQuiet
namespace Go.Proofs.Ytpllknjomjbpnaa
open Go.RowKit

theorem ord_same (a : Nat) (ha : a < 18446744073709551616) : (FloatKind.f64.format.order a a == some .eq) = !nanB a := by
  rw [← ord_self a ha]
  simp [bne]
set_option maxHeartbeats 400000 in
theorem alike_any (a b : Nat) (ha : a < 18446744073709551616) (hb : b < 18446744073709551616) (w : World) :
    Calls Try.prog 65 #[.float .f64 a, .float .f64 b] w fun e w' => e = .returned (.bool (sameB a b)) ∧ w' = w := by
  have fa := run_fbits a
  have fb := run_fbits b
  have ca := isnan_any a ha
  have cb := isnan_any b hb
  by_cases h : a = b
  · have b1 : ((a : Int) == (b : Int)) = true := by simp; omega
    have HE : Hid (sameB a b = true) := (show sameB a b = true by unfold sameB; subst h; cases nanB a <;> simp)
    clear h
    go_enter Try.func65, Try.ntmps65
    go_wp2
    go_ret
    exact ⟨end_bool HE.out.symm, rfl⟩
  · have b1 : ((a : Int) == (b : Int)) = false := by simp; omega
    have HE : Hid (sameB a b = (nanB a && nanB b)) := (show sameB a b = (nanB a && nanB b) by unfold sameB; cases nanB a <;> simp [h])
    clear h
    cases ea : nanB a <;> cases eb : nanB b
    all_goals
      rw [ea] at ca HE
      rw [eb] at cb HE
      go_enter Try.func65, Try.ntmps65
      go_wp2_with (first
        | (go_at_call_of 54 (Value.float FloatKind.f64 a); refine (ca _).mono ?_; rintro e w' ⟨rfl, rfl⟩)
        | (go_at_call_of 54 (Value.float FloatKind.f64 b); refine (cb _).mono ?_; rintro e w' ⟨rfl, rfl⟩))
      go_ret
      exact ⟨end_bool HE.out.symm, rfl⟩
set_option maxHeartbeats 1000000 in
theorem vsame_any (xs ys : List Nat) (ao bo : Option Addr) (cap cap2 : Nat) (w : World) (hr : GRow w ao xs) (hs : GRow w bo ys) (hF : FW xs) (hG : FW ys) (hn : xs.length ≤ 1125899906842624) (_hm : ys.length ≤ 1125899906842624) :
    Calls Try.prog 60 #[.slice ao xs.length cap, .slice bo ys.length cap2] w fun e w' => e = .returned (.bool (sameL xs ys)) ∧ Below w.heap.size w w' := by
  by_cases hl : xs.length = ys.length
  · have HL : Hid (ys.length = xs.length) := hl.symm
    have HY : Hid ((∀ j, j < xs.length → sameB (xs.getD j 0) (ys.getD j 0) = true) → sameL xs ys = true) := sameL_yes hl
    have HX : Hid (∀ j, j < xs.length → sameB (xs.getD j 0) (ys.getD j 0) = false → sameL xs ys = false) := fun j h1 h2 => sameL_not h1 h2
    rw [← hl]
    clear hl
    go_enter Try.func60, Try.ntmps60
    go_wp2
    go_loopg [5, 13] xs.length (fun g _ i wr => ∃ k : Nat, k ≤ xs.length ∧ g = xs.length - k ∧ i = .int .i64 k ∧ Hid (∀ j, j < k → sameB (xs.getD j 0) (ys.getD j 0) = true) ∧ Hid (Below w.heap.size w wr))
    case atStart => exact ⟨0, Nat.zero_le _, rfl, rfl, fun j hj => by omega, Below.refl _ _⟩
    case round =>
      obtain ⟨k, hk, hg, rfl, hN, hB⟩ := hrel
      have HG : Hid (gk = xs.length - k) := hg
      clear hg
      by_cases hlt : k < xs.length
      · rcases hr.below hB.out with h | ⟨b, off, rfl, hc⟩
        · omega
        rcases hs.below hB.out with h | ⟨b2, off2, rfl, hd⟩
        · have := HL.out; omega
        have hlt2 : k < ys.length := by have := HL.out; omega
        have g1 := hc k hlt
        have g2 := hd k hlt2
        have hx := hF.at hlt
        have hy := hG.at hlt2
        have H0 := HX.out k hlt
        have HS : Hid (sameB (xs.getD k 0) (ys.getD k 0) = true → ∀ j, j < k + 1 → sameB (xs.getD j 0) (ys.getD j 0) = true) := fun h j hj => by
          by_cases e : j = k
          · subst e; exact h
          · exact hN.out j (by omega)
        have i1 : (k : Int) < (xs.length : Int) := by omega
        generalize xs.getD k 0 = x at *
        generalize ys.getD k 0 = y at *
        have cs := alike_any x y hx hy
        have HD := hB.out.drew
        clear hc hd hlt2
        cases hq : sameB x y
        · rw [hq] at cs
          have HZ : Hid (sameL xs ys = false) := H0 hq
          clear H0
          go_wp2
          go_region_with (go_at_call 65; refine (cs _).mono ?_; rintro e w' ⟨rfl, rfl⟩)
          all_goals
            go_wp2
            go_ret
            exact ⟨end_bool HZ.out.symm, HD⟩
        · rw [hq] at cs
          go_wp2
          go_region_with (go_at_call 65; refine (cs _).mono ?_; rintro e w' ⟨rfl, rfl⟩)
          all_goals
            go_wp2
            go_roundg (xs.length - (k + 1))
            case measure => rw [HG.out]; omega
            case rel => exact ⟨k + 1, by omega, rfl, by go_num, HS.out hq, HD⟩
      · have hY := HY.out (fun j hj => hN.out j (by omega))
        have HZ : Hid (sameL xs ys = true) := hY
        clear hY
        have i1 : ¬ (k : Int) < (xs.length : Int) := by omega
        have HD := hB.out
        clear hN
        go_wp2
        go_ret
        exact ⟨end_bool HZ.out.symm, HD⟩
  · rw [sameL_len hl]
    have hI : ¬ (xs.length : Int) = (ys.length : Int) := by omega
    go_enter Try.func60, Try.ntmps60
    go_wp2
    go_ret
    exact ⟨rfl, Below.refl _ _⟩
end Go.Proofs.Ytpllknjomjbpnaa
