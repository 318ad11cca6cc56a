/- What finite, fit and fitFactor of layer 14 answer. -/
import Derived.Test.YtmbcmhncicbbjaaGreatDoorRf0
import Derived.Test.YtmbcmhncicbbjaaGreatDoorRA
namespace Go.Proofs.YtmbcmhncicbbjaaGreatDoor
open Go.RowKit

/-- Are all numbers of the first n lists finite? -/
def fa (xs : Nat → List Nat) : Nat → Bool
  | 0 => true
  | n + 1 => fa xs n && (xs n).all finB
theorem fa_no {xs : Nat → List Nat} {k : Nat} (h : (xs k).all finB = false) : ∀ n, k < n → fa xs n = false
  | 0, hk => by omega
  | n + 1, hk => by
    unfold fa
    by_cases e : k = n
    · subst e; rw [h, Bool.and_false]
    · rw [fa_no h n (by omega), Bool.false_and]
theorem all_bad {xs : List Nat} {i : Nat} (hi : i < xs.length) (h : finB (xs.getD i 0) = false) : xs.all finB = false := by
  rw [List.all_eq_false]
  refine ⟨xs.getD i 0, ?_, by rw [h]; decide⟩
  rw [getD_at hi]
  exact List.getElem_mem hi
theorem all_good {xs : List Nat} (h : ∀ i, i < xs.length → finB (xs.getD i 0) = true) : xs.all finB = true := by
  rw [List.all_eq_true]
  intro x hx
  obtain ⟨j, hj, e⟩ := List.mem_iff_getElem.1 hx
  have := h j hj
  rw [getD_at hj, e] at this
  exact this
set_option maxRecDepth 100000 in
set_option maxHeartbeats 4000000 in
theorem finite14_any (n g c : Nat) (ao : Nat → Option Addr) (cap : Nat → Nat) (xs : Nat → List Nat) (w : World) (hn : n ≤ 3) (hc : ∀ j, j < n → w.cell? ⟨g, j, none⟩ = some (.slice (ao j) (xs j).length (cap j))) (hr : ∀ j, j < n → GRow w (ao j) (xs j)) (hF : ∀ j, j < n → FW (xs j)) (hm : ∀ j, j < n → (xs j).length ≤ 1125899906842624) :
    Calls Tryz.prog 25 #[.slice (some ⟨g, 0, none⟩) n c] w fun e w' => e = .returned (.bool (fa xs n)) ∧ w' = w := by
  go_enter Tryz.func25, Tryz.ntmps25
  go_wp2
  go_loopg [8] n (fun gg s8 wr => ∃ k : Nat, k ≤ n ∧ gg = n - k ∧ s8 = .int .i64 k ∧ Hid (fa xs k = true) ∧ wr = w)
  case atStart => exact ⟨0, Nat.zero_le _, rfl, rfl, rfl, rfl⟩
  case round =>
    obtain ⟨k, hk, hg, rfl, hz, h'⟩ := hrel
    subst wr
    have HG : Hid (gk = n - k) := hg
    clear hg
    by_cases hlt : k < n
    · have g1 : w.cell? ⟨g, k, none⟩ = some (.slice (ao k) (xs k).length (cap k)) := hc k hlt
      have hrk := hr k hlt
      have hFk := hF k hlt
      have hmk := hm k hlt
      have HA : Hid (∀ i, i < (xs k).length → finB ((xs k).getD i 0) = false → fa xs n = false) := fun i hi h => fa_no (all_bad hi h) n hlt
      have HB : Hid ((∀ i, i < (xs k).length → finB ((xs k).getD i 0) = true) → fa xs (k + 1) = true) := fun h => (by unfold fa; rw [hz.out, all_good h]; rfl)
      have i1 : (k : Int) < (n : Int) := by omega
      clear hc hr hF hm hz
      generalize xs k = l at *
      generalize ao k = a at *
      generalize cap k = q at *
      go_upto_region 5 with fail
      go_loopg [14] l.length (fun gg s14 wr => ∃ i : Nat, i ≤ l.length ∧ gg = l.length - i ∧ s14 = .int .i64 i ∧ Hid (∀ j, j < i → finB (l.getD j 0) = true) ∧ wr = w)
      case atStart => exact ⟨0, Nat.zero_le _, rfl, rfl, fun j hj => by omega, rfl⟩
      case round =>
        obtain ⟨i, hi, hg, rfl, hz, h'⟩ := hrel
        subst wr
        have HG2 : Hid (gk = l.length - i) := hg
        clear hg
        by_cases hlt2 : i < l.length
        · rcases hrk with h | ⟨b, off, rfl, hc⟩
          · omega
          have g2 := hc i hlt2
          have hx := hFk.at hlt2
          have H0 := HA.out i hlt2
          obtain ⟨x, ex⟩ : ∃ x, l.getD i 0 = x := ⟨_, rfl⟩
          rw [ex] at g2 hx H0
          have hf := fin_le x
          have i2 : (i : Int) < (l.length : Int) := by omega
          cases fx : finB x <;> rw [fx] at hf
          · have HE : Hid (fa xs n = false) := H0 fx
            clear hc ex hz H0 HA HB
            go_wp2_with (go_at_call 47; refine (abs_any x hx _).mono ?_; rintro e w' ⟨rfl, rfl⟩)
            go_ret
            exact ⟨by rw [HE.out]; rfl, rfl⟩
          · have HZ : Hid (∀ j, j < i + 1 → finB (l.getD j 0) = true) := fun j h => by
              by_cases e : j = i
              · rw [e, ex]; exact fx
              · exact hz.out j (by omega)
            clear hc ex hz H0
            go_wp2_with (go_at_call 47; refine (abs_any x hx _).mono ?_; rintro e w' ⟨rfl, rfl⟩)
            go_roundg (l.length - (i + 1))
            case measure => rw [HG2.out]; omega
            case rel => exact ⟨i + 1, by omega, rfl, by go_num, HZ, rfl⟩
        · have ei : i = l.length := by omega
          subst ei
          have HZ : Hid (fa xs (k + 1) = true) := HB.out hz.out
          have i2 : ¬ (l.length : Int) < (l.length : Int) := by omega
          clear hz HA HB
          go_wp2
          go_roundg (n - (k + 1))
          case measure => rw [HG.out]; omega
          case rel => exact ⟨k + 1, by omega, rfl, by go_num, HZ, rfl⟩
    · have ek : k = n := by omega
      subst ek
      have i1 : ¬ (k : Int) < (k : Int) := by omega
      have HZ := hz.out
      clear hc hr hF hm hz
      go_wp2
      go_ret
      exact ⟨by first | rfl | (rw [HZ]; rfl), rfl⟩
set_option maxHeartbeats 1000000 in
theorem rfit_any14 (r c : Int) (ao xo bo : Option Addr) (mn cap xn xc bn bc : Nat) (w : World) :
    Calls Tryz.prog 24 #[mxV r c ao mn cap, .slice xo xn xc, .slice bo bn bc] w fun e w' => e = .returned (.bool (fit14 r c mn xn bn)) ∧ Below w.heap.size w w' := by
  have cr := fun W => mright_any r c ao mn cap W
  have B0 := below_one w (.cells #[.int .i64 r, .int .i64 c, .slice ao mn cap] 24)
  have M0 := B3.new w (.int .i64 r) (.int .i64 c) (.slice ao mn cap) 24
  unfold fit14
  cases q : rightM r c mn
  · rw [q] at cr
    go_enter Tryz.func24, Tryz.ntmps24
    go_wp2_with (go_at_call 41; refine (cr _).mono ?_; rintro e w1 ⟨rfl, b1⟩)
    go_ret
    exact ⟨rfl, B0.trans (b1.mono B0.size)⟩
  · rw [q] at cr
    by_cases h : (xn : Int) = c
    · have e1 : ((xn : Int) == c) = true := by simp [h]
      rw [decide_eq_true h]
      by_cases h2 : (bn : Int) = r
      · have e2 : ((bn : Int) == r) = true := by simp [h2]
        rw [decide_eq_true h2]
        clear h h2
        go_enter Tryz.func24, Tryz.ntmps24
        go_wp2_with (go_at_call 41; refine (cr _).mono ?_; rintro e w1 ⟨rfl, b1⟩; obtain ⟨m0, m1, m2, _⟩ := M0.below b1)
        go_ret
        exact ⟨rfl, B0.trans (b1.mono B0.size)⟩
      · have e2 : ((bn : Int) == r) = false := by simp [h2]
        rw [decide_eq_false h2]
        clear h h2
        go_enter Tryz.func24, Tryz.ntmps24
        go_wp2_with (go_at_call 41; refine (cr _).mono ?_; rintro e w1 ⟨rfl, b1⟩; obtain ⟨m0, m1, m2, _⟩ := M0.below b1)
        go_ret
        exact ⟨rfl, B0.trans (b1.mono B0.size)⟩
    · have e1 : ((xn : Int) == c) = false := by simp [h]
      rw [decide_eq_false h]
      clear h
      go_enter Tryz.func24, Tryz.ntmps24
      go_wp2_with (go_at_call 41; refine (cr _).mono ?_; rintro e w1 ⟨rfl, b1⟩; obtain ⟨m0, m1, m2, _⟩ := M0.below b1)
      go_ret
      exact ⟨rfl, B0.trans (b1.mono B0.size)⟩
def ff14 (r c n : Int) (ln dn : Nat) : Bool := rightF n ln dn && decide (r = n) && decide (c = n)
set_option maxHeartbeats 1000000 in
theorem rff_any (r c n : Int) (ao lo dO : Option Addr) (mn cap ln lc dn dc : Nat) (w : World) :
    Calls Tryz.prog 36 #[mxV r c ao mn cap, fcV n lo ln lc dO dn dc] w fun e w' => e = .returned (.bool (ff14 r c n ln dn)) ∧ Below w.heap.size w w' := by
  have cr := fun W => lright_any n lo dO ln lc dn dc W
  have B0 : Below w.heap.size w ((w.alloc (.cells #[.int .i64 r, .int .i64 c, .slice ao mn cap] 24)).alloc (.cells #[.int .i64 n, .slice lo ln lc, .slice dO dn dc] 36)) := old_two (Below.refl _ _)
  have M0 := (B3.new w (.int .i64 r) (.int .i64 c) (.slice ao mn cap) 24).alloc (.cells #[.int .i64 n, .slice lo ln lc, .slice dO dn dc] 36)
  have F0 := B3.newAt (w := w.alloc (.cells #[.int .i64 r, .int .i64 c, .slice ao mn cap] 24)) (n := w.heap.size + 1) (by go_simp) (.int .i64 n) (.slice lo ln lc) (.slice dO dn dc) 36
  unfold ff14
  cases q : rightF n ln dn
  · rw [q] at cr
    go_enter Tryz.func36, Tryz.ntmps36
    go_wp2_with (go_at_call 67; refine (cr _).mono ?_; rintro e w1 ⟨rfl, b1⟩)
    go_ret
    exact ⟨rfl, B0.trans (b1.mono B0.size)⟩
  · rw [q] at cr
    by_cases h : r = n
    · have e1 : (r == n) = true := by simp [h]
      rw [decide_eq_true h]
      by_cases h2 : c = n
      · have e2 : (c == n) = true := by simp [h2]
        rw [decide_eq_true h2]
        clear h h2
        go_enter Tryz.func36, Tryz.ntmps36
        go_wp2_with (go_at_call 67; refine (cr _).mono ?_; rintro e w1 ⟨rfl, b1⟩; obtain ⟨m0, m1, m2, _⟩ := M0.below b1; obtain ⟨f0, f1, f2, _⟩ := F0.below b1)
        go_ret
        exact ⟨rfl, B0.trans (b1.mono B0.size)⟩
      · have e2 : (c == n) = false := by simp [h2]
        rw [decide_eq_false h2]
        clear h h2
        go_enter Tryz.func36, Tryz.ntmps36
        go_wp2_with (go_at_call 67; refine (cr _).mono ?_; rintro e w1 ⟨rfl, b1⟩; obtain ⟨m0, m1, m2, _⟩ := M0.below b1; obtain ⟨f0, f1, f2, _⟩ := F0.below b1)
        go_ret
        exact ⟨rfl, B0.trans (b1.mono B0.size)⟩
    · have e1 : (r == n) = false := by simp [h]
      rw [decide_eq_false h]
      clear h
      go_enter Tryz.func36, Tryz.ntmps36
      go_wp2_with (go_at_call 67; refine (cr _).mono ?_; rintro e w1 ⟨rfl, b1⟩; obtain ⟨m0, m1, m2, _⟩ := M0.below b1; obtain ⟨f0, f1, f2, _⟩ := F0.below b1)
      go_ret
      exact ⟨rfl, B0.trans (b1.mono B0.size)⟩
end Go.Proofs.YtmbcmhncicbbjaaGreatDoor
