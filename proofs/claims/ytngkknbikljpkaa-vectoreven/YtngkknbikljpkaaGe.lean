/- VectorEven: what its walk asks of the other calls. -/
import Derived.Test.YtngkknbikljpkaaGd
import Derived.Test.YtngkknbikljpkaaY1
import Derived.Test.YtngkknbikljpkaaZ4
import Derived.Deep.QuietTactic
import Derived.BigQuiet
namespace Go.Proofs.Ytngkknbikljpkaa
open Go.RowKit

set_option maxHeartbeats 400000 in
theorem pick41 (x : Int) (w : World) : Calls Try.prog 13 #[.int .i64 x, .int .i64 41] w fun e w' => ∃ m : Int, e = .returned (.int .i64 m) ∧ 0 ≤ m ∧ m ≤ 40 ∧ w' = w := by
  have b1 : x.tmod 41 < 41 := Int.tmod_lt_of_pos x (by omega)
  have b2 : -41 < x.tmod 41 := by
    have := Int.tmod_lt_of_pos (-x) (show (0 : Int) < 41 by omega)
    rw [Int.neg_tmod] at this
    omega
  by_cases h : x.tmod 41 < 0
  · generalize hy : x.tmod 41 = y at *
    clear b1
    go_enter Try.func13, Try.ntmps13
    go_wp2
    go_ret
    exact ⟨_, rfl, by omega, by omega, rfl⟩
  · generalize hy : x.tmod 41 = y at *
    clear b2
    go_enter Try.func13, Try.ntmps13
    go_wp2
    go_ret
    exact ⟨_, rfl, by omega, by omega, rfl⟩
theorem pwT_of {L : Int} (h1 : -20 ≤ L) (h2 : L ≤ 20) {t : Nat} (ht : (t : Int) = 4607182418800017408 + L * 4503599627370496) : PwT t := by
  by_cases h : 0 ≤ L
  · have e : t = (1023 + L.toNat) * 4503599627370496 := by omega
    rw [e]
    exact ⟨L.toNat, by omega, Or.inl (pwU (by omega))⟩
  · have e : t = (1023 - (-L).toNat) * 4503599627370496 := by omega
    rw [e]
    exact ⟨(-L).toNat, by omega, Or.inr (pwD (by omega))⟩
theorem ldexp_one (L : Int) (h1 : -20 ≤ L) (h2 : L ≤ 20) (w : World) : Calls Try.prog 12 #[.float .f64 4607182418800017408, .int .i64 L] w fun e w' => ∃ t, e = .returned (.float .f64 t) ∧ PwT t ∧ w' = w := by
  obtain ⟨t, ht⟩ : ∃ t : Nat, (t : Int) = 4607182418800017408 + L * 4503599627370496 := ⟨(4607182418800017408 + L * 4503599627370496).toNat, by omega⟩
  have hT := pwT_of h1 h2 ht
  have e : (4607182418800017408 / 4503599627370496 : Nat) = 1023 := by decide
  have hc := fun w => ldexp_at 4607182418800017408 L (by omega) (by omega) (by omega) (by omega) t (Or.inr (Or.inl ⟨by rw [e]; omega, by rw [e]; omega, by omega⟩)) w
  clear h1 h2 ht
  have HT : Hid (PwT t) := hT
  clear hT
  go_enter Try.func12, Try.ntmps12
  go_wp2_with (go_at_call 29; refine (hc _).mono ?_; rintro e w' ⟨rfl, rfl⟩)
  go_ret
  exact ⟨_, rfl, HT.out, rfl⟩
set_option maxHeartbeats 400000 in
theorem vlike (a b : Nat) (h : (FloatKind.f64.format.order a b == some .eq) = true) (w : World) : Calls Try.prog 15 #[.float .f64 a, .float .f64 b] w fun e w' => e = .returned (.bool true) ∧ w' = w := by
  go_enter Try.func15, Try.ntmps15
  go_wp2
  go_ret
  exact ⟨rfl, rfl⟩
theorem ng_like {p r : Nat} (h : Ng p r) : (FloatKind.f64.format.order r (negW p) == some .eq) = true := by
  obtain ⟨h1, h2, h3, h4, h5⟩ := h
  have f5 := (neg_fin h1).trans h3
  rw [ord_eq h2 (negW_lt h1) (rung_nan (Nat.le_of_lt (fin_rung h4))) (rung_nan (Nat.le_of_lt (fin_rung f5))) (vI_place (by rw [h5, vI_ng h1]))]
  rfl
theorem vsame_LN {os : List (Option Nat)} {rs ss : List Nat} (hr : LN os rs) (hs : LN os ss) (ao bo : Option Addr) (cap cap2 : Nat) (w : World) (g1 : GRow w ao rs) (g2 : GRow w bo ss) (hl : os.length ≤ 17592186044416) :
    Calls Try.prog 10 #[.slice ao rs.length cap, .slice bo ss.length cap2] w fun e w' => e = .returned (.bool true) ∧ Below w.heap.size w w' := by
  have h := vsame_any rs ss ao bo cap cap2 w g1 g2 hr.fw hs.fw (by rw [hr.1]; omega) (by rw [hs.1]; omega)
  rw [hr.same hs] at h
  exact h
theorem fit_same {n : Nat} (h : n ≤ 300) : fitN n n = 0 := by
  unfold fitN
  rw [if_pos rfl, if_neg (by omega)]
/-- The tests of sizes. -/
theorem tame_tests {x : Nat} (hx : x < 18446744073709551616) :
    (rung x = 0 ∧ (FloatKind.f64.format.order (rung x) 0 != some .eq) = false) ∨
    (Tame x ∧ (FloatKind.f64.format.order (rung x) 0 != some .eq) = true ∧ (FloatKind.f64.format.order (rung x) 3706462493325918208 == some .gt || FloatKind.f64.format.order (rung x) 3706462493325918208 == some .eq) = true ∧ (FloatKind.f64.format.order (rung x) 5507902344274116608 == some .lt || FloatKind.f64.format.order (rung x) 5507902344274116608 == some .eq) = true) ∨
    ((FloatKind.f64.format.order (rung x) 0 != some .eq) = true ∧ (FloatKind.f64.format.order (rung x) 3706462493325918208 == some .gt || FloatKind.f64.format.order (rung x) 3706462493325918208 == some .eq) = false) ∨
    ((FloatKind.f64.format.order (rung x) 0 != some .eq) = true ∧ (FloatKind.f64.format.order (rung x) 3706462493325918208 == some .gt || FloatKind.f64.format.order (rung x) 3706462493325918208 == some .eq) = true ∧ (FloatKind.f64.format.order (rung x) 5507902344274116608 == some .lt || FloatKind.f64.format.order (rung x) 5507902344274116608 == some .eq) = false) := by
  have hr := rung_lt x
  have hz : (FloatKind.f64.format.order (rung x) 0 != some .eq) = !(rung x == 0) := by
    have := zero_eq (x := rung x) (by omega)
    rw [rung_small hr] at this
    rw [← this]; rfl
  by_cases h0 : rung x = 0
  · left
    exact ⟨h0, by rw [hz, h0]; rfl⟩
  right
  have hz2 : (FloatKind.f64.format.order (rung x) 0 != some .eq) = true := by rw [hz]; simpa using h0
  rw [hz2]
  cases hn : nanB x
  · have hn2 : nanB (rung x) = false := by rw [nan_rung]; exact hn
    have p0 := place_small hr
    have g1 : (FloatKind.f64.format.order (rung x) 3706462493325918208 == some .gt || FloatKind.f64.format.order (rung x) 3706462493325918208 == some .eq) = decide (3706462493325918208 ≤ rung x) := by
      rw [ord_num (by omega) (by omega) hn2 (by decide), cmp_gt, cmp_eq, p0, place_small (by omega)]
      by_cases c : 3706462493325918208 ≤ rung x
      · rw [decide_eq_true c, ← Bool.decide_or]; exact decide_eq_true (by omega)
      · rw [decide_eq_false c, ← Bool.decide_or]; exact decide_eq_false (by omega)
    have g2 : (FloatKind.f64.format.order (rung x) 5507902344274116608 == some .lt || FloatKind.f64.format.order (rung x) 5507902344274116608 == some .eq) = decide (rung x ≤ 5507902344274116608) := by
      rw [ord_num (by omega) (by omega) hn2 (by decide), cmp_lt, cmp_eq, p0, place_small (by omega)]
      by_cases c : rung x ≤ 5507902344274116608
      · rw [decide_eq_true c, ← Bool.decide_or]; exact decide_eq_true (by omega)
      · rw [decide_eq_false c, ← Bool.decide_or]; exact decide_eq_false (by omega)
    rw [g1, g2]
    by_cases c1 : 3706462493325918208 ≤ rung x
    · by_cases c2 : rung x ≤ 5507902344274116608
      · left
        exact ⟨⟨hx, Or.inr ⟨c1, c2⟩⟩, rfl, decide_eq_true c1, decide_eq_true c2⟩
      · right; right
        exact ⟨rfl, decide_eq_true c1, decide_eq_false c2⟩
    · right; left
      exact ⟨rfl, decide_eq_false c1⟩
  · right; left
    have hn2 : nanB (rung x) = true := by rw [nan_rung]; exact hn
    rw [ord_nan (by omega) (by omega) (Or.inl hn2)]
    exact ⟨rfl, rfl⟩
end Go.Proofs.Ytngkknbikljpkaa
