/- Dot, of the program and of the document; a float times 1 or -1. -/
import Derived.Test.YtojdlheblnjoiaaAh
namespace Go.Proofs.Ytojdlheblnjoiaa
open Go.RowKit

/-- The products of each two, each added to those before it. -/
def dtO (xs ys : List Nat) : Nat → Option Nat
  | 0 => some 0
  | k + 1 => opO .add (dtO xs ys k) (opO .mul (toO (xs.getD k 0)) (toO (ys.getD k 0)))
def dotF (xs ys : List Nat) : Option Nat := if fitN xs.length ys.length = 0 then dtO xs ys xs.length else some 0
theorem NR_zero : NR (some 0) 0 := ⟨by omega, rfl⟩
set_option maxHeartbeats 1000000 in
theorem vdot_any (xs ys : List Nat) (ao bo : Option Addr) (cap cap2 : Nat) (w : World) (hr : GRow w ao xs) (hs : GRow w bo ys) (hF : FW xs) (hG : FW ys) (hn : xs.length ≤ 17592186044416) (hm : ys.length ≤ 17592186044416) :
    Calls Try.prog 14 #[.slice ao xs.length cap, .slice bo ys.length cap2] w fun e w' => ∃ r, e = .returned (.tuple #[.float .f64 r, .int .i64 (fitN xs.length ys.length)]) ∧ NR (dotF xs ys) r ∧ Below w.heap.size w w' := by
  have cf := fun w => fit_any xs.length ys.length cap cap2 ao bo (by omega) (by omega) w
  unfold dotF
  by_cases hq : fitN xs.length ys.length = 0
  case neg =>
    rw [if_neg hq]
    generalize fitN xs.length ys.length = q at *
    go_enter Try.func14, Try.ntmps14
    go_wp2_with (go_at_call 38; refine (cf _).mono ?_; rintro e w' ⟨rfl, rfl⟩)
    exact bodyPost_ret (v := .tuple #[.float .f64 0, .int .i64 q]) (by simp [results, Try.results14, go_sem]) rfl ⟨_, rfl, NR_zero, Below.refl _ _⟩
  rw [if_pos hq]
  have HL : Hid (ys.length = xs.length) := fit_len hq
  rw [hq] at cf ⊢
  clear hq
  have h1 := fun x y w => run_op4 (P := Try.prog) (op := .add) (Or.inl rfl) 22 x y w
  have h2 := fun x y w => run_op4 (P := Try.prog) (op := .mul) opMu 22 x y w
  go_enter Try.func14, Try.ntmps14
  go_wp2_with (go_at_call 38; refine (cf _).mono ?_; rintro e w' ⟨rfl, h'⟩; subst w')
  go_loopg [7, 8, 17] xs.length (fun g s _ i wr => ∃ k r : Nat, k ≤ xs.length ∧ g = xs.length - k ∧ s = .float .f64 r ∧ i = .int .i64 k ∧ Hid (NR (dtO xs ys k) r) ∧ Hid (Below w.heap.size w wr))
  case atStart => exact ⟨0, 0, Nat.zero_le _, rfl, rfl, rfl, NR_zero, Below.refl _ _⟩
  case round =>
    obtain ⟨k, r, hk, hg, rfl, rfl, hN, hBl⟩ := hrel
    have HG : Hid (gk = xs.length - k) := hg
    clear hg
    by_cases hlt : k < xs.length
    · rcases hr.below hBl.out with h | ⟨b, off, rfl, hc⟩
      · omega
      rcases hs.below hBl.out with h | ⟨b2, off2, rfl, hd⟩
      · have := HL.out; omega
      have hlt2 : k < ys.length := by have := HL.out; omega
      have g1 := hc k hlt
      have g2 := hd k hlt2
      have hx := hF.at hlt
      have hy := hG.at hlt2
      obtain ⟨x, ex⟩ : ∃ x, xs.getD k 0 = x := ⟨_, rfl⟩
      obtain ⟨y, ey⟩ : ∃ y, ys.getD k 0 = y := ⟨_, rfl⟩
      rw [ex] at hx g1
      rw [ey] at hy g2
      have HS : Hid (∀ W W', NR (dtO xs ys (k + 1)) (opR .add r (opR .mul x y W) W')) := fun W W' => by
        rw [dtO, ex, ey]
        exact opO_NR (Or.inl rfl) hN.out (opO_NR opMu (toO_NR hx) (toO_NR hy) W) W'
      have HD := hBl.out.drew
      have i1 : (k : Int) < (xs.length : Int) := by omega
      have i2 : (k : Int) < (ys.length : Int) := by omega
      clear hc hd ex ey hN hlt2
      go_wp2
      go_region_with (fail)
      all_goals
       go_wp2
       go_roundg (xs.length - (k + 1))
       case measure => rw [HG.out]; omega
       case rel => exact ⟨k + 1, _, by omega, rfl, rfl, by go_num, HS.out _ _, opW_below .add _ _ (opW_below .mul x y HD)⟩
    · have ek : k = xs.length := by omega
      subst ek
      have i1 : ¬ (xs.length : Int) < (xs.length : Int) := by omega
      go_wp2
      exact bodyPost_ret (v := .tuple #[.float .f64 r, .int .i64 0]) (by simp [results, Try.results14, go_sem]) rfl ⟨_, rfl, hN.out, hBl.out⟩
set_option maxHeartbeats 1000000 in
theorem rdotv_any (xs ys : List Nat) (ao bo : Option Addr) (cap cap2 : Nat) (w : World) (hr : GRow w ao xs) (hs : GRow w bo ys) (hF : FW xs) (hG : FW ys) (hn : xs.length ≤ 17592186044416) (hm : ys.length ≤ 17592186044416) :
    Calls Try.prog 15 #[.slice ao xs.length cap, .slice bo ys.length cap2] w fun e w' => ∃ r, e = .returned (.tuple #[.float .f64 r, .int .i64 (fitN xs.length ys.length)]) ∧ NR (dotF xs ys) r ∧ Below w.heap.size w w' := by
  have cf := fun w => rfit_any xs.length ys.length cap cap2 ao bo (by omega) (by omega) w
  unfold dotF
  by_cases hq : fitN xs.length ys.length = 0
  case neg =>
    rw [if_neg hq]
    generalize fitN xs.length ys.length = q at *
    go_enter Try.func15, Try.ntmps15
    go_wp2_with (go_at_call 36; refine (cf _).mono ?_; rintro e w' ⟨rfl, rfl⟩)
    exact bodyPost_ret (v := .tuple #[.float .f64 0, .int .i64 q]) (by simp [results, Try.results15, go_sem]) rfl ⟨_, rfl, NR_zero, Below.refl _ _⟩
  rw [if_pos hq]
  have HL : Hid (ys.length = xs.length) := fit_len hq
  rw [hq] at cf ⊢
  clear hq
  have h1 := fun x y w => run_op4 (P := Try.prog) (op := .add) (Or.inl rfl) 22 x y w
  have h2 := fun x y w => run_op4 (P := Try.prog) (op := .mul) opMu 22 x y w
  go_enter Try.func15, Try.ntmps15
  go_wp2_with (go_at_call 36; refine (cf _).mono ?_; rintro e w' ⟨rfl, h'⟩; subst w')
  go_loopg [7, 8, 9] xs.length (fun g s i _ wr => ∃ k r : Nat, k ≤ xs.length ∧ g = xs.length - k ∧ s = .float .f64 r ∧ i = .int .i64 k ∧ Hid (NR (dtO xs ys k) r) ∧ Hid (Below w.heap.size w wr))
  case atStart => exact ⟨0, 0, Nat.zero_le _, rfl, rfl, rfl, NR_zero, Below.refl _ _⟩
  case round =>
    obtain ⟨k, r, hk, hg, rfl, rfl, hN, hBl⟩ := hrel
    have HG : Hid (gk = xs.length - k) := hg
    clear hg
    by_cases hlt : k < xs.length
    · rcases hr.below hBl.out with h | ⟨b, off, rfl, hc⟩
      · omega
      rcases hs.below hBl.out with h | ⟨b2, off2, rfl, hd⟩
      · have := HL.out; omega
      have hlt2 : k < ys.length := by have := HL.out; omega
      have g1 := hc k hlt
      have g2 := hd k hlt2
      have hx := hF.at hlt
      have hy := hG.at hlt2
      obtain ⟨x, ex⟩ : ∃ x, xs.getD k 0 = x := ⟨_, rfl⟩
      obtain ⟨y, ey⟩ : ∃ y, ys.getD k 0 = y := ⟨_, rfl⟩
      rw [ex] at hx g1
      rw [ey] at hy g2
      have HS : Hid (∀ W W', NR (dtO xs ys (k + 1)) (opR .add r (opR .mul x y W) W')) := fun W W' => by
        rw [dtO, ex, ey]
        exact opO_NR (Or.inl rfl) hN.out (opO_NR opMu (toO_NR hx) (toO_NR hy) W) W'
      have HD := hBl.out.drew
      have i1 : (k : Int) < (xs.length : Int) := by omega
      have i2 : (k : Int) < (ys.length : Int) := by omega
      clear hc hd ex ey hN hlt2
      go_wp2
      go_region_with (fail)
      all_goals
       go_wp2
       go_roundg (xs.length - (k + 1))
       case measure => rw [HG.out]; omega
       case rel => exact ⟨k + 1, _, by omega, rfl, rfl, by go_num, HS.out _ _, opW_below .add _ _ (opW_below .mul x y HD)⟩
    · have ek : k = xs.length := by omega
      subst ek
      have i1 : ¬ (xs.length : Int) < (xs.length : Int) := by omega
      go_wp2
      exact bodyPost_ret (v := .tuple #[.float .f64 r, .int .i64 0]) (by simp [results, Try.results15, go_sem]) rfl ⟨_, rfl, hN.out, hBl.out⟩
/-- 1 or -1. -/
def oneW (s : Bool) : Nat := Ieee.double.word s 4607182418800017408
theorem one_parts (s : Bool) : oneW s < 18446744073709551616 ∧ finB (oneW s) = true ∧ sgn (oneW s) = s ∧ mg (rung (oneW s)) = 4503599627370496 ∧ up (rung (oneW s)) = 1022 := by
  cases s <;> decide
theorem mul_oneW (s : Bool) {x : Nat} (hx : x < 18446744073709551616) (hn : nanB x = false) : floatBits .mul .f64 (oneW s) x = some (Ieee.double.word (s ^^ sgn x) (rung x)) := by
  obtain ⟨o1, o2, o3, o4, o5⟩ := one_parts s
  have hr : rung x ≤ 9218868437227405312 := by unfold nanB at hn; simpa using hn
  rw [(fbits_map _ _).2.2.1, read_fin o1 o2, o3, o4, o5]
  by_cases hi : rung x = 9218868437227405312
  · rw [read_eq x hx, if_neg (by omega), if_pos hi, hi]
    simp only [Ieee.Datum.product]
    rw [Bool.xor_comm]; rfl
  · have fx : finB x = true := by unfold finB; simp; omega
    rw [read_fin hx fx]
    simp only [Ieee.Datum.product, Option.map_some, Ieee.Format.write, Option.some.injEq]
    by_cases h0 : rung x = 0
    · have m0 : mg (rung x) = 0 := by rw [h0]; decide
      rw [m0, h0, Nat.mul_zero]
      show Ieee.double.nearest _ 0 _ = _
      rfl
    · have hv := nearest_val (s ^^ sgn x) (4503599627370496 * mg (rung x)) (-1074 + (1022 : Nat) + (-1074 + (up (rung x) : Nat))) (mg (rung x)) (up (rung x)) (mg_lt _) (mg_ne h0) (mg_up_ok _) (Or.inr ⟨52, by omega, by rw [Nat.mul_comm]⟩)
      rw [hv]
      have e := rung_mg (rung x)
      rw [show min (up (rung x) * 4503599627370496 + mg (rung x)) 9218868437227405312 = rung x by omega]
theorem opO_one {x : Nat} (hx : x < 18446744073709551616) : opO .mul (toO 4607182418800017408) (toO x) = toO x := by
  have e1 : toO 4607182418800017408 = some (oneW false) := by decide
  rw [e1]
  cases hn : nanB x
  · have e2 : toO x = some x := by unfold toO; rw [hn]; rfl
    rw [e2]
    show floatBits .mul .f64 (oneW false) x = some x
    rw [mul_oneW false hx hn, Bool.false_xor, ← word_of hx]
  · have e2 : toO x = none := by unfold toO; rw [hn]; rfl
    rw [e2]; rfl
theorem ax_one {xs ys : List Nat} (hF : FW xs) {k : Nat} (hk : k < xs.length) : axO 4607182418800017408 xs ys k = adO xs ys k := by
  unfold axO adO
  rw [opO_one (hF.at hk)]
theorem tab_congr {n : Nat} {o p : Nat → Option Nat} (h : ∀ k, k < n → o k = p k) : tab n o = tab n p := by
  unfold tab
  apply List.map_congr_left
  intro a ha
  exact h a (List.mem_range.1 ha)
theorem ax_one_tab {xs ys : List Nat} (hF : FW xs) : tab xs.length (axO 4607182418800017408 xs ys) = tab xs.length (adO xs ys) := tab_congr fun _ hk => ax_one hF hk
end Go.Proofs.Ytojdlheblnjoiaa
