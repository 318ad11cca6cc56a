/- Norm and Most, of the program and of the document. -/
import Derived.Test.YthbnffnoldmcnaaAb
import Derived.Test.YthbnffnoldmcnaaSh
namespace Go.Proofs.Ythbnffnoldmcnaa
open Go.RowKit

/-- A sum upwards, of any two floats. -/
def adU (a b : Nat) : Option Nat := if finB a && finB b then some (addV a b 2) else floatBits .add .f64 a b
theorem vnan_fin {s : Nat} (h : nanB s = true) : finB s = false := by
  unfold nanB at h; unfold finB
  simp only [decide_eq_true_eq] at h
  simp; omega
theorem adU_nan {a b : Nat} (ha : a < 18446744073709551616) (hb : b < 18446744073709551616) (h : nanB a = true ∨ nanB b = true) : adU a b = none := by
  unfold adU
  have hf : (finB a && finB b) = false := by
    rcases h with h | h
    · rw [vnan_fin h, Bool.false_and]
    · rw [vnan_fin h, Bool.and_false]
  rw [hf]
  exact op_nan (op := .add) (Or.inl rfl) ha hb h
theorem padd_up (a b : Nat) (ha : a < 18446744073709551616) (hb : b < 18446744073709551616) (w : World) :
    Calls Try.prog 71 #[.float .f64 a, .float .f64 b, .int .i8 2] w fun e w' => ∃ r, e = .returned (.float .f64 r) ∧ NR (adU a b) r ∧ Below w.heap.size w w' := by
  unfold adU
  cases h : (finB a && finB b)
  · simp only [Bool.false_eq_true, if_false]
    refine (radd_inf a b 2 ha hb (by cases fa : finB a; exact Or.inl rfl; rw [fa] at h; exact Or.inr (by simpa using h)) w).mono ?_
    rintro e w' ⟨⟨r, rfl, h1⟩, h2⟩
    exact ⟨r, rfl, h1, h2⟩
  · have fa : finB a = true := by revert h; cases finB a <;> simp
    have fb : finB b = true := by revert h; cases finB b <;> simp
    simp only [if_true]
    refine (radd_gen a b 2 ha hb fa fb w).mono ?_
    rintro e w' ⟨rfl, rfl⟩
    exact ⟨_, rfl, ⟨addV_lt 2 ha hb fa fb, rfl⟩, Below.refl _ _⟩
theorem dadd_up (a b : Nat) (ha : a < 18446744073709551616) (hb : b < 18446744073709551616) (w : World) :
    Calls Try.prog 67 #[.float .f64 a, .float .f64 b, .int .i8 2] w fun e w' => ∃ r, e = .returned (.float .f64 r) ∧ NR (adU a b) r ∧ Below w.heap.size w w' := by
  unfold adU
  cases h : (finB a && finB b)
  · simp only [Bool.false_eq_true, if_false]
    refine (dadd_inf a b 2 ha hb (by cases fa : finB a; exact Or.inl rfl; rw [fa] at h; exact Or.inr (by simpa using h)) w).mono ?_
    rintro e w' ⟨⟨r, rfl, h1⟩, h2⟩
    exact ⟨r, rfl, h1, h2⟩
  · have fa : finB a = true := by revert h; cases finB a <;> simp
    have fb : finB b = true := by revert h; cases finB b <;> simp
    simp only [if_true]
    refine (dadd_gen a b 2 ha hb fa fb w).mono ?_
    rintro e w' ⟨rfl, hB⟩
    exact ⟨_, rfl, ⟨addV_lt 2 ha hb fa fb, rfl⟩, hB⟩
/-- The sizes of the first k floats summed, each sum upwards. -/
def nrO (xs : List Nat) : Nat → Option Nat
  | 0 => some 0
  | k + 1 => (nrO xs k).bind fun s => adU s (rung (xs.getD k 0))
theorem vrung64 (a : Nat) : rung a < 18446744073709551616 := by have := rung_lt a; omega
theorem nrO_step {xs : List Nat} {k s r : Nat} (h : NR (nrO xs k) s) (hr : NR (adU s (rung (xs.getD k 0))) r) : NR (nrO xs (k + 1)) r := by
  show NR ((nrO xs k).bind _) r
  cases ho : nrO xs k with
  | none =>
    rw [ho] at h
    rw [adU_nan h.1 (vrung64 _) (Or.inl h.2)] at hr
    exact hr
  | some v =>
    rw [ho] at h
    have e : s = v := h.2
    subst e
    exact hr
set_option maxHeartbeats 1000000 in
theorem vnorm_any (xs : List Nat) (ao : Option Addr) (cap : Nat) (w : World) (hr : GRow w ao xs) (hF : FW xs) (hn : xs.length ≤ 1125899906842624) :
    Calls Try.prog 56 #[.slice ao xs.length cap] w fun e w' => ∃ r, e = .returned (.float .f64 r) ∧ NR (nrO xs xs.length) r ∧ Below w.heap.size w w' := by
  go_enter Try.func56, Try.ntmps56
  go_wp2
  go_loopg [3, 4, 7] xs.length (fun g s _ i wr => ∃ k r : Nat, k ≤ xs.length ∧ g = xs.length - k ∧ s = .float .f64 r ∧ i = .int .i64 k ∧ Hid (NR (nrO xs k) r) ∧ Hid (Below w.heap.size w wr))
  case atStart => exact ⟨0, 0, Nat.zero_le _, rfl, rfl, rfl, ⟨by omega, rfl⟩, Below.refl _ _⟩
  case round =>
    obtain ⟨k, r, hk, hg, rfl, rfl, hN, hB⟩ := hrel
    have HG : Hid (gk = xs.length - k) := hg
    clear hg
    by_cases hlt : k < xs.length
    · rcases hr.below hB.out with h | ⟨b, off, rfl, hc⟩
      · omega
      have g1 := hc k hlt
      have hx := hF.at hlt
      have HS : Hid (∀ q, NR (adU r (rung (xs.getD k 0))) q → NR (nrO xs (k + 1)) q) := fun q h => nrO_step hN.out h
      have hst := padd_up r (rung (xs.getD k 0)) hN.out.1 (vrung64 _)
      generalize xs.getD k 0 = x at *
      have cb := abs_any x hx
      have i1 : (k : Int) < (xs.length : Int) := by omega
      clear hc
      go_wp2_with (first
        | (go_at_call 70; refine (cb _).mono ?_; rintro e w' ⟨rfl, rfl⟩)
        | (go_at_call 71; refine (hst _).mono ?_; rintro e w2 ⟨r2, rfl, h2, b2⟩))
      go_roundg (xs.length - (k + 1))
      case measure => rw [HG.out]; omega
      case rel => exact ⟨k + 1, r2, by omega, rfl, rfl, by go_num, HS.out _ h2, hB.out.trans (b2.mono hB.out.size)⟩
    · have ek : k = xs.length := by omega
      subst ek
      have i1 : ¬ (xs.length : Int) < (xs.length : Int) := by omega
      go_wp2
      go_ret
      exact ⟨_, rfl, hN.out, hB.out⟩
/-- The place of the greatest size so far, and that size. -/
def msL (xs : List Nat) : Nat → Int × Nat
  | 0 => (-1, 0)
  | k + 1 => if nanB (xs.getD k 0) = false ∧ ((msL xs k).1 < 0 ∨ (msL xs k).2 < rung (xs.getD k 0)) then ((k : Int), rung (xs.getD k 0)) else msL xs k
theorem msL_bounds (xs : List Nat) (k : Nat) : -1 ≤ (msL xs k).1 ∧ (msL xs k).1 < k ∧ (msL xs k).2 ≤ 9218868437227405312 := by
  induction k with
  | zero => exact ⟨by simp [msL], by simp [msL], by simp [msL]⟩
  | succ k ih =>
    unfold msL
    split
    · rename_i h
      refine ⟨by omega, by omega, ?_⟩
      have := h.1
      unfold nanB at this
      simpa using this
    · exact ⟨ih.1, by omega, ih.2.2⟩
theorem msL_yes {xs : List Nat} {k : Nat} (h1 : nanB (xs.getD k 0) = false) (h2 : (msL xs k).1 < 0 ∨ (msL xs k).2 < rung (xs.getD k 0)) : msL xs (k + 1) = ((k : Int), rung (xs.getD k 0)) := by
  show (if _ then _ else _) = _
  rw [if_pos ⟨h1, h2⟩]
theorem msL_no {xs : List Nat} {k : Nat} (h : nanB (xs.getD k 0) = true ∨ (0 ≤ (msL xs k).1 ∧ rung (xs.getD k 0) ≤ (msL xs k).2)) : msL xs (k + 1) = msL xs k := by
  show (if _ then _ else _) = _
  rw [if_neg]
  rintro ⟨h1, h2⟩
  rcases h with h | ⟨h3, h4⟩
  · rw [h1] at h; cases h
  · omega
theorem nan_rung (x : Nat) : nanB (rung x) = nanB x := by
  unfold nanB
  rw [rung_small (rung_lt x)]
theorem size_gt {u v : Nat} (hu : u ≤ 9218868437227405312) (hv : v ≤ 9218868437227405312) : (FloatKind.f64.format.order u v == some .gt) = decide (v < u) := by
  have nu := nan_small hu
  have nv := nan_small hv
  rw [ord_num (by omega) (by omega) nu nv, place_small (by omega), place_small (by omega)]
  rw [cmp_gt]
  by_cases h : v < u
  · rw [decide_eq_true h]; exact decide_eq_true (by omega)
  · rw [decide_eq_false h]; exact decide_eq_false (by omega)
theorem size_gt_nan {u v : Nat} (hu : u < 18446744073709551616) (hv : v < 18446744073709551616) (h : nanB u = true) : (FloatKind.f64.format.order u v == some .gt) = false := by
  rw [ord_nan hu hv (Or.inl h)]; rfl
end Go.Proofs.Ythbnffnoldmcnaa
