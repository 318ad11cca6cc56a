/- The norm of a list against its sizes, and what Most tells of it: plain, no program in this text. -/
import Derived.Test.YtlkmmfmnggejlaaDoorZ8
import Derived.Test.YtlkmmfmnggejlaaDoorWj
import Derived.Deep.QuietTactic
import Derived.BigQuiet
import Derived.Test.YtlkmmfmnggejlaaDoorSh
import Derived.Test.YtlkmmfmnggejlaaDoorY5
import Derived.Test.YtlkmmfmnggejlaaDoorBs
namespace Go.Proofs.YtlkmmfmnggejlaaDoor
open Go.RowKit

/-- Are both as long, and the same at each place? -/
def sameL (xs ys : List Nat) : Bool := decide (xs.length = ys.length) && (List.range xs.length).all fun j => sameB (xs.getD j 0) (ys.getD j 0)
theorem sameL_yes {xs ys : List Nat} (h : xs.length = ys.length) (hj : ∀ j, j < xs.length → sameB (xs.getD j 0) (ys.getD j 0) = true) : sameL xs ys = true := by
  unfold sameL
  rw [decide_eq_true h, Bool.true_and, List.all_eq_true]
  intro j hm
  exact hj j (List.mem_range.1 hm)
theorem sameL_len {xs ys : List Nat} (h : ¬ xs.length = ys.length) : sameL xs ys = false := by
  unfold sameL
  rw [decide_eq_false h, Bool.false_and]
theorem sameL_not {xs ys : List Nat} {j : Nat} (hj : j < xs.length) (h : sameB (xs.getD j 0) (ys.getD j 0) = false) : sameL xs ys = false := by
  unfold sameL
  have : ((List.range xs.length).all fun j => sameB (xs.getD j 0) (ys.getD j 0)) = false := by
    rw [List.all_eq_false]
    exact ⟨j, List.mem_range.2 hj, by rw [h]; simp⟩
  rw [this, Bool.and_false]
end Go.Proofs.YtlkmmfmnggejlaaDoor

namespace Go.Proofs.YtlkmmfmnggejlaaDoor
open Go.RowKit

theorem ord_same (a : Nat) (ha : a < 18446744073709551616) : (FloatKind.f64.format.order a a == some .eq) = !nanB a := by
  rw [← ord_self a ha]
  simp [bne]
end Go.Proofs.YtlkmmfmnggejlaaDoor

namespace Go.Proofs.YtlkmmfmnggejlaaDoor
open Go.RowKit

/-- A sum upwards, of any two floats. -/
def adU (a b : Nat) : Option Nat := if finB a && finB b then some (addV a b 2) else floatBits .add .f64 a b
theorem vnan_fin {s : Nat} (h : nanB s = true) : finB s = false := by
  unfold nanB at h; unfold finB
  simp only [decide_eq_true_eq] at h
  simp; omega
theorem adU_nan {a b : Nat} (ha : a < 18446744073709551616) (hb : b < 18446744073709551616) (h : nanB a = true ∨ nanB b = true) : adU a b = none := by
  unfold adU
  have hf : (finB a && finB b) = false := by
    rcases h with h | h
    · rw [vnan_fin h, Bool.false_and]
    · rw [vnan_fin h, Bool.and_false]
  rw [hf]
  exact op_nan (op := .add) (Or.inl rfl) ha hb h
theorem padd_up (a b : Nat) (ha : a < 18446744073709551616) (hb : b < 18446744073709551616) (w : World) :
    Calls Tryd.prog 53 #[.float .f64 a, .float .f64 b, .int .i8 2] w fun e w' => ∃ r, e = .returned (.float .f64 r) ∧ NR (adU a b) r ∧ Below w.heap.size w w' := by
  unfold adU
  cases h : (finB a && finB b)
  · simp only [Bool.false_eq_true, if_false]
    refine (radd_inf a b 2 ha hb (by cases fa : finB a; exact Or.inl rfl; rw [fa] at h; exact Or.inr (by simpa using h)) w).mono ?_
    rintro e w' ⟨⟨r, rfl, h1⟩, h2⟩
    exact ⟨r, rfl, h1, h2⟩
  · have fa : finB a = true := by revert h; cases finB a <;> simp
    have fb : finB b = true := by revert h; cases finB b <;> simp
    simp only [if_true]
    refine (radd_gen a b 2 ha hb fa fb w).mono ?_
    rintro e w' ⟨rfl, rfl⟩
    exact ⟨_, rfl, ⟨addV_lt 2 ha hb fa fb, rfl⟩, Below.refl _ _⟩
/-- The sizes of the first k floats summed, each sum upwards. -/
def nrO (xs : List Nat) : Nat → Option Nat
  | 0 => some 0
  | k + 1 => (nrO xs k).bind fun s => adU s (rung (xs.getD k 0))
theorem vrung64 (a : Nat) : rung a < 18446744073709551616 := by have := rung_lt a; omega
theorem nrO_step {xs : List Nat} {k s r : Nat} (h : NR (nrO xs k) s) (hr : NR (adU s (rung (xs.getD k 0))) r) : NR (nrO xs (k + 1)) r := by
  show NR ((nrO xs k).bind _) r
  cases ho : nrO xs k with
  | none =>
    rw [ho] at h
    rw [adU_nan h.1 (vrung64 _) (Or.inl h.2)] at hr
    exact hr
  | some v =>
    rw [ho] at h
    have e : s = v := h.2
    subst e
    exact hr
/-- The place of the greatest size so far, and that size. -/
def msL (xs : List Nat) : Nat → Int × Nat
  | 0 => (-1, 0)
  | k + 1 => if nanB (xs.getD k 0) = false ∧ ((msL xs k).1 < 0 ∨ (msL xs k).2 < rung (xs.getD k 0)) then ((k : Int), rung (xs.getD k 0)) else msL xs k
theorem msL_bounds (xs : List Nat) (k : Nat) : -1 ≤ (msL xs k).1 ∧ (msL xs k).1 < k ∧ (msL xs k).2 ≤ 9218868437227405312 := by
  induction k with
  | zero => exact ⟨by simp [msL], by simp [msL], by simp [msL]⟩
  | succ k ih =>
    unfold msL
    split
    · rename_i h
      refine ⟨by omega, by omega, ?_⟩
      have := h.1
      unfold nanB at this
      simpa using this
    · exact ⟨ih.1, by omega, ih.2.2⟩
theorem msL_yes {xs : List Nat} {k : Nat} (h1 : nanB (xs.getD k 0) = false) (h2 : (msL xs k).1 < 0 ∨ (msL xs k).2 < rung (xs.getD k 0)) : msL xs (k + 1) = ((k : Int), rung (xs.getD k 0)) := by
  show (if _ then _ else _) = _
  rw [if_pos ⟨h1, h2⟩]
theorem msL_no {xs : List Nat} {k : Nat} (h : nanB (xs.getD k 0) = true ∨ (0 ≤ (msL xs k).1 ∧ rung (xs.getD k 0) ≤ (msL xs k).2)) : msL xs (k + 1) = msL xs k := by
  show (if _ then _ else _) = _
  rw [if_neg]
  rintro ⟨h1, h2⟩
  rcases h with h | ⟨h3, h4⟩
  · rw [h1] at h; cases h
  · omega
theorem nan_rung (x : Nat) : nanB (rung x) = nanB x := by
  unfold nanB
  rw [rung_small (rung_lt x)]
theorem size_gt {u v : Nat} (hu : u ≤ 9218868437227405312) (hv : v ≤ 9218868437227405312) : (FloatKind.f64.format.order u v == some .gt) = decide (v < u) := by
  have nu := nan_small hu
  have nv := nan_small hv
  rw [ord_num (by omega) (by omega) nu nv, place_small (by omega), place_small (by omega)]
  rw [cmp_gt]
  by_cases h : v < u
  · rw [decide_eq_true h]; exact decide_eq_true (by omega)
  · rw [decide_eq_false h]; exact decide_eq_false (by omega)
theorem size_gt_nan {u v : Nat} (hu : u < 18446744073709551616) (hv : v < 18446744073709551616) (h : nanB u = true) : (FloatKind.f64.format.order u v == some .gt) = false := by
  rw [ord_nan hu hv (Or.inl h)]; rfl
end Go.Proofs.YtlkmmfmnggejlaaDoor

namespace Go.Proofs.YtlkmmfmnggejlaaDoor
open Go.RowKit

/-- The next float is little above. -/
theorem val_next (q : Nat) : (q < 4503599627370496 → val (q + 1) = val q + 1) ∧ (4503599627370496 ≤ q → 4503599627370496 * val (q + 1) ≤ 4503599627370497 * val q) := by
  refine ⟨fun h => ?_, fun h => ?_⟩
  · unfold val
    rw [if_pos h]
    by_cases h1 : q + 1 < 4503599627370496
    · rw [if_pos h1]
    · have e : q + 1 = 4503599627370496 := by omega
      rw [e]; rfl
  · obtain ⟨E, m, rfl, hE, hm⟩ : ∃ E m, q = 4503599627370496 * E + m ∧ 1 ≤ E ∧ m < 4503599627370496 := ⟨q / 4503599627370496, q % 4503599627370496, by omega, by omega, by omega⟩
    have v1 : val (4503599627370496 * E + m) = (4503599627370496 + m) * 2 ^ (E - 1) := by
      unfold val
      rw [if_neg (by omega), show (4503599627370496 * E + m) % 4503599627370496 = m by omega, show (4503599627370496 * E + m) / 4503599627370496 = E by omega]
    have v2 : val (4503599627370496 * E + m + 1) = (4503599627370496 + m + 1) * 2 ^ (E - 1) := by
      unfold val
      rw [if_neg (by omega)]
      by_cases h1 : m + 1 < 4503599627370496
      · rw [show (4503599627370496 * E + m + 1) % 4503599627370496 = m + 1 by omega, show (4503599627370496 * E + m + 1) / 4503599627370496 = E by omega]; rfl
      · have em : m + 1 = 4503599627370496 := by omega
        rw [show (4503599627370496 * E + m + 1) % 4503599627370496 = 0 by omega, show (4503599627370496 * E + m + 1) / 4503599627370496 = E + 1 by omega]
        obtain ⟨F, rfl⟩ : ∃ F, E = F + 1 := ⟨E - 1, by omega⟩
        rw [show F + 1 + 1 - 1 = F + 1 by omega, show F + 1 - 1 = F by omega, Nat.pow_succ, show 4503599627370496 + m + 1 = 4503599627370496 * 2 by omega]
        generalize 2 ^ F = p
        omega
    rw [v1, v2]
    generalize 2 ^ (E - 1) = p
    have : 4503599627370496 * ((4503599627370496 + m + 1) * p) ≤ 4503599627370497 * ((4503599627370496 + m) * p) := by
      rw [← Nat.mul_assoc, ← Nat.mul_assoc]
      exact Nat.mul_le_mul_right p (by omega)
    exact this
def infW : Nat := 9218868437227405312
theorem vI_pos {s : Nat} (h : s ≤ infW) : vI s = (val s : Int) := by
  unfold infW at h
  unfold vI
  rw [sgn_small (by omega), rung_small (by omega)]; rfl
/-- One sum upwards of two floats not below 0. -/
theorem vup_step {s x : Nat} (hs : s < infW) (hx : x < infW) : addV s x 2 ≤ infW ∧ (addV s x 2 < infW → val s + val x ≤ val (addV s x 2) ∧ 4503599627370496 * val (addV s x 2) ≤ 4503599627370497 * (val s + val x)) := by
  have es := vI_pos (Nat.le_of_lt hs)
  have ex := vI_pos (Nat.le_of_lt hx)
  unfold infW at *
  have fs : finB s = true := by unfold finB; rw [rung_small (by omega)]; simpa using hs
  have fx : finB x = true := by unfold finB; rw [rung_small (by omega)]; simpa using hx
  by_cases h0 : vI s + vI x = 0
  · obtain ⟨e1, _⟩ := add_nought 2 (show s < 18446744073709551616 by omega) (show x < 18446744073709551616 by omega) fs fx h0
    rw [es, ex] at h0
    have z1 : val s = 0 := by omega
    have z2 : val x = 0 := by omega
    have s0 : s = 0 := val_inj (by rw [z1, val_zero])
    have x0 : x = 0 := val_inj (by rw [z2, val_zero])
    subst s0 x0
    have e2 : addV 0 0 2 = 0 := by rw [e1]; decide
    rw [e2]
    exact ⟨by omega, fun _ => ⟨by rw [val_zero]; omega, by rw [val_zero]; omega⟩⟩
  · have hp : 0 < (vI s + vI x) * 2 ^ twP := by
      have : 0 < vI s + vI x := by rw [es, ex] at h0 ⊢; omega
      exact Int.mul_pos this (pw_pos twP)
    have hne : (vI s + vI x) * 2 ^ twP ≠ 0 := by omega
    have hv := add_fu 2 (show s < 18446744073709551616 by omega) (show x < 18446744073709551616 by omega) fs fx h0
    rw [fuV_pos 2 hp] at hv
    have hN := fuK_near hne
    have hA := fu_units hne
    obtain ⟨r1, r2, r3, r4⟩ := rg_up hN hA
    rw [← hv] at r1 r2 r3 r4
    have eA : ((vI s + vI x) * 2 ^ twP).natAbs * 2 ^ puH = (val s + val x) * 2 ^ kV := by
      rw [Int.natAbs_mul, pw_abs, es, ex, show ((val s : Int) + (val x : Int)).natAbs = val s + val x by omega, Nat.mul_assoc, ← Nat.pow_add, show twP + puH = kV from rfl]
    rw [eA] at r3 r4
    have hK := Nat.two_pow_pos kV
    generalize 2 ^ kV = K at *
    refine ⟨r2, fun hr => ?_⟩
    have a1 := Nat.le_of_mul_le_mul_right (r3 hr) hK
    have a2 := Nat.lt_of_mul_lt_mul_right r4
    refine ⟨a1, ?_⟩
    obtain ⟨q, hq⟩ : ∃ q, addV s x 2 = q + 1 := ⟨addV s x 2 - 1, by omega⟩
    rw [hq] at a1 a2 ⊢
    rw [Nat.add_sub_cancel] at a2
    obtain ⟨n1, n2⟩ := val_next q
    generalize val s + val x = X at *
    by_cases c : q < 4503599627370496
    · rw [n1 c]; omega
    · have := n2 (by omega)
      omega
end Go.Proofs.YtlkmmfmnggejlaaDoor

namespace Go.Proofs.YtlkmmfmnggejlaaDoor
open Go.RowKit

/-- The sizes. -/
def szL (xs : List Nat) : List Nat := xs.map rung
theorem szL_len (xs : List Nat) : (szL xs).length = xs.length := by simp [szL]
theorem szL_at (xs : List Nat) (k : Nat) : (szL xs).getD k 0 = rung (xs.getD k 0) := by
  unfold szL
  rw [List.getD_eq_getElem?_getD, List.getD_eq_getElem?_getD, List.getElem?_map]
  cases xs[k]? with
  | none => rfl
  | some v => rfl
theorem szL_fin {xs : List Nat} (h : xs.all finB = true) : (szL xs).all finB = true := by
  rw [List.all_eq_true] at h ⊢
  intro x hx
  unfold szL at hx
  obtain ⟨y, hy, rfl⟩ := List.mem_map.1 hx
  have := h y hy
  unfold finB at this ⊢
  rw [rung_rung]; exact this
theorem not_nan {x : Nat} (h : nanB x = false) : rung x ≤ infW := by unfold infW; unfold nanB at h; simpa using h
theorem add_infs {s x : Nat} (hs : s ≤ infW) (hx : x ≤ infW) (h : s = infW ∨ x = infW) : adU s x = some infW := by
  unfold infW at *
  have hf : (finB s && finB x) = false := by
    rcases h with rfl | rfl
    · rw [show finB 9218868437227405312 = false by decide, Bool.false_and]
    · rw [show finB 9218868437227405312 = false by decide, Bool.and_false]
  unfold adU
  rw [hf]
  simp only [Bool.false_eq_true, if_false]
  rw [(fbits_map _ _).1]
  have rd : ∀ {y : Nat}, y ≤ 9218868437227405312 → (y = 9218868437227405312 → Ieee.double.read y = .infinity false) ∧ (y ≠ 9218868437227405312 → Ieee.double.read y = .number false (mg y) (-1074 + (up y : Nat))) := by
    intro y hy
    refine ⟨fun e => by subst e; decide, fun e => ?_⟩
    have fy : finB y = true := by unfold finB; rw [rung_small (by omega)]; simp; omega
    have := read_fin (show y < 18446744073709551616 by omega) fy
    rw [this, rung_small (by omega), sgn_small (by omega)]
  by_cases c1 : s = 9218868437227405312
  · rw [(rd hs).1 c1]
    by_cases c2 : x = 9218868437227405312
    · rw [(rd hx).1 c2]; decide
    · rw [(rd hx).2 c2]; rfl
  · have c2 : x = 9218868437227405312 := by rcases h with h | h; exact absurd h c1; exact h
    rw [(rd hs).2 c1, (rd hx).1 c2]; rfl
/-- The sum of the sizes so far is a float not below 0: not below any of them, infinite if one of them is, and near the exact sum if it is finite. -/
theorem nr_inv (xs : List Nat) (K : Nat) (hK : K ≤ 300) (hn : ∀ j, j < K → nanB (xs.getD j 0) = false) :
    ∃ s, nrO xs K = some s ∧ s ≤ infW ∧ (∀ j, j < K → rung (xs.getD j 0) ≤ s) ∧ (s < infW → (∀ j, j < K → rung (xs.getD j 0) < infW) ∧ sI (szL xs) K ≤ (val s : Int) ∧ 4503599627370496 * (val s : Int) ≤ (4503599627370496 + 2 * (K : Int)) * sI (szL xs) K) := by
  induction K with
  | zero =>
    refine ⟨0, rfl, by unfold infW; omega, fun j hj => by omega, fun _ => ⟨fun j hj => by omega, ?_, ?_⟩⟩
    · show (0 : Int) ≤ _; rw [val_zero]; omega
    · show _ ≤ _ * (0 : Int); rw [val_zero]; omega
  | succ k ih =>
    obtain ⟨s, h1, h2, h3, h4⟩ := ih (by omega) (fun j hj => hn j (by omega))
    have hx := not_nan (hn k (by omega))
    have hst : nrO xs (k + 1) = adU s (rung (xs.getD k 0)) := by
      show (nrO xs k).bind _ = _
      rw [h1]; rfl
    obtain ⟨x, ex⟩ : ∃ x, rung (xs.getD k 0) = x := ⟨_, rfl⟩
    have hcase : ∀ j, j < k + 1 → j < k ∨ j = k := fun j hj => by omega
    by_cases c : s = infW ∨ x = infW
    · rw [ex] at hst hx
      refine ⟨infW, by rw [hst]; exact add_infs h2 hx c, Nat.le_refl _, fun j hj => ?_, fun h => absurd h (Nat.lt_irrefl _)⟩
      exact not_nan (hn j hj)
    · have cs : s < infW := by omega
      have cx : x < infW := by rw [ex] at hx; omega
      obtain ⟨h5, h6, h7⟩ := h4 cs
      obtain ⟨u1, u2⟩ := vup_step cs cx
      have ha : adU s x = some (addV s x 2) := by
        unfold adU infW at *
        have fs : finB s = true := by unfold finB; rw [rung_small (by omega)]; simpa using cs
        have fx : finB x = true := by unfold finB; rw [rung_small (by omega)]; simpa using cx
        rw [fs, fx]; rfl
      rw [ex, ha] at hst
      have hsz : sI (szL xs) (k + 1) = sI (szL xs) k + (val x : Int) := by
        show sI (szL xs) k + vI ((szL xs).getD k 0) = _
        rw [szL_at, ex, vI_pos (Nat.le_of_lt cx)]
      refine ⟨_, hst, u1, fun j hj => ?_, fun hf => ?_⟩
      · by_cases hf : addV s x 2 < infW
        · obtain ⟨v1, _⟩ := u2 hf
          have hle : ∀ y, val y ≤ val (addV s x 2) → y ≤ addV s x 2 := fun y hy => by
            rcases Nat.lt_or_ge (addV s x 2) y with c | c
            · have := val_lt c; omega
            · exact c
          rcases hcase j hj with c | c
          · refine hle _ ?_
            have := h3 j c
            have m : val (rung (xs.getD j 0)) ≤ val s := by
              rcases Nat.eq_or_lt_of_le this with e | e
              · rw [e]; exact Nat.le_refl _
              · exact Nat.le_of_lt (val_lt e)
            omega
          · subst c
            rw [ex]
            exact hle _ (by omega)
        · have e : addV s x 2 = infW := by omega
          rw [e]
          exact not_nan (hn j hj)
      · obtain ⟨v1, v2⟩ := u2 hf
        refine ⟨fun j hj => ?_, ?_, ?_⟩
        · rcases hcase j hj with c | c
          · exact h5 j c
          · subst c; rw [ex]; exact cx
        · rw [hsz]; omega
        · rw [hsz]
          generalize sI (szL xs) k = S at *
          generalize val (addV s x 2) = R at *
          generalize val s = V at *
          generalize val x = X at *
          have hS : 0 ≤ S := by
            rcases Int.lt_or_le S 0 with c | c
            · exfalso
              have : (4503599627370496 + 2 * (k : Int)) * S < 0 := Int.mul_neg_of_pos_of_neg (by omega) c
              omega
            · exact c
          have p1 : 4503599627370496 * (R : Int) ≤ 4503599627370497 * ((V : Int) + X) := by omega
          have p2 : (4503599627370496 + 2 * (k : Int)) * S = 4503599627370496 * S + 2 * ((k : Int) * S) := by rw [Int.add_mul, Int.mul_assoc]
          have p3 : (4503599627370496 + 2 * ((k + 1 : Nat) : Int)) * (S + X) = 4503599627370496 * S + 4503599627370496 * X + 2 * ((k : Int) * S) + 2 * ((k : Int) * X) + 2 * S + 2 * X := by
            have q1 : (4503599627370496 + 2 * ((k + 1 : Nat) : Int)) * (S + X) = 4503599627370496 * (S + X) + 2 * (((k : Int) + 1) * (S + X)) := by rw [show ((k + 1 : Nat) : Int) = (k : Int) + 1 by omega, Int.add_mul, Int.mul_assoc]
            have q2 : ((k : Int) + 1) * (S + X) = (k : Int) * S + (k : Int) * X + (S + X) := by rw [Int.add_mul, Int.one_mul, Int.mul_add]
            rw [q1, q2]
            generalize (k : Int) * S = kS
            generalize (k : Int) * X = kX
            omega
          have p4 : (k : Int) * S ≤ 300 * S := Int.mul_le_mul_of_nonneg_right (by omega) hS
          have p5 : 0 ≤ (k : Int) * S := Int.mul_nonneg (by omega) hS
          have p6 : 0 ≤ (k : Int) * X := Int.mul_nonneg (by omega) (by omega)
          rw [p2] at h7
          rw [p3]
          generalize (k : Int) * S = kS at *
          generalize (k : Int) * X = kX at *
          omega
theorem nr_lt (xs : List Nat) (K : Nat) : ∀ s, nrO xs K = some s → s < 18446744073709551616 := by
  induction K with
  | zero => intro s h; have : s = 0 := (Option.some.inj h).symm; omega
  | succ k ih =>
    intro s h
    have h' : (nrO xs k).bind (fun s => adU s (rung (xs.getD k 0))) = some s := h
    cases ho : nrO xs k with
    | none => rw [ho] at h'; cases h'
    | some v =>
      rw [ho] at h'
      have hv := ih v ho
      have h2 : adU v (rung (xs.getD k 0)) = some s := h'
      unfold adU at h2
      split at h2
      · rename_i hf
        simp only [Bool.and_eq_true] at hf
        have := addV_lt 2 hv (vrung64 (xs.getD k 0)) hf.1 hf.2
        have e := Option.some.inj h2
        omega
      · exact (op_word (op := .add) (Or.inl rfl) h2).1
theorem nr_nan (xs : List Nat) {i : Nat} (h : nanB (xs.getD i 0) = true) (k : Nat) (hk : i < k) : nrO xs k = none := by
  induction k with
  | zero => omega
  | succ k ih =>
    show (nrO xs k).bind _ = none
    by_cases c : i < k
    · rw [ih c]; rfl
    · have e : i = k := by omega
      subst e
      cases ho : nrO xs i with
      | none => rfl
      | some s => exact adU_nan (nr_lt xs i s ho) (vrung64 _) (Or.inr (by rw [nan_rung]; exact h))
/-- What Most tells. -/
theorem ms_inv (xs : List Nat) (K : Nat) :
    ((msL xs K).1 < 0 → (msL xs K).2 = 0 ∧ ∀ j, j < K → nanB (xs.getD j 0) = true) ∧
    (∀ a : Nat, (msL xs K).1 = (a : Int) → a < K ∧ nanB (xs.getD a 0) = false ∧ (msL xs K).2 = rung (xs.getD a 0)) ∧
    (∀ j, j < K → nanB (xs.getD j 0) = false → rung (xs.getD j 0) ≤ (msL xs K).2 ∧ ((j : Int) < (msL xs K).1 → rung (xs.getD j 0) < (msL xs K).2)) := by
  induction K with
  | zero => exact ⟨fun _ => ⟨rfl, fun j hj => by omega⟩, fun a h => by simp [msL] at h, fun j hj => by omega⟩
  | succ k ih =>
    obtain ⟨i1, i2, i3⟩ := ih
    obtain ⟨b1, b2, b3⟩ := msL_bounds xs k
    by_cases hc : nanB (xs.getD k 0) = false ∧ ((msL xs k).1 < 0 ∨ (msL xs k).2 < rung (xs.getD k 0))
    · rw [msL_yes hc.1 hc.2]
      refine ⟨fun h => by simp only at h; omega, fun a h => ?_, fun j hj hn => ?_⟩
      · have e : a = k := by simp only at h; omega
        subst e
        exact ⟨by omega, hc.1, rfl⟩
      · by_cases e : j = k
        · subst e
          exact ⟨Nat.le_refl _, fun h => by simp only at h; omega⟩
        · have hj' : j < k := by omega
          rcases hc.2 with c | c
          · have := (i1 c).2 j hj'
            rw [hn] at this; cases this
          · have := (i3 j hj' hn).1
            exact ⟨by simp only; omega, fun _ => by simp only; omega⟩
    · have hno : nanB (xs.getD k 0) = true ∨ (0 ≤ (msL xs k).1 ∧ rung (xs.getD k 0) ≤ (msL xs k).2) := by
        cases hn : nanB (xs.getD k 0)
        · right
          rw [hn] at hc
          constructor
          · rcases Int.lt_or_le (msL xs k).1 0 with c | c
            · exact absurd ⟨rfl, Or.inl c⟩ hc
            · exact c
          · rcases Nat.lt_or_ge (msL xs k).2 (rung (xs.getD k 0)) with c | c
            · exact absurd ⟨rfl, Or.inr c⟩ hc
            · exact c
        · exact Or.inl rfl
      rw [msL_no hno]
      refine ⟨fun h => ⟨(i1 h).1, fun j hj => ?_⟩, fun a h => ?_, fun j hj hn => ?_⟩
      · by_cases e : j = k
        · subst e
          rcases hno with c | c
          · exact c
          · omega
        · exact (i1 h).2 j (by omega)
      · obtain ⟨a1, a2, a3⟩ := i2 a h
        exact ⟨by omega, a2, a3⟩
      · by_cases e : j = k
        · subst e
          rcases hno with c | c
          · rw [hn] at c; cases c
          · exact ⟨c.2, fun h => by omega⟩
        · exact i3 j (by omega) hn
end Go.Proofs.YtlkmmfmnggejlaaDoor
