/- LowerBack, plain: what the law makes is small, what Times tells of it is taken apart as it was. -/
import Derived.Test.YtbnjjoaippoinaaU12
import Derived.Test.YtbnjjoaippoinaaW2
import Derived.Test.YtbnjjoaippoinaaMx9
namespace Go.Proofs.Ytbnjjoaippoinaa
open Go.RowKit

/-- A whole number from -4 to 4, as a float. -/
def Fi (x : Nat) : Prop := ∃ X : Int, X.natAbs ≤ 4 ∧ x = floatOfInt .f64 X
/-- 2^-4 to 2^4. -/
def Fp (x : Nat) : Prop := ∃ n : Nat, n ≤ 8 ∧ (x : Int) = 4607182418800017408 + ((n : Int) - 4) * 4503599627370496
theorem ex_kern {e x : Nat} {X : Int} (h1 : x < 18446744073709551616) (h2 : finB x = true) (h3 : vI x = X * 2 ^ e) (h4 : sgn x = decide (X < 0)) : Ex e x X := ⟨⟨h1, h2, h3⟩, h4⟩
theorem fi_all : ∀ n : Nat, n < 9 → floatOfInt .f64 ((n : Int) - 4) < 18446744073709551616 ∧ finB (floatOfInt .f64 ((n : Int) - 4)) = true ∧ vI (floatOfInt .f64 ((n : Int) - 4)) = ((n : Int) - 4) * 2 ^ twP ∧ sgn (floatOfInt .f64 ((n : Int) - 4)) = decide (((n : Int) - 4) < 0) := by
  intro n hn
  match n, hn with
  | 0, _ => exact ⟨by decide, by kernel_rfl, by kernel_rfl, by kernel_rfl⟩
  | 1, _ => exact ⟨by decide, by kernel_rfl, by kernel_rfl, by kernel_rfl⟩
  | 2, _ => exact ⟨by decide, by kernel_rfl, by kernel_rfl, by kernel_rfl⟩
  | 3, _ => exact ⟨by decide, by kernel_rfl, by kernel_rfl, by kernel_rfl⟩
  | 4, _ => exact ⟨by decide, by kernel_rfl, by kernel_rfl, by kernel_rfl⟩
  | 5, _ => exact ⟨by decide, by kernel_rfl, by kernel_rfl, by kernel_rfl⟩
  | 6, _ => exact ⟨by decide, by kernel_rfl, by kernel_rfl, by kernel_rfl⟩
  | 7, _ => exact ⟨by decide, by kernel_rfl, by kernel_rfl, by kernel_rfl⟩
  | 8, _ => exact ⟨by decide, by kernel_rfl, by kernel_rfl, by kernel_rfl⟩
  | m + 9, h => exact absurd h (by omega)
theorem fi_ex {X : Int} (h : X.natAbs ≤ 4) : Ex twP (floatOfInt .f64 X) X := by
  have := fi_all (X + 4).toNat (by omega)
  rw [show (((X + 4).toNat : Nat) : Int) - 4 = X by omega] at this
  exact ex_kern this.1 this.2.1 this.2.2.1 this.2.2.2
theorem fp_all : ∀ n : Nat, n < 9 → Ex 1070 (4589168020290535424 + n * 4503599627370496) ((2 ^ n : Nat) : Int) := by
  intro n hn
  match n, hn with
  | 0, _ => exact ex_kern (by decide) (by kernel_rfl) (by kernel_rfl) (by kernel_rfl)
  | 1, _ => exact ex_kern (by decide) (by kernel_rfl) (by kernel_rfl) (by kernel_rfl)
  | 2, _ => exact ex_kern (by decide) (by kernel_rfl) (by kernel_rfl) (by kernel_rfl)
  | 3, _ => exact ex_kern (by decide) (by kernel_rfl) (by kernel_rfl) (by kernel_rfl)
  | 4, _ => exact ex_kern (by decide) (by kernel_rfl) (by kernel_rfl) (by kernel_rfl)
  | 5, _ => exact ex_kern (by decide) (by kernel_rfl) (by kernel_rfl) (by kernel_rfl)
  | 6, _ => exact ex_kern (by decide) (by kernel_rfl) (by kernel_rfl) (by kernel_rfl)
  | 7, _ => exact ex_kern (by decide) (by kernel_rfl) (by kernel_rfl) (by kernel_rfl)
  | 8, _ => exact ex_kern (by decide) (by kernel_rfl) (by kernel_rfl) (by kernel_rfl)
  | m + 9, h => exact absurd h (by omega)
theorem two_bd {n : Nat} (h : n ≤ 8) : 1 ≤ ((2 ^ n : Nat) : Int) ∧ ((2 ^ n : Nat) : Int) ≤ 256 := by
  have h1 := Nat.two_pow_pos n
  have h2 : 2 ^ n ≤ 2 ^ 8 := Nat.pow_le_pow_right (by omega) h
  have e : (2 ^ 8 : Nat) = 256 := by decide
  rw [e] at h2
  omega
/-- What the law makes. -/
theorem back_sm {N : Nat} {ls ds : List Nat} (hN : N ≤ 9) (hl : ls.length = tri N) (hL : ∀ i, i < ls.length → Fi (ls.getD i 0)) (hd : ds.length = N) (hD : ∀ i, i < ds.length → Fp (ds.getD i 0)) : ∃ L D, Sm 1070 N L D (lsF ls) (dsF ds) := by
  have hL' : ∀ i, ∃ X : Int, X.natAbs ≤ 4 ∧ (i < ls.length → ls.getD i 0 = floatOfInt .f64 X) := fun i => by
    by_cases h : i < ls.length
    · obtain ⟨X, h1, h2⟩ := hL i h
      exact ⟨X, h1, fun _ => h2⟩
    · exact ⟨0, by decide, fun h' => absurd h' h⟩
  have hD' : ∀ i, ∃ n : Nat, n ≤ 8 ∧ (i < ds.length → (ds.getD i 0 : Int) = 4607182418800017408 + ((n : Int) - 4) * 4503599627370496) := fun i => by
    by_cases h : i < ds.length
    · obtain ⟨n, h1, h2⟩ := hD i h
      exact ⟨n, h1, fun _ => h2⟩
    · exact ⟨0, by decide, fun h' => absurd h' h⟩
  obtain ⟨L0, hL0⟩ := Classical.axiomOfChoice hL'
  obtain ⟨D0, hD0⟩ := Classical.axiomOfChoice hD'
  refine ⟨fun i k => L0 (tri i + k), fun k => ((2 ^ D0 k : Nat) : Int), hN, by omega, fun i k hk hi => ?_, fun i k => (hL0 _).1, fun k hk => ?_, fun k => two_bd (hD0 k).1⟩
  · have h := (hL0 (tri i + k)).2 (by rw [hl]; exact tri_in hk hi)
    unfold lsF
    rw [h]
    exact fi_ex (hL0 _).1
  · have h1 := (hD0 k).1
    have h2 := (hD0 k).2 (by omega)
    have := fp_all _ (show D0 k < 9 by omega)
    rw [show dsF ds k = 4589168020290535424 + D0 k * 4503599627370496 by unfold dsF; omega]
    exact this
theorem tri_split {N p : Nat} (h : p < tri N) : ∃ i k, k < i ∧ i < N ∧ p = tri i + k := by
  induction N with
  | zero => exact absurd h (by simp [tri])
  | succ n ih =>
    rw [tri] at h
    by_cases c : p < tri n
    · obtain ⟨i, k, h1, h2, h3⟩ := ih c
      exact ⟨i, k, h1, by omega, h3⟩
    · exact ⟨n, p - tri n, by omega, by omega, by omega⟩
/-- What Times tells of it, taken apart. -/
theorem back_res {N : Nat} {ls ds ms : List Nat} (hN : N ≤ 9) (hl : ls.length = tri N) (hL : ∀ i, i < ls.length → Fi (ls.getD i 0)) (hd : ds.length = N) (hD : ∀ i, i < ds.length → Fp (ds.getD i 0)) (hm : LN (tabM N N (tmO (lsF ls) (dsF ds))) ms) : Res N N ms 0 0 (lsF ls) (dsF ds) := by
  obtain ⟨L, D, hS⟩ := back_sm hN hl hL hd hD
  have hlen : ms.length = N * N := by rw [hm.1, tabM_len]
  have hat : ∀ i j, i < N → j < N → NR (tmO (lsF ls) (dsF ds) i j) (ms.getD (i * N + j) 0) := fun i j hi hj => by
    have := hm.2 (i * N + j) (by rw [tabM_len]; exact at_lt hi hj)
    rw [tabM_at hi hj] at this
    exact this
  have hex : ∀ i j, j ≤ i → i < N → ∃ s, tmO (lsF ls) (dsF ds) i j = some s ∧ Ex 1070 s (xE L D i j (j + 1)) := fun i j hj hi => by
    rw [tmO_low hj]
    exact back_times hS hj hi (j + 1) (Nat.le_refl _)
  have hlow : ∀ i j, j ≤ i → i < N → Ex 1070 (mE N ms i j) (xE L D i j (j + 1)) := fun i j hj hi => by
    obtain ⟨s, h1, h2⟩ := hex i j hj hi
    have := hat i j hi (by omega)
    rw [h1] at this
    unfold mE
    rw [this.2]
    exact h2
  have hfin : ∀ i j, i < N → j < N → finB (ms.getD (i * N + j) 0) = true := fun i j hi hj => by
    by_cases c : j ≤ i
    · exact (hlow i j c hi).1.2.1
    · obtain ⟨s, h1, h2⟩ := hex j i (by omega) hj
      have := hat i j hi hj
      rw [tmO_comm, h1] at this
      rw [this.2]
      exact h2.1.2.1
  refine Or.inr (Or.inr ⟨?_, ?_, Or.inl ⟨rfl, rfl, ?_⟩⟩)
  · unfold symM
    rw [Int.toNat_natCast]
    have e1 : rightM N N ms.length = true := by
      unfold rightM
      rw [okN_iff.2 ⟨by omega, by omega⟩, hlen]
      simp
    rw [e1, decide_eq_true rfl, Bool.true_and, Bool.true_and, List.all_eq_true]
    intro p hp
    rw [List.mem_range] at hp
    obtain ⟨d1, d2⟩ := div_lt' hp
    have h1 := hat (p / N) (p % N) d1 d2
    have h2 := hat (p % N) (p / N) d2 d1
    rw [tmO_comm] at h2
    have e2 : p / N * N + p % N = p := by rw [Nat.mul_comm]; exact Nat.div_add_mod p N
    rw [e2] at h1
    exact NR_sameB h1 h2
  · rw [List.all_eq_true]
    intro x hx
    obtain ⟨p, hp, rfl⟩ := List.getElem_of_mem hx
    rw [hlen] at hp
    obtain ⟨d1, d2⟩ := div_lt' hp
    have := hfin (p / N) (p % N) d1 d2
    have e2 : p / N * N + p % N = p := by rw [Nat.mul_comm]; exact Nat.div_add_mod p N
    rw [e2, getD_at (by omega)] at this
    exact this
  · rw [Int.toNat_natCast]
    exact back_col hS hlow
/-- It is the same factor. -/
theorem back_same {N : Nat} {ls ds ls' ds' : List Nat} (hl : ls.length = tri N) (hd : ds.length = N) (hl' : ls'.length = tri N) (hd' : ds'.length = N) (h1 : ∀ i k, k < i → i < N → ls'.getD (tri i + k) 0 = lsF ls i k) (h2 : ∀ k, k < N → ds'.getD k 0 = dsF ds k) : sameL ls ls' = true ∧ sameL ds ds' = true := by
  have sm : ∀ a : Nat, sameB a a = true := fun a => by unfold sameB; cases nanB a <;> simp
  refine ⟨sameL_yes (by omega) fun j hj => ?_, sameL_yes (by omega) fun j hj => ?_⟩
  · obtain ⟨i, k, a1, a2, rfl⟩ := tri_split (show j < tri N by omega)
    rw [h1 i k a1 a2]
    exact sm _
  · rw [h2 j (by omega)]
    exact sm _
end Go.Proofs.Ytbnjjoaippoinaa
