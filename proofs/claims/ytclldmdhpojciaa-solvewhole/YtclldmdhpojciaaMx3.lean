/- The closures of Make, Identity, Transpose, Sub and Mul; a sum of products in order. -/
import Derived.Test.YtclldmdhpojciaaMx2
import Derived.Test.YtclldmdhpojciaaAf
import Derived.Deep.RegionHeld3
namespace Go.Proofs.Ytclldmdhpojciaa
open Go.RowKit

theorem at_lt {R C i j : Nat} (hi : i < R) (hj : j < C) : i * C + j < R * C := by
  have h : (i + 1) * C ≤ R * C := Nat.mul_le_mul hi (Nat.le_refl _)
  rw [Nat.succ_mul] at h
  omega
theorem at_div {C i j : Nat} (hj : j < C) : (i * C + j) / C = i ∧ (i * C + j) % C = j := by
  have hC : 0 < C := by omega
  constructor
  · rw [Nat.add_comm, Nat.add_mul_div_right _ _ hC, Nat.div_eq_of_lt hj, Nat.zero_add]
  · rw [Nat.add_comm, Nat.add_mul_mod_self_right, Nat.mod_eq_of_lt hj]
/-- The entry at (i, j), as a number. -/
def enO (C : Nat) (xs : List Nat) (i j : Nat) : Option Nat := toO (xs.getD (i * C + j) 0)
/-- The sum in order of the first k products of row i and column j. -/
def muO (C D : Nat) (xs ys : List Nat) (i j : Nat) : Nat → Option Nat
  | 0 => some 0
  | k + 1 => opO .add (muO C D xs ys i j k) (opO .mul (enO C xs i k) (enO D ys k j))
def idO (i j : Nat) : Option Nat := if i = j then some 4607182418800017408 else some 0
set_option maxHeartbeats 400000 in
theorem ident1_all (i j : Nat) (w : World) : Calls Try.prog 55 #[.int .i64 i, .int .i64 j] w fun e w' => ∃ r, e = .returned (.float .f64 r) ∧ NR (idO i j) r ∧ Below w.heap.size w w' := by
  unfold idO
  by_cases h : i = j
  · rw [if_pos h]
    have b1 : ((i : Int) == (j : Int)) = true := by simp [h]
    clear h
    go_enter Try.func55, Try.ntmps55
    go_wp2
    go_ret
    exact ⟨_, rfl, ⟨by omega, rfl⟩, Below.refl _ _⟩
  · rw [if_neg h]
    have b1 : ((i : Int) == (j : Int)) = false := by simp; omega
    clear h
    go_enter Try.func55, Try.ntmps55
    go_wp2
    go_ret
    exact ⟨_, rfl, ⟨by omega, rfl⟩, Below.refl _ _⟩
set_option maxHeartbeats 400000 in
theorem trans1_all (R C : Nat) (xs : List Nat) (ao : Option Addr) (cap A : Nat) (i j : Nat) (w : World) (hr : GRow w ao xs) (hF : FW xs) (hl : xs.length = R * C) (hR : R ≤ 48) (hC : C ≤ 48) (hi : i < C) (hj : j < R) (hA : B3 w A (.int .i64 R) (.int .i64 C) (.slice ao xs.length cap)) :
    Calls Try.prog 57 #[.int .i64 i, .int .i64 j, .pointer (some ⟨A, 0, none⟩)] w fun e w' => ∃ r, e = .returned (.float .f64 r) ∧ NR (enO C xs j i) r ∧ Below w.heap.size w w' := by
  obtain ⟨a0, a1, a2, _⟩ := hA
  have hp : j * C + i < xs.length := by rw [hl]; exact at_lt hj hi
  have ce := fun w h => mentry_any xs R C j i (j * C + i) xs.length cap ao w h (by omega) hC (by omega) rfl hp rfl
  have HN : Hid (NR (enO C xs j i) (xs.getD (j * C + i) 0)) := toO_NR (hF.at hp)
  generalize xs.getD (j * C + i) 0 = x at *
  clear hp hl
  go_enter Try.func57, Try.ntmps57
  go_wp2_with (go_at_call 58; refine (ce _ hr).mono ?_; rintro e w1 ⟨rfl, b1⟩)
  go_ret
  exact ⟨_, rfl, HN.out, b1⟩
end Go.Proofs.Ytclldmdhpojciaa
