/- The exact sum of finite floats: plain, and what the program's Exact answers. -/
import Derived.Test.YtlkmmfmnggejlaaDoorZ8
import Derived.Test.YtlkmmfmnggejlaaDoorZv
namespace Go.Proofs.YtlkmmfmnggejlaaDoor
open Go.RowKit

/-- The sum of the first k floats, in units of 2^-1074. -/
def sI (xs : List Nat) : Nat → Int
  | 0 => 0
  | k + 1 => sI xs k + vI (xs.getD k 0)
/-- .. as a right dyad. -/
def sD (xs : List Nat) (k : Nat) : Dy := (nrm (sI xs k) (-1074)).1
/-- The exact sum rounded. -/
def exW (xs : List Nat) (m : Int) : Nat := rndW (sD xs xs.length) m
theorem fin_at {xs : List Nat} (h : xs.all finB = true) {k : Nat} (hk : k < xs.length) : finB (xs.getD k 0) = true := by
  rw [getD_at hk]
  exact List.all_eq_true.1 h _ (List.getElem_mem hk)
theorem sI_lt {xs : List Nat} (h : xs.all finB = true) {V : Nat} (hV : V = 2098) : ∀ k, k ≤ xs.length → (sI xs k).natAbs ≤ k * 2 ^ V
  | 0, _ => by simp [sI]
  | k + 1, hk => by
    have i1 := sI_lt h hV k (by omega)
    have i2 := vI_lt (fin_at h (k := k) (by omega)) hV
    have i3 := Int.natAbs_add_le (sI xs k) (vI (xs.getD k 0))
    rw [sI, Nat.add_mul, Nat.one_mul]
    omega
theorem sI_bl {xs : List Nat} (h : xs.all finB = true) (hn : xs.length ≤ 1125899906842624) {k : Nat} (hk : k ≤ xs.length) : bl (sI xs k).natAbs ≤ 3000 := by
  obtain ⟨V, hV⟩ : ∃ V : Nat, V = 2098 := ⟨_, rfl⟩
  obtain ⟨E, hE⟩ : ∃ E : Nat, E = 902 := ⟨_, rfl⟩
  have h1 := sI_lt h hV k hk
  refine bl_le_iff.2 (Nat.lt_of_le_of_lt h1 ?_)
  calc k * 2 ^ V < 2 ^ E * 2 ^ V := (Nat.mul_lt_mul_right (Nat.two_pow_pos _)).2 (Nat.lt_of_lt_of_le (show k < 2 ^ 51 by omega) (Nat.pow_le_pow_right (by omega) (by omega)))
    _ = 2 ^ (E + V) := by rw [← Nat.pow_add]
    _ = 2 ^ 3000 := by rw [show E + V = 3000 by omega]
theorem sD_told {xs : List Nat} (h : xs.all finB = true) (hn : xs.length ≤ 1125899906842624) {k : Nat} (hk : k ≤ xs.length) : nrm (sI xs k) (-1074) = (sD xs k, 0) := by
  have := nrm_told (X := sI xs k) (e := -1074) (by have := sI_bl h hn hk; omega) (by omega) (by omega)
  unfold sD
  rw [← this]
theorem sD_qd {xs : List Nat} (h : xs.all finB = true) (hn : xs.length ≤ 1125899906842624) {k : Nat} (hk : k ≤ xs.length) {K : Nat} (hK : K = 64462) : rightB (sD xs k) = true ∧ Lm (sD xs k).mag ∧ qd (sD xs k) = sI xs k * 2 ^ K := by
  have ht := sD_told h hn hk
  have h2 : (nrm (sI xs k) (-1074)).2 = 0 := by rw [ht]
  obtain ⟨r1, r2⟩ := nrm_ok h2
  have r3 := r2 (-65536) (by omega) (by omega)
  rw [ht] at r1 r3
  refine ⟨r1, nrm_lm _ _, ?_⟩
  simp only at r3
  unfold qd
  rw [show (sD xs k).exp + 65536 = (sD xs k).exp - -65536 by omega, r3, hK]
  rfl
theorem sD_add {xs : List Nat} (h : xs.all finB = true) (hn : xs.length ≤ 1125899906842624) {k : Nat} (hk : k < xs.length) : addD (sD xs k) (ofD (xs.getD k 0)).1 = (sD xs (k + 1), 0) := by
  obtain ⟨K, hK⟩ : ∃ K : Nat, K = 64462 := ⟨_, rfl⟩
  obtain ⟨a1, a2, a3⟩ := sD_qd h hn (show k ≤ xs.length by omega) hK
  obtain ⟨_, b2, _, b4⟩ := fq_qd (fin_at h hk) hK
  unfold addD
  rw [a1, b2]
  simp only [Bool.and_self, if_true]
  rw [a3, b4, ← Int.add_mul, show sI xs k + vI (xs.getD k 0) = sI xs (k + 1) from rfl, shift_nrm, hK, ← sD_told h hn hk]
  rfl
set_option maxHeartbeats 1000000 in
theorem exact_any (xs : List Nat) (ao : Option Addr) (cap : Nat) (m : Int) (w : World) (hT : TabW w) (hr : GRow w ao xs) (hF : FW xs) (hn : xs.length ≤ 1125899906842624) :
    Calls Tryd.prog 18 #[.slice ao xs.length cap, .int .i8 m] w fun e w' => e = .returned (.tuple #[.float .f64 (if xs.all finB then exW xs m else 0), .int .i64 (if xs.all finB then 0 else 5)]) ∧ Below w.heap.size w w' := by
  have ca := fun w h => allfin_any xs ao cap w h hF hn
  cases hf : xs.all finB
  · rw [hf] at ca
    simp only [Bool.false_eq_true, if_false]
    go_enter Tryd.func18, Tryd.ntmps18
    go_wp2_with (first
      | (go_at_call 45; refine (ca _ (hr.below ((Below.refl _ _).alloc (Nat.le_refl _) _))).mono ?_; rintro e w' ⟨rfl, rfl⟩))
    exact bodyPost_ret (v := .tuple #[.float .f64 0, .int .i64 5]) (by simp [results, Tryd.results18, go_sem]) rfl ⟨rfl, (Below.refl _ _).alloc (Nat.le_refl _) _⟩
  · rw [hf] at ca
    simp only [if_true]
    have ci := fun B w h1 h2 h3 => innone_any xs ao cap B m (fun k => (ofD (xs.getD k 0)).1) (sD xs) w h1 h2 hF hn h3
      (fun k hk => by
        obtain ⟨b1, _, b3, _⟩ := fq_qd (fin_at hf hk) (K := 64462) rfl
        exact ⟨by rw [← b1], b3⟩) (by unfold sD sI nrm; rw [if_pos rfl]) (fun k hk => sD_add hf hn hk) (fun k _ => nrm_lm _ _) (sD_qd hf hn (Nat.le_refl _) (K := 64462) rfl).1
    rw [show rndW (sD xs xs.length) m = exW xs m from rfl] at ci
    generalize exW xs m = R at *
    go_enter Tryd.func18, Tryd.ntmps18
    go_wp2_with (first
      | (go_at_call 45; refine (ca _ (hr.below ((Below.refl _ _).alloc (Nat.le_refl _) _))).mono ?_; rintro e w' ⟨rfl, rfl⟩)
      | (go_at_call 46; refine (ci _ _ (tabW_alloc hT _) (hr.below ((Below.refl _ _).alloc (Nat.le_refl _) _)) (by go_simp)).mono ?_; rintro e w2 ⟨rfl, b2⟩))
    exact bodyPost_ret (v := .tuple #[.float .f64 R, .int .i64 0]) (by simp [results, Tryd.results18, go_sem]) rfl ⟨rfl, ((Below.refl _ _).alloc (Nat.le_refl _) _).trans (b2.mono (by go_simp))⟩
end Go.Proofs.YtlkmmfmnggejlaaDoor
