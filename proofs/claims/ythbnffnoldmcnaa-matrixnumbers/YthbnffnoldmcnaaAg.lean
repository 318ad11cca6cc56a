/- What Add, Sub, Axpy and Scale answer. -/
import Derived.Test.YthbnffnoldmcnaaAf
namespace Go.Proofs.Ythbnffnoldmcnaa
open Go.RowKit

theorem GaveF.up {w0 w w' : World} {os : List (Option Nat)} {v : Value} (h : GaveF w os v w') (hb : Below w0.heap.size w0 w) : GaveF w0 os v w' := by
  obtain ⟨ao, cap, rs, h1, h2, h3, h4, h5, h6⟩ := h
  exact ⟨ao, cap, rs, h1, h2, h3, h4, h5.mono hb.size, hb.trans (h6.mono hb.size)⟩
theorem al_two {w : World} (x y : Value) (s t : TypeId) : ((w.alloc (.cells #[x] s)).alloc (.cells #[y] t)).cell? ⟨w.heap.size, 0, none⟩ = some x ∧ ((w.alloc (.cells #[x] s)).alloc (.cells #[y] t)).cell? ⟨w.heap.size + 1, 0, none⟩ = some y ∧ Below w.heap.size w ((w.alloc (.cells #[x] s)).alloc (.cells #[y] t)) := by
  refine ⟨by go_simp, by go_simp, ((Below.refl _ _).alloc (Nat.le_refl _) _).alloc (by simp) _⟩
theorem al_three {w : World} (x y z : Value) (s t u : TypeId) : (((w.alloc (.cells #[x] s)).alloc (.cells #[y] t)).alloc (.cells #[z] u)).cell? ⟨w.heap.size, 0, none⟩ = some x ∧ (((w.alloc (.cells #[x] s)).alloc (.cells #[y] t)).alloc (.cells #[z] u)).cell? ⟨w.heap.size + 1, 0, none⟩ = some y ∧ (((w.alloc (.cells #[x] s)).alloc (.cells #[y] t)).alloc (.cells #[z] u)).cell? ⟨w.heap.size + 1 + 1, 0, none⟩ = some z ∧ Below w.heap.size w (((w.alloc (.cells #[x] s)).alloc (.cells #[y] t)).alloc (.cells #[z] u)) := by
  refine ⟨by go_simp, by go_simp, by go_simp, (((Below.refl _ _).alloc (Nat.le_refl _) _).alloc (by simp) _).alloc (by simp; omega) _⟩
theorem fit_len {n k : Nat} (h : fitN n k = 0) : k = n := by
  unfold fitN at h
  split at h
  · omega
  · omega
end Go.Proofs.Ythbnffnoldmcnaa
