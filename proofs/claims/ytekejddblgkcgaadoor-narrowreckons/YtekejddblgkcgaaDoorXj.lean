/- What narrow's Split, the document's Bits, Same and Next, and the law's own bits answer, call by call. -/
import Derived.Test.YtekejddblgkcgaaDoorXg
import Derived.Test.YtekejddblgkcgaaDoorZr
namespace Go.Proofs.YtekejddblgkcgaaDoor
open Go.RowKit

theorem nan_fin {c : Nat} (h : nanB c = true) : finB c = false := by
  unfold nanB at h; unfold finB
  have : 9218868437227405312 < rung c := by simpa using h
  simp; omega
theorem s_nan_fin {c : Nat} (h : S.nanB c = true) : S.finB c = false := by
  unfold S.nanB at h; unfold S.finB
  have : 2139095040 < S.rung c := by simpa using h
  simp; omega
/-- A box that has just been laid, in a later world: its cells, none of them frozen; and what is older stands. -/
theorem nbox {w w1 : World} {x0 x1 x2 : Value} {s : TypeId} (hb : Below (w.alloc (.cells #[x0, x1, x2] s)).heap.size (w.alloc (.cells #[x0, x1, x2] s)) w1) :
    (w1.cell? ⟨w.heap.size, 0, none⟩ = some x0 ∧ w1.cell? ⟨w.heap.size, 1, none⟩ = some x1 ∧ w1.cell? ⟨w.heap.size, 2, none⟩ = some x2) ∧
    (w1.frozen? ⟨w.heap.size, 0, none⟩ = false ∧ w1.frozen? ⟨w.heap.size, 1, none⟩ = false ∧ w1.frozen? ⟨w.heap.size, 2, none⟩ = false) ∧ Below w.heap.size w w1 := by
  have h := fun (o : Nat) => hb.cell (p := ⟨w.heap.size, o, none⟩) (by simp)
  have g := fun (o : Nat) => hb.frozen (p := ⟨w.heap.size, o, none⟩) (by simp)
  refine ⟨⟨?_, ?_, ?_⟩, ⟨?_, ?_, ?_⟩, below3 hb⟩
  · rw [h]; simp [go_sem]
  · rw [h]; simp [go_sem]
  · rw [h]; simp [go_sem]
  · rw [g]; simp [go_sem]
  · rw [g]; simp [go_sem]
  · rw [g]; simp [go_sem]
theorem nundrew {w w1 : World} (h : Below w.drew.heap.size w.drew w1) : Below w.heap.size w w1 := ⟨h.os, h.tape, h.output, h.size, h.block⟩
set_option maxHeartbeats 400000 in
theorem r_same_any (a b : Nat) (ha : a < 4294967296) (hb : b < 4294967296) (w : World) :
    Calls Tryd.prog 30 #[.float .f32 a, .float .f32 b] w fun e w' => e = .returned (.bool (sSame a b)) ∧ w' = w := by
  have fa := run_sbits a
  have fb := run_sbits b
  have h1 := s_ne_self a ha
  have h2 := s_ne_self b hb
  by_cases he : a = b
  · have hq : ((a : Int) == (b : Int)) = true := by simp; omega
    have HE : Hid (sSame a b = true) := (show sSame a b = true by unfold sSame; simp [he])
    clear he
    go_enter Tryd.func30, Tryd.ntmps30
    go_wp2
    go_ret
    exact ⟨end_bool HE.out.symm, rfl⟩
  · have hq : ((a : Int) == (b : Int)) = false := by simp; omega
    have HE : Hid (sSame a b = (S.nanB a && S.nanB b)) := (show sSame a b = (S.nanB a && S.nanB b) by unfold sSame; simp [he])
    clear he
    cases na : S.nanB a <;>
    · rw [na] at h1 HE
      go_enter Tryd.func30, Tryd.ntmps30
      go_wp2
      go_ret
      exact ⟨end_bool (by rw [HE.out]; rfl), rfl⟩
set_option maxHeartbeats 400000 in
theorem l_bits_any (a b : Nat) (ha : a < 4294967296) (hb : b < 4294967296) (w : World) :
    Calls Tryd.prog 7 #[.float .f32 a, .float .f32 b] w fun e w' => e = .returned (.bool (sSame a b)) ∧ w' = w := by
  go_enter Tryd.func7, Tryd.ntmps7
  go_wp2_with (go_at_call 30; refine (r_same_any a b ha hb _).mono ?_; rintro e w' ⟨rfl, rfl⟩)
  go_ret
  exact ⟨rfl, rfl⟩
end Go.Proofs.YtekejddblgkcgaaDoor
