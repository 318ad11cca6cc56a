/- A list of floats as an argument: opened into a row of cells (as Bq of wip/sums, for a plain seat). -/
import Derived.Test.YtclldmdhpojciaaBb
import Derived.WalkKit
import Derived.ProofKit
import Derived.OpenShut
import Derived.SizedLaws
import Derived.ChangeSlices
import Derived.Deep.Slices
import Derived.Lib.SmallJoins
import Derived.WideShapes
namespace Go.Proofs.Ytclldmdhpojciaa
open Go.ChangeShapes Go.WideShapes Go.ChangeAt Go.RowKit Go.Joins

set_option maxRecDepth 100000 in
theorem vend_cell {H : Type} {enc : TypeId × Value → H} {w : World} {base : Nat} {spare : Nat → Bool} {held : Bool} {fuel : Nat} {v : Value} {y : DataW H × List MemPlace} (h : DataW.trod enc Try.prog w base spare held fuel 29 [v] = some y) :
    ∃ n, v = .float .f64 n ∧ y = (.lit (.float .f64 n), []) ∧ (Lit.float .f64 n).wf = true := by
  have hu := Try.underlying29
  generalize Try.prog = P at h hu
  generalize 29 = t at h hu
  cases fuel with
  | zero => simp [DataW.trod] at h
  | succ m =>
    unfold DataW.trod at h
    rw [hu] at h
    split at h <;> simp_all
theorem vspot {w : World} {a : Addr} {v : Value} (h : w.cell? a = some v) : a = ⟨a.block, a.off, none⟩ := by
  obtain ⟨b, o, s⟩ := a
  cases s with
  | none => rfl
  | some k =>
    unfold World.cell? at h
    split at h
    · simp at h
    · cases h

theorem vw64_of {n : Nat} (h : (Lit.float .f64 n).wf = true) : n < 18446744073709551616 := by
  simpa [Lit.wf] using h
/-- The float that a cell holds. -/
def vfcell : Value → Nat
  | .float .f64 n => n
  | _ => 0
set_option maxRecDepth 100000 in
theorem vopen_floats {H : Type} {enc : TypeId × Value → H} {w : World} {base : Nat} {held : Bool} {r : Reach} {b0 : Nat} {v : Value} {d : DataW H} {p : List MemPlace}
    (hv : Value.okWide Try.prog w r b0 22 v) (h : DataW.Trod enc Try.prog w base (fun _ => true) held 22 v d p) :
    ∃ (l : List Nat) (ao : Option Addr) (cap : Nat), v = .slice ao l.length cap ∧ GRow w ao l ∧ FW l ∧ l.length ≤ cap ∧ ((d.weights Try.prog 22).all (· ≤ reachBytes) = true → cap ≤ 17592186044416) := by
  obtain ⟨a0, len0, cap0, rfl⟩ := okWide_slice Try.underlying22 hv
  obtain ⟨fuel, hf⟩ := h
  have hcs : (Value.slice a0 len0 cap0).cells.toList = [.slice a0 len0 cap0] := rfl
  rw [hcs] at hf
  rcases Go.Deep.open_slice1 Try.underlying22 (by kernel_rfl) hf with ⟨e1, e2⟩ | ⟨a, len, cap, m, n, V, D, Pl, e1, _, hl, _, hm, e2, hx⟩
  · simp at e1
    obtain ⟨rfl, rfl, rfl⟩ := e1
    exact ⟨[], none, 0, rfl, Or.inl rfl, fun x hx => by simp at hx, Nat.le_refl _, fun _ => by omega⟩
  · simp only [List.cons.injEq, Value.slice.injEq, and_true] at e1
    obtain ⟨rfl, rfl, rfl⟩ := e1
    simp only [if_true] at hm
    subst hm
    obtain ⟨f, hfV⟩ : ∃ f : Nat → Nat, ∀ i, i < m → V i = .float .f64 (f i) ∧ f i < 18446744073709551616 := by
      refine ⟨fun i => vfcell (V i), fun i hi => ?_⟩
      obtain ⟨x, hx1, _, hx3⟩ := vend_cell (hx i hi).2
      show V i = .float .f64 (vfcell (V i)) ∧ vfcell (V i) < 18446744073709551616
      rw [hx1]
      exact ⟨rfl, vw64_of hx3⟩
    have hlen : ((List.range len0).map f).length = len0 := by simp
    have hget : ∀ j, j < len0 → ((List.range len0).map f).getD j 0 = f j := fun j hj => by simp [List.getD_eq_getElem?_getD, hj]
    refine ⟨(List.range len0).map f, some a, m, by rw [hlen], ?_, ?_, by rw [hlen]; exact hl, ?_⟩
    · rcases Nat.eq_zero_or_pos len0 with h0 | h0
      · exact Or.inl (hlen.trans h0)
      · have ha : a = ⟨a.block, a.off, none⟩ := by
          have h := vspot (hx 0 (by omega)).1
          simpa [Addr.add] using h
        refine Or.inr ⟨a.block, a.off, congrArg some ha, fun j hj => ?_⟩
        rw [hlen] at hj
        have hadd : a.add j = ⟨a.block, a.off + j, none⟩ := by
          unfold Addr.add
          split
          · subst j; exact ha
          · rfl
        have hcj := (hx j (by omega)).1
        rw [hadd] at hcj
        rw [hcj, (hfV j (by omega)).1, hget j hj]
    · intro x hx
      obtain ⟨y, hy, rfl⟩ := List.mem_map.1 hx
      exact (hfV y (by have := List.mem_range.1 hy; omega)).2
    · intro hh
      have hb : Try.prog.bytesOf 29 = 8 := by kernel_rfl
      simp only [Prod.mk.injEq] at e2
      obtain ⟨rfl, _⟩ := e2
      simp only [DataW.weights, Try.underlying22, hb, List.all_cons, Bool.and_eq_true, List.length_map, List.length_range, reachBytes] at hh
      have h8 := of_decide_eq_true hh.1
      omega
end Go.Proofs.Ytclldmdhpojciaa
