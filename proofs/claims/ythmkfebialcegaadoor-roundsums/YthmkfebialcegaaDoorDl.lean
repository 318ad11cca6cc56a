/- What turned, top, sign, CopyLimbs, CopyDyad, SameLimbs, SameDyad answer. -/
import Derived.Test.YthmkfebialcegaaDoorDj
import Derived.OwnWalk
import Derived.Laws.AppendOwnNone
namespace Go.Proofs.YthmkfebialcegaaDoor
open Go.RowKit

/-- A dyad with its sign turned. -/
def trn (d : Dy) : Dy := ⟨!d.neg && decide (0 < d.mag.length), d.mag, d.exp⟩

def sgD (d : Dy) : Int := if d.mag.length = 0 then 0 else if d.neg then -1 else 1
set_option maxHeartbeats 400000 in
theorem sign_any (d : Dy) (ao : Option Addr) (cap : Nat) (w : World) :
    Calls Tryd.prog 49 #[.agg #[.bool d.neg, .slice ao d.mag.length cap, .int .i64 d.exp]] w fun e w' => e = .returned (.int .i64 (sgD d)) ∧ Below w.heap.size w w' := by
  obtain ⟨neg, xs, ex⟩ := d
  have hend : ∀ o1, Below w.heap.size w (w.alloc o1) := fun o1 => (Below.refl _ _).alloc (Nat.le_refl _) o1
  simp only at *
  by_cases h0 : xs.length = 0
  · have HE : Hid (sgD ⟨neg, xs, ex⟩ = 0) := (show _ = _ by unfold sgD; rw [if_pos (by exact h0)])
    have h1 : ((xs.length : Int) == 0) = true := beq_iff_eq.2 (by omega)
    clear h0
    go_enter Tryd.func49, Tryd.ntmps49
    go_wp2
    go_ret
    exact ⟨retI HE.out.symm, hend _⟩
  · have h1 : ((xs.length : Int) == 0) = false := beq_eq_false_iff_ne.2 (by omega)
    have HE : Hid (sgD ⟨neg, xs, ex⟩ = if neg then -1 else 1) := (show _ = _ by unfold sgD; rw [if_neg (by exact h0)])
    clear h0
    cases neg
    all_goals
      go_enter Tryd.func49, Tryd.ntmps49
      go_wp2
      go_ret
      exact ⟨retI HE.out.symm, hend _⟩

set_option maxHeartbeats 400000 in
theorem top_any (d : Dy) (ao : Option Addr) (cap : Nat) (w : World) (hr : LRow w ao d.mag) (hL : Lm d.mag) (hn : d.mag.length ≤ 1125899906842624) (h1 : -1000000 ≤ d.exp) (h2 : d.exp ≤ 1000000) :
    Calls Tryd.prog 53 #[.agg #[.bool d.neg, .slice ao d.mag.length cap, .int .i64 d.exp]] w fun e w' => e = .returned (.int .i64 ((bl (vl d.mag) : Int) + d.exp)) ∧ Below w.heap.size w w' := by
  obtain ⟨neg, xs, ex⟩ := d
  have hend : ∀ o1 n, Below w.heap.size w ((w.alloc o1).drewN n) := fun o1 n => by
    have h := (Below.refl w.heap.size w).alloc (Nat.le_refl _) o1
    exact ⟨h.os, h.tape, h.output, h.size, h.block⟩
  have hb : bl (vl xs) ≤ 64 * 1125899906842624 := bl_limbs hL hn
  have hwr : IntKind.i64.wrap ((bl (vl xs) : Int) + ex) = (bl (vl xs) : Int) + ex := by rw [IntKind.wrap_i64]; simp only at h1 h2; omega
  simp only at *
  go_enter Tryd.func53, Tryd.ntmps53
  go_wp2
  go_quiet ((go_at_call 59; exact Calls.quiet_of_same (bitLen_any _ _ _ _ (hr.alloc _) hL hn)))
  go_wp2
  go_ret
  exact ⟨rfl, hend _ _⟩

def uv (xs : List Nat) : List Value := xs.map fun x => .int .u64 (x : Nat)
theorem uv_length (xs : List Nat) : (uv xs).length = xs.length := by simp [uv]
theorem uv_get {xs : List Nat} {j : Nat} {u : Value} (h : (uv xs)[j]? = some u) : j < xs.length ∧ u = .int .u64 (xs.getD j 0 : Nat) := by
  unfold uv at h
  rw [List.getElem?_map] at h
  by_cases hj : j < xs.length
  · rw [List.getElem?_eq_getElem hj] at h
    simp at h
    exact ⟨hj, by rw [List.getD_eq_getElem?_getD, List.getElem?_eq_getElem hj]; exact h.symm⟩
  · rw [List.getElem?_eq_none (by omega)] at h; simp at h
theorem uv_at {xs : List Nat} {j : Nat} (hj : j < xs.length) : (uv xs)[j]? = some (.int .u64 (xs.getD j 0 : Nat)) := by
  unfold uv
  rw [List.getElem?_map, List.getElem?_eq_getElem hj, List.getD_eq_getElem?_getD, List.getElem?_eq_getElem hj]; rfl
theorem uv_one {xs : List Nat} : ∀ u ∈ uv xs, u.oneCell' = true := by
  intro u hu
  simp only [uv, List.mem_map] at hu
  obtain ⟨x, _, rfl⟩ := hu
  rfl
/-- What is owned, as limbs in memory. -/
theorem owned_lrow {w : World} {base : Nat} {t : TypeId} {v : Value} {xs : List Nat} (h : w.ownsRow base t 1 v xs.length (uv xs)) : ∃ ao cap, v = .slice ao xs.length cap ∧ LRow w ao xs ∧ (ao = none → cap = 0) ∧ Frs base ao := by
  obtain ⟨h1, h2⟩ := h
  rcases h2 with ⟨rfl, hn⟩ | ⟨g, cap, cur, rfl, hg, hh, hc⟩
  · exact ⟨none, 0, by rw [hn], Or.inl hn, fun _ => rfl, Frs.none _⟩
  · refine ⟨some ⟨g, 0, none⟩, cap, rfl, Or.inr ⟨g, 0, rfl, fun j hj => ?_⟩, fun h => (by cases h), fun a e => by cases e; exact hg⟩
    have own : w.ownsRow base t 1 (.slice (some ⟨g, 0, none⟩) xs.length cap) xs.length (uv xs) := ⟨h1, Or.inr ⟨g, cap, cur, rfl, hg, hh, hc⟩⟩
    rw [Nat.zero_add, own.cellAt j (by omega), uv_at hj]

/-- Limbs handed back in memory of their own. -/
def GaveL (w : World) (xs : List Nat) (e : Ending) (w' : World) : Prop := ∃ ao' cap', e = .returned (.slice ao' xs.length cap') ∧ LRow w' ao' xs ∧ (ao' = none → cap' = 0 ∧ xs.length = 0) ∧ Frs w.heap.size ao' ∧ Below w.heap.size w w'

/-- Limbs stay where they are if boxes beside them are written. -/
theorem LRow.setCell {w : World} {ao : Option Addr} {xs : List Nat} (h : LRow w ao xs) {p : Addr} (v : Value) (hne : ∀ b off, ao = some ⟨b, off, none⟩ → xs.length ≠ 0 → b ≠ p.block) : LRow (w.setCell p v) ao xs := by
  by_cases hx : xs.length = 0
  · exact Or.inl hx
  · rcases h with h | ⟨b, off, rfl, hc⟩
    · exact Or.inl h
    · refine Or.inr ⟨b, off, rfl, fun j hj => ?_⟩
      have := hne b off rfl hx
      have e : (w.setCell p v).cell? ⟨b, off + j, none⟩ = w.cell? ⟨b, off + j, none⟩ := World.cell?_of_block (w := w) (Below.heap_setCell w p v b this)
      rw [e]; exact hc j hj

theorem LRow.box {w : World} {ao : Option Addr} {xs : List Nat} {B c : Nat} (h : LRow w ao xs) (hf : Frs B ao) (hc : c < B) (o : Nat) (v : Value) : LRow (w.setCell ⟨c, o, none⟩ v) ao xs :=
  h.setCell v fun b off e _ => by have h1 := hf _ e; have h2 : B ≤ b := h1; show b ≠ c; omega

theorem sameL_eq {xs ys : List Nat} (h : xs.length = ys.length) (hk : ∀ j, j < xs.length → xs.getD j 0 = ys.getD j 0) : xs = ys := by
  apply List.ext_getElem h
  intro i h1 h2
  have := hk i h1
  rw [List.getD_eq_getElem?_getD, List.getD_eq_getElem?_getD, List.getElem?_eq_getElem h1, List.getElem?_eq_getElem h2] at this
  exact this

end Go.Proofs.YthmkfebialcegaaDoor
