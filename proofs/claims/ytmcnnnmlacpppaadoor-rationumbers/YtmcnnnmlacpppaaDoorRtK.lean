/- Worlds that differ in one block alone. -/
import Derived.Test.YtmcnnnmlacpppaaDoorZp
namespace Go.Proofs.YtmcnnnmlacpppaaDoor
open Go.RowKit

/-- Nothing has turned but block g. -/
structure Keep (g : Nat) (w w' : World) : Prop where
  os : w'.os = w.os
  tape : w'.tape = w.tape
  output : w'.output = w.output
  size : w'.heap.size = w.heap.size
  block : ∀ k, k ≠ g → w'.heap[k]? = w.heap[k]?
/-- Nothing at all has turned. -/
structure Alike (w w' : World) : Prop where
  os : w'.os = w.os
  tape : w'.tape = w.tape
  output : w'.output = w.output
  heap : w'.heap = w.heap
theorem Alike.refl (w : World) : Alike w w := ⟨rfl, rfl, rfl, rfl⟩
theorem Alike.drew {w w' : World} (h : Alike w w') : Alike w w'.drew := ⟨h.os, h.tape, h.output, h.heap⟩
theorem Alike.drewN {w : World} : ∀ n, Alike w (w.drewN n) := fun _ => ⟨rfl, rfl, rfl, rfl⟩
theorem Alike.trans {a b c : World} (h : Alike a b) (k : Alike b c) : Alike a c := ⟨k.os.trans h.os, k.tape.trans h.tape, k.output.trans h.output, k.heap.trans h.heap⟩
theorem Alike.keep {w w' : World} (h : Alike w w') (g : Nat) : Keep g w w' := ⟨h.os, h.tape, h.output, by rw [h.heap], fun _ _ => by rw [h.heap]⟩
theorem Alike.below {w w' : World} (h : Alike w w') (B : Nat) : Below B w w' := ⟨h.os, h.tape, h.output, by rw [h.heap]; exact Nat.le_refl _, fun _ _ => by rw [h.heap]⟩
theorem Alike.frow {w w' : World} (h : Alike w w') {b n : Nat} {f : Nat → Nat} (hr : FRow w b n f) : FRow w' b n f := World.rowIs.of_block hr (by rw [h.heap])
theorem Alike.cell {w w' : World} (h : Alike w w') (p : Addr) : w'.cell? p = w.cell? p := World.cell?_of_block (w := w) (by rw [h.heap])
theorem Alike.frozen {w w' : World} (h : Alike w w') (p : Addr) : w'.frozen? p = w.frozen? p := World.frozen?_of_block (w := w) (by rw [h.heap])
theorem Alike.lrow {w w' : World} (h : Alike w w') {ao : Option Addr} {xs : List Nat} (hr : LRow w ao xs) : LRow w' ao xs := hr.below (h.below _)
theorem Keep.refl (g : Nat) (w : World) : Keep g w w := (Alike.refl w).keep g
theorem Keep.trans {g : Nat} {a b c : World} (h : Keep g a b) (k : Keep g b c) : Keep g a c :=
  ⟨k.os.trans h.os, k.tape.trans h.tape, k.output.trans h.output, k.size.trans h.size, fun i hi => (k.block i hi).trans (h.block i hi)⟩
theorem Keep.drew {g : Nat} {a w : World} (h : Keep g a w) : Keep g a w.drew := ⟨h.os, h.tape, h.output, h.size, h.block⟩
theorem Keep.setCell {g : Nat} {a w : World} (h : Keep g a w) (i : Nat) (u : Value) : Keep g a (w.setCell ⟨g, i, none⟩ u) :=
  h.trans ⟨rfl, rfl, rfl, by simp [World.setCell], fun k hk => Below.heap_setCell _ _ _ _ hk⟩
theorem Keep.below {g : Nat} {w w' : World} (h : Keep g w w') {B : Nat} (hB : B ≤ g) : Below B w w' := ⟨h.os, h.tape, h.output, by rw [h.size]; exact Nat.le_refl _, fun k hk => h.block k (by omega)⟩
theorem Keep.frow {g : Nat} {w w' : World} (h : Keep g w w') {b n : Nat} {f : Nat → Nat} (hr : FRow w b n f) (hb : b ≠ g) : FRow w' b n f := World.rowIs.of_block hr (h.block b hb)
theorem Keep.cell {g : Nat} {w w' : World} (h : Keep g w w') {p : Addr} (hp : p.block ≠ g) : w'.cell? p = w.cell? p := World.cell?_of_block (w := w) (h.block p.block hp)
theorem Keep.frozen {g : Nat} {w w' : World} (h : Keep g w w') {p : Addr} (hp : p.block ≠ g) : w'.frozen? p = w.frozen? p := World.frozen?_of_block (w := w) (h.block p.block hp)
/-- Limbs that lie not in block g. -/
def Apt (g : Nat) (ao : Option Addr) : Prop := ∀ b off, ao = some ⟨b, off, none⟩ → b ≠ g
theorem Keep.lrow {g : Nat} {w w' : World} (h : Keep g w w') {ao : Option Addr} {xs : List Nat} (hr : LRow w ao xs) (ha : Apt g ao) : LRow w' ao xs := by
  rcases hr with h0 | ⟨b, off, rfl, hc⟩
  · exact Or.inl h0
  · exact Or.inr ⟨b, off, rfl, fun j hj => (h.cell (p := ⟨b, off + j, none⟩) (ha b off rfl)).trans (hc j hj)⟩
theorem LRow.apt {w : World} {ao : Option Addr} {xs : List Nat} (hr : LRow w ao xs) (h0 : xs.length ≠ 0) {g : Nat} (hg : w.heap.size ≤ g) : Apt g ao := fun b off e k => by
  rcases hr with h | ⟨b', off', e', hc⟩
  · exact h0 h
  · rw [e] at e'
    cases e'
    have := World.block_lt_of_cell? w _ (hc 0 (by omega))
    have : b < w.heap.size := this
    omega
end Go.Proofs.YtmcnnnmlacpppaaDoor
