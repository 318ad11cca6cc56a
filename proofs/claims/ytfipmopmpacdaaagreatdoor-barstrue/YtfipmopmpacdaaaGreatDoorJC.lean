/- What the kit's KeptJoints answers of joints that were lent and stayed. -/
import Derived.Test.YtfipmopmpacdaaaGreatDoorWA
import Derived.Laws.OwnMore
import Derived.Deep.AppendLies
import Derived.OwnWalk
import Derived.Test.YtfipmopmpacdaaaGreatDoorJA
import Derived.Laws.IdiomStrings
namespace Go.Proofs.YtfipmopmpacdaaaGreatDoor
open Go.RowKit
theorem info_span {P : Program} {t : TypeId} {z : Option Value} {s b : Nat} (h : (P.info? t).map (fun i => (i.zero, i.size, i.bytes)) = some (z, s, b)) : ∃ i, P.info? t = some i ∧ i.zero = z ∧ i.size = s ∧ i.bytes = b := by
 cases e : P.info? t with
 | none => rw [e] at h; cases h
 | some i =>
  rw [e] at h
  simp only [Option.map_some, Option.some.injEq, Prod.mk.injEq] at h
  exact ⟨i, rfl, h.1, h.2.1, h.2.2⟩
theorem Tryz.infoJ : (Tryz.prog.info? 40).map (fun i => (i.zero, i.size, i.bytes)) = some (some (.agg #[.string ByteArray.empty, .int .i32 0, .int .i32 0, .int .u8 0]), 4, 32) := by kernel_rfl
def jnc : List Jn → List Value
 | [] => []
 | p :: ps => .string p.1 :: .int .i32 p.2.1 :: .int .i32 p.2.2.1 :: .int .u8 p.2.2.2 :: jnc ps
theorem jnc_app : ∀ ps qs : List Jn, jnc (ps ++ qs) = jnc ps ++ jnc qs
 | [], _ => rfl
 | p :: ps, qs => by simp only [List.cons_append, jnc, jnc_app ps qs]
theorem jnc_at : ∀ (ps : List Jn) (j : Nat), j < ps.length → (jnc ps)[j * 4]? = some (.string (ps.getD j jz).1) ∧ (jnc ps)[j * 4 + 1]? = some (.int .i32 (ps.getD j jz).2.1) ∧ (jnc ps)[j * 4 + 2]? = some (.int .i32 (ps.getD j jz).2.2.1) ∧ (jnc ps)[j * 4 + 3]? = some (.int .u8 (ps.getD j jz).2.2.2)
 | [], _, h => by simp at h
 | p :: ps, 0, _ => by simp [jnc]
 | p :: ps, j + 1, h => by
  have := jnc_at ps j (by simpa using h)
  rw [show (j + 1) * 4 = j * 4 + 1 + 1 + 1 + 1 by omega]
  simpa [jnc] using this
theorem jrown_below {w w' : World} {b : Nat} {e : TypeId} {s : Nat} {v : Value} {n : Nat} {xs : List Value} (h : w.ownsRow b e s v n xs) (hb : Below w.heap.size w w') : w'.ownsRow b e s v n xs := by
 refine ⟨h.1, ?_⟩
 rcases h.2 with hn | ⟨g, cap, cur, h1, h2, h3, h4⟩
 ·exact Or.inl hn
 ·have hl : g < w.heap.size := by
   rcases Nat.lt_or_ge g w.heap.size with q | q
   ·exact q
   ·rw [Array.getElem?_eq_none q] at h3; cases h3
  exact Or.inr ⟨g, cap, cur, h1, h2, by rw [hb.block g hl]; exact h3, h4⟩
end Go.Proofs.YtfipmopmpacdaaaGreatDoor
