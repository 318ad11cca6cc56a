/- What the kit's LentPlan, SamePlan, KeptPlan answer of a plan that stayed. -/
import Derived.Test.YtfipmopmpacdaaaGreatDoorBA
import Derived.Test.YtfipmopmpacdaaaGreatDoorJC
import Derived.Test.YtfipmopmpacdaaaGreatDoorZg
import Derived.Deep.Heap
namespace Go.Proofs.YtfipmopmpacdaaaGreatDoor
open Go.RowKit
def mnc : List Mb → List Value
 | [] => []
 | p :: ps => .string p.nm :: .int .u8 p.kd :: .int .i64 p.a :: .int .i64 p.b :: .bool p.ha :: .bool p.hb :: .float .f64 p.e :: .float .f64 p.ar :: .float .f64 p.i :: mnc ps
theorem mnc_app : ∀ ps qs : List Mb, mnc (ps ++ qs) = mnc ps ++ mnc qs
 | [], _ => rfl
 | p :: ps, qs => by simp only [List.cons_append, mnc, mnc_app ps qs]
theorem mnc_at : ∀ (ps : List Mb) (j : Nat), j < ps.length → (mnc ps)[j * 9]? = some (.string (ps.getD j mz).nm) ∧ (mnc ps)[j * 9 + 1]? = some (.int .u8 (ps.getD j mz).kd) ∧ (mnc ps)[j * 9 + 2]? = some (.int .i64 (ps.getD j mz).a) ∧ (mnc ps)[j * 9 + 3]? = some (.int .i64 (ps.getD j mz).b) ∧ (mnc ps)[j * 9 + 4]? = some (.bool (ps.getD j mz).ha) ∧ (mnc ps)[j * 9 + 5]? = some (.bool (ps.getD j mz).hb) ∧ (mnc ps)[j * 9 + 6]? = some (.float .f64 (ps.getD j mz).e) ∧ (mnc ps)[j * 9 + 7]? = some (.float .f64 (ps.getD j mz).ar) ∧ (mnc ps)[j * 9 + 8]? = some (.float .f64 (ps.getD j mz).i)
 | [], _, h => by simp at h
 | p :: ps, 0, _ => by simp [mnc]
 | p :: ps, j + 1, h => by
  have := mnc_at ps j (by simpa using h)
  rw [show (j + 1) * 9 = j * 9 + 1 + 1 + 1 + 1 + 1 + 1 + 1 + 1 + 1 by omega]
  simpa [mnc] using this
theorem Tryz.infoM : (Tryz.prog.info? 38).map (fun i => (i.zero, i.size, i.bytes)) = some (some (.agg #[.string ByteArray.empty, .int .u8 0, .int .i64 0, .int .i64 0, .bool false, .bool false, .float .f64 0, .float .f64 0, .float .f64 0]), 9, 72) := by kernel_rfl
structure PBox (w : World) (b : Nat) (x y : Value) : Prop where
 c0 : w.cell? ⟨b, 0, none⟩ = some x
 c1 : w.cell? ⟨b, 1, none⟩ = some y
 f0 : w.frozen? ⟨b, 0, none⟩ = false
 f1 : w.frozen? ⟨b, 1, none⟩ = false
 lt : b < w.heap.size
theorem PBox.new (w : World) (x y : Value) (t : TypeId) : PBox (w.alloc (.cells #[x, y] t)) w.heap.size x y :=
 ⟨by go_simp, by go_simp, by go_simp, by go_simp, by simp⟩
theorem PBox.below {w w' : World} {b : Nat} {x y : Value} (h : PBox w b x y) (hb : Below w.heap.size w w') : PBox w' b x y :=
 ⟨(hb.cell (p := ⟨b, 0, none⟩) h.lt).trans h.c0, (hb.cell (p := ⟨b, 1, none⟩) h.lt).trans h.c1, (hb.frozen (p := ⟨b, 0, none⟩) h.lt).trans h.f0, (hb.frozen (p := ⟨b, 1, none⟩) h.lt).trans h.f1, Nat.lt_of_lt_of_le h.lt hb.size⟩
theorem PBox.alloc {w : World} {b : Nat} {x y : Value} (h : PBox w b x y) (o : Obj) : PBox (w.alloc o) b x y := h.below ((Below.refl _ _).alloc (Nat.le_refl _) o)
theorem PBox.set0 {w : World} {b : Nat} {x y : Value} (h : PBox w b x y) (p : Value) : PBox (w.setCell ⟨b, 0, none⟩ p) b p y := by
 obtain ⟨c0, c1, f0, f1, lt⟩ := h
 exact ⟨by go_simp, by go_simp, by go_simp, by go_simp, by simpa [World.setCell] using lt⟩
theorem PBox.set1 {w : World} {b : Nat} {x y : Value} (h : PBox w b x y) (p : Value) : PBox (w.setCell ⟨b, 1, none⟩ p) b x p := by
 obtain ⟨c0, c1, f0, f1, lt⟩ := h
 exact ⟨by go_simp, by go_simp, by go_simp, by go_simp, by simpa [World.setCell] using lt⟩
theorem PBox.far {w : World} {b g : Nat} {x y : Value} (h : PBox w b x y) (hn : b ≠ g) {i : Nat} (a : Value) : PBox (w.setCell ⟨g, i, none⟩ a) b x y := by
 obtain ⟨c0, c1, f0, f1, lt⟩ := h
 exact ⟨by simp [go_sem, c0], by simp [go_sem, c1], by simp [go_sem, f0], by simp [go_sem, f1], by simpa [World.setCell] using lt⟩
end Go.Proofs.YtfipmopmpacdaaaGreatDoor
