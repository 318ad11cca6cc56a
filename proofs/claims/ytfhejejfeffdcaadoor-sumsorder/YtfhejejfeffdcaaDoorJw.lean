/- What dyads of layer 3's laws answers: three finite floats' dyads. -/
import Derived.Test.YtfhejejfeffdcaaDoorJv
namespace Go.Proofs.YtfhejejfeffdcaaDoor
open Go.RowKit

theorem bth3 {w W W' : World} (h : Below w.heap.size w W) (b : Below W.heap.size W W') : Below w.heap.size w W' := h.trans (b.mono h.size)
theorem bal (w : World) (o : Obj) : Below w.heap.size w (w.alloc o) := (Below.refl _ _).alloc (Nat.le_refl _) _
/-- Nine cells of three new boxes turned. -/
abbrev nineW (W : World) (n : Nat) (a b c d e f g h i : Value) : World := (((((((((W.setCell ⟨n, 0, none⟩ a).setCell ⟨n, 1, none⟩ b).setCell ⟨n, 2, none⟩ c).setCell ⟨n + 1, 0, none⟩ d).setCell ⟨n + 1, 1, none⟩ e).setCell ⟨n + 1, 2, none⟩ f).setCell ⟨n + 1 + 1, 0, none⟩ g).setCell ⟨n + 1 + 1, 1, none⟩ h).setCell ⟨n + 1 + 1, 2, none⟩ i).drew
theorem nine {W : World} {n : Nat} {o : Option Addr} {m : List Nat} (h : LRow W o m) (hf : Frs (n + 3) o) (a b c d e f g h' i : Value) : LRow (nineW W n a b c d e f g h' i) o m :=
  (((((((((h.box hf (by omega) _ _).box hf (by omega) _ _).box hf (by omega) _ _).box hf (by omega) _ _).box hf (by omega) _ _).box hf (by omega) _ _).box hf (by omega) _ _).box hf (by omega) _ _).box hf (by omega) _ _).drew
theorem nineB {w W : World} (hB : Below w.heap.size w W) (a b c d e f g h i : Value) : Below w.heap.size w (nineW W w.heap.size a b c d e f g h i) := by
  have k0 : w.heap.size ≤ w.heap.size := Nat.le_refl _
  have k1 : w.heap.size ≤ w.heap.size + 1 := by omega
  have k2 : w.heap.size ≤ w.heap.size + 1 + 1 := by omega
  exact (((((((((hB.setCell k0 _).setCell k0 _).setCell k0 _).setCell k1 _).setCell k1 _).setCell k1 _).setCell k2 _).setCell k2 _).setCell k2 _).drew
/-- Three new boxes of nothing. -/
theorem zero_three (w : World) : let o := Obj.cells #[.bool false, .slice none 0 0, .int .i64 0] 32
    let w0 := ((w.alloc o).alloc o).alloc o
    (Hd w0 w.heap.size dy0 none 0 ∧ Fzr w0 w.heap.size) ∧ (Hd w0 (w.heap.size + 1) dy0 none 0 ∧ Fzr w0 (w.heap.size + 1)) ∧ (Hd w0 (w.heap.size + 1 + 1) dy0 none 0 ∧ Fzr w0 (w.heap.size + 1 + 1)) := by
  refine ⟨⟨⟨?_, ?_, ?_, Or.inl rfl⟩, ?_, ?_, ?_⟩, ⟨⟨?_, ?_, ?_, Or.inl rfl⟩, ?_, ?_, ?_⟩, ⟨⟨?_, ?_, ?_, Or.inl rfl⟩, ?_, ?_, ?_⟩⟩
  all_goals first
    | (show _ = some (Value.bool false); go_simp)
    | (show _ = some (Value.slice none 0 0); go_simp)
    | (show _ = some (Value.int .i64 0); go_simp)
    | go_simp
end Go.Proofs.YtfhejejfeffdcaaDoor
