/- Plans moved, members turned about: what Springs tells of them, plain. -/
import Derived.Test.YtfipmopmpacdaaaGreatDoorBG
import Derived.Test.YtfipmopmpacdaaaGreatDoorTA
namespace Go.Proofs.YtfipmopmpacdaaaGreatDoor
open Go.RowKit
def SkG (B : Int) (js : List Jn) : Prop := ∀ k, k < js.length → ∃ (x y : Int) (f : Nat), js.getD k jz = (sN 106 k, x, y, f) ∧ (-B ≤ x ∧ x ≤ B) ∧ (-B ≤ y ∧ y ≤ B) ∧ f < 8 ∧ ∀ q, q < k → ¬ ((js.getD q jz).2.1 = x ∧ (js.getD q jz).2.2.1 = y)
theorem SkJ.gen {js : List Jn} (h : SkJ js) (hn : js.length ≤ 4) : SkG 29 js := fun k hk => by
 obtain ⟨x, y, f, e, hx, hy, hf, hd⟩ := h k hk
 exact ⟨x, y, f, e, by omega, by omega, hf, hd⟩
theorem SkG.cr {B : Int} {js : List Jn} (h : SkG B js) (hB : B ≤ 1048576) {a b : Nat} (ha : a < js.length) (hb : b < js.length) : aptB (js.getD a jz) (js.getD b jz) = true := by
 obtain ⟨x, y, f, e, h1, h2, _, _⟩ := h a ha
 obtain ⟨x', y', f', e', h1', h2', _, _⟩ := h b hb
 rw [e, e']
 unfold aptB
 simp [crB]
 omega
theorem SkG.jw {B : Int} {js : List Jn} (h : SkG B js) (hB : B ≤ 1048576) : JWs js := fun j hj => by
 obtain ⟨k, hk, rfl⟩ := List.getElem_of_mem hj
 obtain ⟨x, y, f, e, h1, h2, h3, _⟩ := h k hk
 rw [jgetD_at hk] at e
 rw [e]
 exact ⟨by show (2 : Nat) ≤ maxLen; unfold maxLen; omega, by show _ ≤ x; omega, by show x ≤ _; omega, by show _ ≤ y; omega, by show y ≤ _; omega, by show f < 256; omega⟩
theorem SkM.mw {n : Nat} {ms : List Mb} (h : SkM n ms) : MWs ms := fun j hj => by
 obtain ⟨k, hk, rfl⟩ := List.getElem_of_mem hj
 obtain ⟨m, e, _, _, _, _, _, _, _, hw⟩ := h k hk
 rw [mgetD_at hk] at e
 rw [e]
 exact hw
theorem sgetD_mem {l : List Sg} {k : Nat} (hk : k < l.length) : l.getD k sgz ∈ l := by
 have e : l.getD k sgz = l[k] := by simp [List.getD, hk]
 rw [e]
 exact List.getElem_mem hk
end Go.Proofs.YtfipmopmpacdaaaGreatDoor
