/- A list of floats as an argument: opened into a row of cells (as Bq of wip/sums, for a plain seat). -/
import Derived.Test.YtbfefoidpgbjaaaGreatDoorU2
import Derived.Test.YtbfefoidpgbjaaaGreatDoorZb
import Derived.WalkKit
import Derived.ProofKit
import Derived.OpenShut
import Derived.SizedLaws
import Derived.ChangeSlices
import Derived.Deep.Slices
import Derived.Lib.SmallJoins
import Derived.WideShapes
namespace Go.Proofs.YtbfefoidpgbjaaaGreatDoor
open Go.ChangeShapes Go.WideShapes Go.ChangeAt Go.RowKit Go.Joins
set_option maxRecDepth 100000 in
theorem vend_cell {H : Type} {enc : TypeId × Value → H} {w : World} {base : Nat} {spare : Nat → Bool} {held : Bool} {fuel : Nat} {v : Value} {y : DataW H × List MemPlace} (h : DataW.trod enc Tryz.prog w base spare held fuel 43 [v] = some y) :
  ∃ n, v = .float .f64 n ∧ y = (.lit (.float .f64 n), []) ∧ (Lit.float .f64 n).wf = true := by
 have hu := Tryz.underlying43
 generalize Tryz.prog = P at h hu
 generalize 43 = t at h hu
 cases fuel with
 | zero => simp [DataW.trod] at h
 | succ m =>
  unfold DataW.trod at h
  rw [hu] at h
  split at h <;> simp_all
theorem vspot {w : World} {a : Addr} {v : Value} (h : w.cell? a = some v) : a = ⟨a.block, a.off, none⟩ := by
 obtain ⟨b, o, s⟩ := a
 cases s with
 | none => rfl
 | some k =>
  unfold World.cell? at h
  split at h
  ·simp at h
  ·cases h
theorem vw64_of {n : Nat} (h : (Lit.float .f64 n).wf = true) : n < 18446744073709551616 := by
 simpa [Lit.wf] using h
def vfcell : Value → Nat
 | .float .f64 n => n
 | _ => 0
end Go.Proofs.YtbfefoidpgbjaaaGreatDoor
