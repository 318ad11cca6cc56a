/- For every input the call returns true and leaves its arguments as they were: NarrowBack. No condition. -/
import Derived.Test.YtlmllpkcmfnpnaaXi
import Derived.WalkKit
import Derived.ProofKit
import Derived.OpenShut
namespace Go.Proofs.Ytlmllpkcmfnpnaa
open Go.ChangeShapes Go.WideShapes Go.ChangeAt Go.RowKit

theorem narrowBack_own : ownKnob Try.prog.godebug = none := by kernel_rfl
theorem narrowBack_w32 {a : Nat} (h : (Lit.float .f32 a).wf = true) : a < 4294967296 := by
  simpa [Lit.wf] using h
set_option maxRecDepth 100000 in
theorem narrowBack_lifted (os : Os) (started : os.Started) (H : Type) (enc : TypeId × Value → H) :
    ReturnsInHanded {} Try.checked os 7 .any (Rows.narrowBackSpec.pre6 enc Try.prog Try.f7 Rows.narrowBackRow.domain false) (Rows.narrowBackSpec.post enc Try.prog Try.f7 false true false false) := by
  refine returnsInHanded_of_change (C := Try.checked) narrowBack_own started (by kernel_rfl) Try.func7
    (ChangeSpec.witness6 (enc := enc) (C := Try.checked) false ⟨#[], #[.float .f32 0, .int .i8 0], []⟩ 8 (by kernel_rfl) (by kernel_rfl) (by kernel_rfl) (by kernel_rfl)) ?_
  intro W base args ds gs before hval0 hW hcnd _
  have hval : ∀ (j : Nat) t v, Try.f7.params[j]? = some t → args[j]? = some v → Value.okWide Try.prog W .any base t v := hval0
  have hW' := hW
  obtain ⟨p, q, hA0, hV, rfl, hfz, hnd⟩ := hW
  have hA : DataW.TrodAll enc Try.prog W 0 (fun _ => true) true Try.f7.params.toList args.toList ds p := hA0
  rw [Try.params7] at hA hval
  obtain ⟨v0, v1, d0, d1, p0, p1, rfl, rfl, rfl, h0, h1⟩ := trodAll_two hA
  obtain ⟨rfl, rfl⟩ := trodVars_none hV
  obtain ⟨a, rfl, rfl, rfl, wa⟩ := open_float Try.underlying22 (hval 0 22 v0 rfl rfl) h0
  obtain ⟨b, rfl, rfl, rfl, wb⟩ := open_int Try.underlying29 (hval 1 29 v1 rfl rfl) h1
  clear hA0 hval0
  simp only [List.append_nil] at hW'
  have e1 : Rows.narrowBackSpec.fn H ([.lit (.float .f32 a), .lit (.int .i8 b)] ++ []) = { results := [.lit (.bool true)], args := [.lit (.float .f32 a), .lit (.int .i8 b)] } := rfl
  refine (law_back a b (narrowBack_w32 wa) W).mono fun e W' ⟨he, hw⟩ => ?_
  subst he
  refine ⟨_, rfl, _, _, _, [], [], [], hW', ?_, ?_, ?_, hw.frame _, fun h => by cases h⟩
  · rw [e1]; exact trodAll_mk1 (shut_bool Try.underlying4 true)
  · rw [e1]; exact trodAll_mk2 (shut_float Try.underlying22 wa) (shut_int Try.underlying29 wb)
  · rw [e1]; rfl
theorem narrowBack_holds : Rows.NarrowBackSaid :=
  OpenClaim.holds_of_wide 7 Try.f7 rfl rfl rfl rfl rfl rfl rfl ⟨rfl, rfl, rfl, rfl, rfl⟩ rfl rfl rfl rfl rfl (by kernel_rfl) Try.func7 (by kernel_rfl)
    (of_decide_eq_true (by kernel_rfl)) (by unfold Func.isWrapper; rw [if_neg (of_decide_eq_false (by kernel_rfl))]; exact ⟨rfl, rfl⟩)
    (fun os started H enc _ => narrowBack_lifted os started H enc)
#print axioms narrowBack_holds
end Go.Proofs.Ytlmllpkcmfnpnaa
