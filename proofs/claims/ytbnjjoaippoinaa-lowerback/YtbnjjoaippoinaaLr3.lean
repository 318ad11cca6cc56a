/- For every input the call returns true and leaves its arguments as they were: LowerBack. No condition. -/
import Derived.Test.YtbnjjoaippoinaaLb2
import Derived.Test.YtbnjjoaippoinaaLw16
import Derived.Carry
namespace Go.Proofs.Ytbnjjoaippoinaa
open Go.ChangeShapes Go.WideShapes Go.ChangeAt Go.RowKit Go.Joins

theorem lowerBack_own : ownKnob Try.prog.godebug = none := by kernel_rfl
set_option maxRecDepth 100000 in
theorem lowerBack_lifted (os : Os) (started : os.Started) (H : Type) (enc : TypeId × Value → H) :
    ReturnsInHanded {} Try.checked os 7 .any (Rows.lowerBackSpec.pre6 enc Try.prog Try.f7 Rows.lowerBackRow.domain false) (Rows.lowerBackSpec.post enc Try.prog Try.f7 false true false false) := by
  refine returnsInHanded_of_change_sized (C := Try.checked) lowerBack_own started (by kernel_rfl) Try.func7
    (ChangeSpec.witness6 (enc := enc) (C := Try.checked) false ⟨#[], #[.slice none 0 0, .slice none 0 0], []⟩ 8 (by kernel_rfl) (by kernel_rfl) (by kernel_rfl) (by kernel_rfl)) ?_
  intro W base args ds gs before hval0 hW hcnd hx2 _
  have hval : ∀ (j : Nat) t v, Try.f7.params[j]? = some t → args[j]? = some v → Value.okWide Try.prog W .any base t v := hval0
  have hW' := hW
  obtain ⟨p, q, hA0, hV, rfl, hfz, hnd⟩ := hW
  have hA : DataW.TrodAll enc Try.prog W 0 (fun _ => true) true Try.f7.params.toList args.toList ds p := hA0
  rw [Try.params7] at hA hval
  have hlt := DataW.TrodAll.lt hA
  obtain ⟨v0, vs0, d0, ds0, p0, q0, hargs, rfl, rfl, h0, k0⟩ := trodAll_cons hA
  obtain ⟨v1, vs1, d1, ds1, p1, q1, rfl, rfl, rfl, h1, k1⟩ := trodAll_cons k0
  obtain ⟨rfl, rfl, rfl⟩ := trodAll_nil k1
  have ha : args = #[v0, v1] := by cases args; simp_all
  subst ha
  clear hargs
  obtain ⟨rfl, rfl⟩ := trodVars_none hV
  obtain ⟨x0, x0o, x0c, rfl, rx0, fx0, lx0, nx0⟩ := open_ints (hval 0 45 v0 rfl rfl) h0
  obtain ⟨x1, x1o, x1c, rfl, rx1, fx1, lx1, nx1⟩ := open_ints (hval 1 45 v1 rfl rfl) h1
  clear hA0 hval0
  simp only [List.append_nil] at hW'
  have e1 : Rows.lowerBackSpec.fn H ([d0, d1] ++ []) = { results := [.lit (.bool true)], args := [d0, d1] } := rfl
  have mx0 := nx0 (List.all_eq_true.2 fun n hn => List.all_eq_true.1 hx2 n (DataW.weights_mem_each (j := 0) (t := 45) (by kernel_rfl) rfl n hn))
  have mx1 := nx1 (List.all_eq_true.2 fun n hn => List.all_eq_true.1 hx2 n (DataW.weights_mem_each (j := 1) (t := 45) (by kernel_rfl) rfl n hn))
  refine (back_law x0 x0o x0c x1 x1o x1c W rx0 fx0 (by omega) (by omega) rx1 fx1 (by omega) (by omega)).mono fun e W' ⟨he, hw⟩ => ?_
  subst he
  have hcN : ∀ {v d p}, DataW.Trod enc Try.prog W 0 (fun _ => true) true 45 v d p → (∀ x ∈ p, x.block < W.heap.size) → DataW.Trod enc Try.prog W' 0 (fun b => decide (b < W.heap.size)) true 45 v d p := fun h hl => Below.trod (show laidOutB Try.prog = true by kernel_rfl) (by kernel_rfl) (of_decide_eq_true (by kernel_rfl)) h hw hl
  refine ⟨_, rfl, _, _, _, [], (p0 ++ p1), [], hW', ?_, ?_, ?_, hw.frame _, fun h => by cases h⟩
  · rw [e1]; exact trodAll_mk1 (shut_bool Try.underlying4 true)
  · rw [e1]; exact (trodAll_cons_mk (hcN h0 fun x hx => hlt x (by simp [hx])) (trodAll_mk1 (hcN h1 fun x hx => hlt x (by simp [hx]))))
  · rw [e1]; rfl
theorem lowerBack_holds : Rows.LowerBackSaid :=
  OpenClaim.holds_of_wide 7 Try.f7 rfl rfl rfl rfl rfl rfl rfl ⟨rfl, rfl, rfl, rfl, rfl⟩ rfl rfl rfl rfl rfl (by kernel_rfl) Try.func7 (by kernel_rfl)
    (of_decide_eq_true (by kernel_rfl)) (by unfold Func.isWrapper; rw [if_neg (of_decide_eq_false (by kernel_rfl))]; exact ⟨rfl, rfl⟩)
    (fun os started H enc _ => lowerBack_lifted os started H enc)
#print axioms lowerBack_holds
end Go.Proofs.Ytbnjjoaippoinaa
