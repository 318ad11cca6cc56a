/- For every input the call returns true and leaves its arguments as they were: VectorSums. No condition. -/
import Derived.Test.YtojdlheblnjoiaaAn
import Derived.Test.YtojdlheblnjoiaaAl
import Derived.Carry
namespace Go.Proofs.Ytojdlheblnjoiaa
open Go.ChangeShapes Go.WideShapes Go.ChangeAt Go.RowKit Go.Joins

theorem vectorSums_own : ownKnob Try.prog.godebug = none := by kernel_rfl
theorem vectorSums_w64 {a : Nat} (h : (Lit.float .f64 a).wf = true) : a < 18446744073709551616 := by
  simpa [Lit.wf] using h
set_option maxRecDepth 100000 in
theorem vectorSums_lifted (os : Os) (started : os.Started) (H : Type) (enc : TypeId × Value → H) :
    ReturnsInHanded {} Try.checked os 3 .any (Rows.vectorSumsSpec.pre6 enc Try.prog Try.f3 Rows.vectorSumsRow.domain false) (Rows.vectorSumsSpec.post enc Try.prog Try.f3 false true false false) := by
  refine returnsInHanded_of_change_sized (C := Try.checked) vectorSums_own started (by kernel_rfl) Try.func3
    (ChangeSpec.witness6 (enc := enc) (C := Try.checked) false ⟨#[], #[.float .f64 0, .slice none 0 0, .slice none 0 0], []⟩ 8 (by kernel_rfl) (by kernel_rfl) (by kernel_rfl) (by kernel_rfl)) ?_
  intro W base args ds gs before hval0 hW hcnd hx2 _
  have hval : ∀ (j : Nat) t v, Try.f3.params[j]? = some t → args[j]? = some v → Value.okWide Try.prog W .any base t v := hval0
  have hW' := hW
  obtain ⟨p, q, hA0, hV, rfl, hfz, hnd⟩ := hW
  have hA : DataW.TrodAll enc Try.prog W 0 (fun _ => true) true Try.f3.params.toList args.toList ds p := hA0
  rw [Try.params3] at hA hval
  have hlt := DataW.TrodAll.lt hA
  obtain ⟨v0, v1, v2, d0, d1, d2, p0, p1, p2, rfl, rfl, rfl, h0, h1, h2⟩ := trodAll_three hA
  obtain ⟨rfl, rfl⟩ := trodVars_none hV
  obtain ⟨a, rfl, rfl, rfl, wa⟩ := open_float Try.underlying22 (hval 0 22 v0 rfl rfl) h0
  obtain ⟨b, bo, bc, rfl, rb, fb, lb, nb⟩ := vopen_floats (hval 1 23 v1 rfl rfl) h1
  obtain ⟨c, co, cc, rfl, rc, fc, lc, nc⟩ := vopen_floats (hval 2 23 v2 rfl rfl) h2
  clear hA0 hval0
  simp only [List.append_nil] at hW'
  have e1 : Rows.vectorSumsSpec.fn H ([.lit (.float .f64 a), d1, d2] ++ []) = { results := [.lit (.bool true)], args := [.lit (.float .f64 a), d1, d2] } := rfl
  have mb := nb (List.all_eq_true.2 fun n hn => List.all_eq_true.1 hx2 n (DataW.weights_mem_each (j := 1) (t := 23) (by kernel_rfl) rfl n hn))
  have mc := nc (List.all_eq_true.2 fun n hn => List.all_eq_true.1 hx2 n (DataW.weights_mem_each (j := 2) (t := 23) (by kernel_rfl) rfl n hn))
  refine (sums_row a b bo bc c co cc W (vectorSums_w64 wa) rb fb (by omega) (by omega) rc fc (by omega) (by omega)).mono fun e W' ⟨he, hw⟩ => ?_
  subst he
  have hc : ∀ {v d p}, DataW.Trod enc Try.prog W 0 (fun _ => true) true 23 v d p → (∀ x ∈ p, x.block < W.heap.size) → DataW.Trod enc Try.prog W' 0 (fun b => decide (b < W.heap.size)) true 23 v d p := fun h hl => Below.trod (show laidOutB Try.prog = true by kernel_rfl) (by kernel_rfl) (of_decide_eq_true (by kernel_rfl)) h hw hl
  refine ⟨_, rfl, _, _, _, [], ([] ++ (p1 ++ p2)), [], hW', ?_, ?_, ?_, hw.frame _, fun h => by cases h⟩
  · rw [e1]; exact trodAll_mk1 (shut_bool Try.underlying4 true)
  · rw [e1]; exact trodAll_mk3 (shut_float Try.underlying22 wa) (hc h1 fun x hx => hlt x (by simp [hx])) (hc h2 fun x hx => hlt x (by simp [hx]))
  · rw [e1]; rfl
theorem vectorSums_holds : Rows.VectorSumsSaid :=
  OpenClaim.holds_of_wide 3 Try.f3 rfl rfl rfl rfl rfl rfl rfl ⟨rfl, rfl, rfl, rfl, rfl⟩ rfl rfl rfl rfl rfl (by kernel_rfl) Try.func3 (by kernel_rfl)
    (of_decide_eq_true (by kernel_rfl)) (by unfold Func.isWrapper; rw [if_neg (of_decide_eq_false (by kernel_rfl))]; exact ⟨rfl, rfl⟩)
    (fun os started H enc _ => vectorSums_lifted os started H enc)
#print axioms vectorSums_holds
end Go.Proofs.Ytojdlheblnjoiaa
