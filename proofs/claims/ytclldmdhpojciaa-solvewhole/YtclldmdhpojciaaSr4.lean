/- For every input the call returns true and leaves its arguments as they were: SolveWhole. No condition. -/
import Derived.Test.YtclldmdhpojciaaSw6
import Derived.Test.YtclldmdhpojciaaLw16
import Derived.Carry
namespace Go.Proofs.Ytclldmdhpojciaa
open Go.ChangeShapes Go.WideShapes Go.ChangeAt Go.RowKit Go.Joins

theorem solveWhole_own : ownKnob Try.prog.godebug = none := by kernel_rfl
set_option maxRecDepth 100000 in
theorem solveWhole_lifted (os : Os) (started : os.Started) (H : Type) (enc : TypeId × Value → H) :
    ReturnsInHanded {} Try.checked os 5 .any (Rows.solveWholeSpec.pre6 enc Try.prog Try.f5 Rows.solveWholeRow.domain false) (Rows.solveWholeSpec.post enc Try.prog Try.f5 false true false false) := by
  refine returnsInHanded_of_change_sized (C := Try.checked) solveWhole_own started (by kernel_rfl) Try.func5
    (ChangeSpec.witness6 (enc := enc) (C := Try.checked) false ⟨#[], #[.int .i64 0, .slice none 0 0, .slice none 0 0], []⟩ 8 (by kernel_rfl) (by kernel_rfl) (by kernel_rfl) (by kernel_rfl)) ?_
  intro W base args ds gs before hval0 hW hcnd hx2 _
  have hval : ∀ (j : Nat) t v, Try.f5.params[j]? = some t → args[j]? = some v → Value.okWide Try.prog W .any base t v := hval0
  have hW' := hW
  obtain ⟨p, q, hA0, hV, rfl, hfz, hnd⟩ := hW
  have hA : DataW.TrodAll enc Try.prog W 0 (fun _ => true) true Try.f5.params.toList args.toList ds p := hA0
  rw [Try.params5] at hA hval
  have hlt := DataW.TrodAll.lt hA
  obtain ⟨v0, vs0, d0, ds0, p0, q0, hargs, rfl, rfl, h0, k0⟩ := trodAll_cons hA
  obtain ⟨v1, vs1, d1, ds1, p1, q1, rfl, rfl, rfl, h1, k1⟩ := trodAll_cons k0
  obtain ⟨v2, vs2, d2, ds2, p2, q2, rfl, rfl, rfl, h2, k2⟩ := trodAll_cons k1
  obtain ⟨rfl, rfl, rfl⟩ := trodAll_nil k2
  have ha : args = #[v0, v1, v2] := by cases args; simp_all
  subst ha
  clear hargs
  obtain ⟨rfl, rfl⟩ := trodVars_none hV
  obtain ⟨x0, rfl, rfl, rfl, wx0⟩ := open_int Try.underlying3 (hval 0 3 v0 rfl rfl) h0
  obtain ⟨x1, x1o, x1c, rfl, rx1, fx1, lx1, nx1⟩ := open_ints (hval 1 45 v1 rfl rfl) h1
  obtain ⟨x2, x2o, x2c, rfl, rx2, fx2, lx2, nx2⟩ := open_ints (hval 2 45 v2 rfl rfl) h2
  clear hA0 hval0
  simp only [List.append_nil] at hW'
  have e1 : Rows.solveWholeSpec.fn H ([.lit (.int .i64 x0), d1, d2] ++ []) = { results := [.lit (.bool true)], args := [.lit (.int .i64 x0), d1, d2] } := rfl
  have mx1 := nx1 (List.all_eq_true.2 fun n hn => List.all_eq_true.1 hx2 n (DataW.weights_mem_each (j := 1) (t := 45) (by kernel_rfl) rfl n hn))
  have mx2 := nx2 (List.all_eq_true.2 fun n hn => List.all_eq_true.1 hx2 n (DataW.weights_mem_each (j := 2) (t := 45) (by kernel_rfl) rfl n hn))
  refine (whole13_row x0 x1 x1o x1c x2 x2o x2c W rx1 fx1 (by omega) (by omega) rx2 fx2 (by omega) (by omega)).mono fun e W' ⟨he, hw⟩ => ?_
  subst he
  have hcN : ∀ {v d p}, DataW.Trod enc Try.prog W 0 (fun _ => true) true 45 v d p → (∀ x ∈ p, x.block < W.heap.size) → DataW.Trod enc Try.prog W' 0 (fun b => decide (b < W.heap.size)) true 45 v d p := fun h hl => Below.trod (show laidOutB Try.prog = true by kernel_rfl) (by kernel_rfl) (of_decide_eq_true (by kernel_rfl)) h hw hl
  refine ⟨_, rfl, _, _, _, [], ([] ++ (p1 ++ p2)), [], hW', ?_, ?_, ?_, hw.frame _, fun h => by cases h⟩
  · rw [e1]; exact trodAll_mk1 (shut_bool Try.underlying4 true)
  · rw [e1]; exact (trodAll_cons_mk (shut_int Try.underlying3 wx0) (trodAll_cons_mk (hcN h1 fun x hx => hlt x (by simp [hx])) (trodAll_mk1 (hcN h2 fun x hx => hlt x (by simp [hx])))))
  · rw [e1]; rfl
theorem solveWhole_holds : Rows.SolveWholeSaid :=
  OpenClaim.holds_of_wide 5 Try.f5 rfl rfl rfl rfl rfl rfl rfl ⟨rfl, rfl, rfl, rfl, rfl⟩ rfl rfl rfl rfl rfl (by kernel_rfl) Try.func5 (by kernel_rfl)
    (of_decide_eq_true (by kernel_rfl)) (by unfold Func.isWrapper; rw [if_neg (of_decide_eq_false (by kernel_rfl))]; exact ⟨rfl, rfl⟩)
    (fun os started H enc _ => solveWhole_lifted os started H enc)
#print axioms solveWhole_holds
end Go.Proofs.Ytclldmdhpojciaa
