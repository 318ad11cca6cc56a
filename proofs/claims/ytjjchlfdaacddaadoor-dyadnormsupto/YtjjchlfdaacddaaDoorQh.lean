/- For every dyad of bulk at most 1048576 the call returns true and leaves its argument as it was: DyadNorms, in its second form; the one further condition of its row: the table of the library lies as its own initialiser lays it, which the card ties to the text of the program. -/
import Derived.Test.YtjjchlfdaacddaaDoorPl
import Derived.Test.YtjjchlfdaacddaaDoorZx
import Derived.Test.YtjjchlfdaacddaaDoorYh
import Derived.Test.YtjjchlfdaacddaaDoorTie
import Derived.Test.YtjjchlfdaacddaaDoorCards
import Derived.SevenTiedAt
import Derived.Carry
import Derived.Deep.DeepHandedRow
import Derived.Deep.DeepWitnessRowRef
namespace Go.Proofs.YtjjchlfdaacddaaDoor
open Go.ChangeShapes Go.WideShapes Go.ChangeAt Go.RowKit

theorem norms_reads (os : Os) {H : Type} (enc : TypeId × Value → H) : ∃ places, DataW.whole enc Tryd.prog ((World.doorLaid Tryd.prog 400 os).forCall (fun _ _ => 0) ⟨#[], #[(.agg #[.bool false, .slice none 0 0, .int .i64 0])], []⟩).memory Tryd.f3.params.toList Rows.dyadNormsSpec.vars false #[Value.agg #[.bool false, .slice none 0 0, .int .i64 0]].toList 8 = some ([.agg [.lit (.bool false), .nil, .lit (.int .i64 0)]], [], places) :=
  ⟨[], by kernel_rfl⟩
set_option maxRecDepth 100000 in
theorem dyadNorms_lifted (os : Os) (started : os.Started) (H : Type) (enc : TypeId × Value → H) (F : Stop.Interp) :
    ReturnsInHanded {} Tryd.checked os 3 .any ((Rows.OpenSpec.upto Rows.dyadNormsSpec).preRow enc Tryd.prog Tryd.f3 Rows.dyadNormsUptoRow.domain false Rows.dyadNormsUptoRow.laid) (((Rows.OpenSpec.upto Rows.dyadNormsSpec).at F).post enc Tryd.prog Tryd.f3 false true false false) := by
  obtain ⟨places, hx⟩ := norms_reads os enc
  refine returnsInHanded_of_row (C := Tryd.checked) (s := Rows.OpenSpec.upto Rows.dyadNormsSpec) Tryd.own started (by kernel_rfl) Tryd.func3
    (witness_row_atRef (enc := enc) (C := Tryd.checked) false (World.doorLaid Tryd.prog 400 os) #[(.agg #[.bool false, .slice none 0 0, .int .i64 0])] rfl (by kernel_rfl) (by kernel_rfl) (by kernel_rfl)
      (OpenSpec.preRow_of_cond 8 hx (by kernel_rfl) (fun k hk => by cases hk; kernel_rfl) (by kernel_rfl) (door_met os _))) ?_
  intro W base args ds gs before hval0 hW _ hcond hx2 hL0 _ _
  have hL : laidMetH Tryd.prog laidTab W := hL0
  have hval : ∀ (j : Nat) t v, Tryd.f3.params[j]? = some t → args[j]? = some v → Value.okWide Tryd.prog W .any base t v := hval0
  have hW' := hW
  obtain ⟨p, q, hA0, hV, rfl, hfz, hnd⟩ := hW
  have hA : DataW.TrodAll enc Tryd.prog W 0 (fun _ => true) true Tryd.f3.params.toList args.toList ds p := hA0
  rw [Tryd.params3] at hA hval
  have hlt := DataW.TrodAll.lt hA
  obtain ⟨v0, d0, rfl, rfl, h0⟩ := trodAll_one hA
  obtain ⟨rfl, rfl⟩ := trodVars_none hV
  obtain ⟨A, ao, ac, rfl, ra, la, sa, ca, ea1, ea2, na, nb⟩ := open_dyad3 (hval 0 24 v0 rfl rfl) h0
  clear hA0 hval0
  simp only [List.append_nil] at hW'
  have hbk : Rows.uptoBulkAll ([d0] ++ []) ≤ 1048576 := of_decide_eq_true (hcond _ rfl)
  have n0 : A.mag.length ≤ 4398046511104 := by
    simp only [List.append_nil, Rows.uptoBulkAll] at hbk
    omega
  have e1 : Rows.dyadNormsSpec.fn H ([d0] ++ []) = { results := [.lit (.bool true)], args := [d0] } := rfl
  refine (norms_law A ao ac W ⟨ra, sa, ca⟩ la n0 ea1 ea2 (tab_of_laid hL)).mono fun e W' ⟨he, hw⟩ => ?_
  subst he
  have hc : ∀ {v d p}, DataW.Trod enc Tryd.prog W 0 (fun _ => true) true 24 v d p → (∀ x ∈ p, x.block < W.heap.size) → DataW.Trod enc Tryd.prog W' 0 (fun b => decide (b < W.heap.size)) true 24 v d p := fun h hl => Below.trod (show laidOutB Tryd.prog = true by kernel_rfl) (by kernel_rfl) (of_decide_eq_true (by kernel_rfl)) h hw hl
  refine ⟨_, rfl, _, _, _, [], p, [], hW', ?_, ?_, ?_, hw.frame _, fun h => by cases h⟩
  · show DataW.TrodAll _ _ _ _ _ _ _ _ (Rows.dyadNormsSpec.fn H ([d0] ++ [])).results _
    rw [e1]; exact trodAll_mk1 (shut_bool Tryd.underlying4 true)
  · show DataW.TrodAll _ _ _ _ _ _ _ _ (Rows.dyadNormsSpec.fn H ([d0] ++ [])).args _
    rw [e1]; exact trodAll_mk1 (hc h0 fun x hx => hlt x hx)
  · rfl
theorem dyadNormsUpto_holds : Rows.DyadNormsUptoSaid :=
  OpenClaim.holds_of_cond 3 Tryd.f3 rfl rfl rfl rfl rfl rfl rfl ⟨rfl, rfl, rfl, rfl, rfl⟩ rfl rfl rfl rfl rfl (by kernel_rfl) Tryd.func3 (by kernel_rfl)
    (of_decide_eq_true (by kernel_rfl)) (by unfold Func.isWrapper; rw [if_neg (of_decide_eq_false (by kernel_rfl))]; exact ⟨rfl, rfl⟩)
    (fun os started H enc _ F => by rw [OpenClaim.pre_eq_preRow]; exact dyadNorms_lifted os started H enc F)
theorem dyadNormsUpto_card_holds : Rows.DyadNormsUptoCardSaid :=
  Claim7.holds_tied_plain_at .later [] _ _ _ _ dyadNormsUpto_holds (fun _ h => by cases h) (by kernel_rfl) (fun _ h => by cases h) dyadNormsUpto_row_tie rfl ⟨rfl, rfl⟩ (by kernel_rfl) rfl
    (fun f fn hf hfn => by
      obtain rfl : f = 3 := Option.some.inj ((show Tryd.prog.funcNamed "girder/girderlaw02.DyadNorms" = some 3 by kernel_rfl).symm.trans hf) |>.symm
      obtain rfl : fn = Tryd.f3 := (Option.some.inj (Tryd.func3.symm.trans hfn)).symm
      exact ⟨by kernel_rfl, fun j t ht => by
        rw [Tryd.params3] at ht
        have hm : t ∈ [24] := by simpa using Array.mem_of_getElem? ht
        have hall : ([24].all fun u => !Tryd.prog.wantsStandIn u) = true := by kernel_rfl
        exact (show Tryd.prog.wantsStandIn t = false by simpa using List.all_eq_true.1 hall t hm)⟩)
    (by kernel_rfl)
#print axioms dyadNormsUpto_card_holds
end Go.Proofs.YtjjchlfdaacddaaDoor
