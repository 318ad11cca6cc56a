/- For every input the call returns true and leaves its arguments as they were: RatioField; the one condition of its row: the table of the library lies as its own initialiser lays it, which the card ties to the text of the program. -/
import Derived.Test.YtpnmjmidlbilcaaDoorPl
import Derived.Test.YtpnmjmidlbilcaaDoorRtv
import Derived.Test.YtpnmjmidlbilcaaDoorTie
import Derived.Test.YtpnmjmidlbilcaaDoorCards
import Derived.SevenTiedAt
import Derived.Test.YtpnmjmidlbilcaaDoorRtp
import Derived.Carry
namespace Go.Proofs.YtpnmjmidlbilcaaDoor
open Go.ChangeShapes Go.WideShapes Go.ChangeAt Go.RowKit

set_option maxRecDepth 100000 in
theorem ratioField_lifted (os : Os) (started : os.Started) (H : Type) (enc : TypeId × Value → H) :
    ReturnsInHanded {} Tryd.checked os 4 .any (fun w args => (Rows.ratioFieldSpec.pre enc Tryd.prog Tryd.f4 [] false w args ∧ laidMetH Tryd.prog laidTab w) ∧ sizedMet enc Tryd.prog Tryd.f4 (OpenSpec.ofChange Rows.ratioFieldSpec) false w args)
      (Rows.ratioFieldSpec.post enc Tryd.prog Tryd.f4 false true false false) := by
  refine returnsInHanded_of_change_and (C := Tryd.checked) (X := fun w _ => laidMetH Tryd.prog laidTab w) (fun _ _ _ hh h => h.of_heap hh) Tryd.own started (by kernel_rfl) Tryd.func4
    (ChangeSpec.witness_shaped (enc := enc) (C := Tryd.checked) (os := os) (X := fun w _ => laidMetH Tryd.prog laidTab w) false (World.doorLaid Tryd.prog 400 os) #[(.agg #[.bool false, .slice none 0 0, .slice none 0 0]), (.agg #[.bool false, .slice none 0 0, .slice none 0 0]), (.agg #[.bool false, .slice none 0 0, .slice none 0 0])] 8 rfl (World.shaped_of_RefB (by kernel_rfl) (by kernel_rfl)) (by kernel_rfl) (by kernel_rfl) (by kernel_rfl) (door_met os _)) ?_
  intro W base args ds gs before hval0 hW hx1 hx2 hL hS
  have hval : ∀ (j : Nat) t v, Tryd.f4.params[j]? = some t → args[j]? = some v → Value.okWide Tryd.prog W .any base t v := hval0
  have hW' := hW
  obtain ⟨p, q, hA0, hV, rfl, hfz, hnd⟩ := hW
  have hA : DataW.TrodAll enc Tryd.prog W 0 (fun _ => true) true Tryd.f4.params.toList args.toList ds p := hA0
  rw [Tryd.params4] at hA hval
  have hlt := DataW.TrodAll.lt hA
  obtain ⟨v0, v1, v2, d0, d1, d2, p0, p1, p2, rfl, rfl, rfl, h0, h1, h2⟩ := trodAll_three hA
  obtain ⟨rfl, rfl⟩ := trodVars_none hV
  obtain ⟨n1, xs1, ys1, ao1, bo1, ac1, bc1, rfl, a1, b1, l1, m1, na⟩ := open_ratio (hval 0 25 v0 rfl rfl) h0
  obtain ⟨n2, xs2, ys2, ao2, bo2, ac2, bc2, rfl, a2, b2, l2, m2, nb⟩ := open_ratio (hval 1 25 v1 rfl rfl) h1
  obtain ⟨n3, xs3, ys3, ao3, bo3, ac3, bc3, rfl, a3, b3, l3, m3, nc⟩ := open_ratio (hval 2 25 v2 rfl rfl) h2
  clear hA0 hval0
  simp only [List.append_nil] at hW'
  have n0' := na (List.all_eq_true.2 fun n hn => List.all_eq_true.1 hx2 n (DataW.weights_mem_each (j := 0) (t := 25) (by kernel_rfl) rfl n hn))
  have n1' := nb (List.all_eq_true.2 fun n hn => List.all_eq_true.1 hx2 n (DataW.weights_mem_each (j := 1) (t := 25) (by kernel_rfl) rfl n hn))
  have n2' := nc (List.all_eq_true.2 fun n hn => List.all_eq_true.1 hx2 n (DataW.weights_mem_each (j := 2) (t := 25) (by kernel_rfl) rfl n hn))
  have e1 : Rows.ratioFieldSpec.fn H ([d0, d1, d2] ++ []) = { results := [.lit (.bool true)], args := [d0, d1, d2] } := rfl
  refine (field_law n1 xs1 ys1 ao1 bo1 ac1 bc1 n2 xs2 ys2 ao2 bo2 ac2 bc2 n3 xs3 ys3 ao3 bo3 ac3 bc3 W a1 b1 l1 m1 n0'.1 n0'.2 a2 b2 l2 m2 n1'.1 n1'.2 a3 b3 l3 m3 n2'.1 n2'.2 (tab_of_laid hL)).mono fun e W' ⟨he, hw⟩ => ?_
  subst he
  have hc : ∀ {v d p}, DataW.Trod enc Tryd.prog W 0 (fun _ => true) true 25 v d p → (∀ x ∈ p, x.block < W.heap.size) → DataW.Trod enc Tryd.prog W' 0 (fun b => decide (b < W.heap.size)) true 25 v d p := fun h hl => Below.trod (show laidOutB Tryd.prog = true by kernel_rfl) (by kernel_rfl) (of_decide_eq_true (by kernel_rfl)) h hw hl
  refine ⟨_, rfl, _, _, _, [], p0 ++ (p1 ++ p2), [], hW', ?_, ?_, ?_, hw.frame _, fun h => by cases h⟩
  · rw [e1]; exact trodAll_mk1 (shut_bool Tryd.underlying4 true)
  · rw [e1]; exact trodAll_mk3 (hc h0 fun x hx => hlt x (by simp [hx])) (hc h1 fun x hx => hlt x (by simp [hx])) (hc h2 fun x hx => hlt x (by simp [hx]))
  · rw [e1]; rfl

theorem ratioField_holds : Rows.RatioFieldSaid :=
  OpenClaim.holds_of_wide 4 Tryd.f4 rfl rfl rfl rfl rfl rfl rfl ⟨rfl, rfl, rfl, rfl, rfl⟩ rfl rfl rfl rfl rfl (by kernel_rfl) Tryd.func4 (by kernel_rfl)
    (of_decide_eq_true (by kernel_rfl)) (by unfold Func.isWrapper; rw [if_neg (of_decide_eq_false (by kernel_rfl))]; exact ⟨rfl, rfl⟩)
    (fun os started H enc _ => ratioField_lifted os started H enc)

theorem ratioField_card_holds : Rows.RatioFieldCardSaid :=
  Claim7.holds_tied_plain_at .later [] [.data] true Rows.ratioFieldCard.stood.harness false
    ratioField_holds (fun _ h => by cases h) (by kernel_rfl) (fun _ h => by cases h) ratioField_row_tie rfl ⟨rfl, rfl⟩ (by kernel_rfl) rfl
    (fun f fn hf hfn => by
      obtain rfl : f = 4 := Option.some.inj ((show Tryd.prog.funcNamed "girder/girderlaw07.RatioField" = some 4 by kernel_rfl).symm.trans hf) |>.symm
      obtain rfl : fn = Tryd.f4 := (Option.some.inj (Tryd.func4.symm.trans hfn)).symm
      exact ⟨by kernel_rfl, fun j t ht => by
        rw [Tryd.params4] at ht
        have hm : t ∈ [25, 25, 25] := by simpa using Array.mem_of_getElem? ht
        have hall : ([25, 25, 25].all fun u => !Tryd.prog.wantsStandIn u) = true := by kernel_rfl
        exact (show Tryd.prog.wantsStandIn t = false by simpa using List.all_eq_true.1 hall t hm)⟩)
    (by kernel_rfl)
#print axioms ratioField_card_holds
end Go.Proofs.YtpnmjmidlbilcaaDoor
