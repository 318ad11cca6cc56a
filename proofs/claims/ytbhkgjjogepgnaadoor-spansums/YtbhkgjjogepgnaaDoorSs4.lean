/- For every input the call returns true and leaves its arguments as they were: SpanSums; the one condition of its row: the table of the library lies as its own initialiser lays it, which the card ties to the text of the program. -/
import Derived.Test.YtbhkgjjogepgnaaDoorWD
import Derived.Test.YtbhkgjjogepgnaaDoorSA
import Derived.Test.YtbhkgjjogepgnaaDoorSB
import Derived.Test.YtbhkgjjogepgnaaDoorTie
import Derived.Test.YtbhkgjjogepgnaaDoorCards
import Derived.SevenTiedAt
import Derived.Carry
namespace Go.Proofs.YtbhkgjjogepgnaaDoor
open Go.ChangeShapes Go.WideShapes Go.ChangeAt Go.RowKit

set_option maxRecDepth 100000 in
theorem spanSums_lifted (os : Os) (started : os.Started) (H : Type) (enc : TypeId × Value → H) :
    ReturnsInHanded {} Tryd.checked os 4 .any (fun w args => (Rows.spanSumsSpec.pre enc Tryd.prog Tryd.f4 [] false w args ∧ laidMetH Tryd.prog laidTab w) ∧ sizedMet enc Tryd.prog Tryd.f4 (OpenSpec.ofChange Rows.spanSumsSpec) false w args)
      (Rows.spanSumsSpec.post enc Tryd.prog Tryd.f4 false true false false) := by
  refine returnsInHanded_of_change_and (C := Tryd.checked) (X := fun w _ => laidMetH Tryd.prog laidTab w) (fun _ _ _ hh h => h.of_heap hh) Tryd.own started (by kernel_rfl) Tryd.func4
    (ChangeSpec.witness_shaped (enc := enc) (C := Tryd.checked) (os := os) (X := fun w _ => laidMetH Tryd.prog laidTab w) false (World.doorLaid Tryd.prog 400 os) #[.slice none 0 0, .slice none 0 0, .slice none 0 0] 8 rfl (World.shaped_of_RefB (by kernel_rfl) (by kernel_rfl)) (by kernel_rfl) (by kernel_rfl) (by kernel_rfl) (door_met os _)) ?_
  intro W base args ds gs before hval0 hW hx1 hx2 hL hS
  have hval : ∀ (j : Nat) t v, Tryd.f4.params[j]? = some t → args[j]? = some v → Value.okWide Tryd.prog W .any base t v := hval0
  have hW' := hW
  obtain ⟨p, q, hA0, hV, rfl, hfz, hnd⟩ := hW
  have hA : DataW.TrodAll enc Tryd.prog W 0 (fun _ => true) true Tryd.f4.params.toList args.toList ds p := hA0
  rw [Tryd.params4] at hA hval
  have hlt := DataW.TrodAll.lt hA
  obtain ⟨v0, v1, v2, d0, d1, d2, p0, p1, p2, rfl, rfl, rfl, h0, h1, h2⟩ := trodAll_three hA
  obtain ⟨rfl, rfl⟩ := trodVars_none hV
  obtain ⟨l, ao, cap, rfl, rl, fl, cl, sa, na⟩ := open_spans (hval 0 34 v0 rfl rfl) h0
  obtain ⟨k, bo, cap2, rfl, rk, fk, ck, sb, nb⟩ := open_spans (hval 1 34 v1 rfl rfl) h1
  obtain ⟨xs, xo, cap3, rfl, rx, fx, cx, nx⟩ := open_floats (hval 2 35 v2 rfl rfl) h2
  have n0 := na (List.all_eq_true.2 fun n hn => List.all_eq_true.1 hx2 n (DataW.weights_mem_each (j := 0) (t := 34) (by kernel_rfl) rfl n hn))
  have n1 := nb (List.all_eq_true.2 fun n hn => List.all_eq_true.1 hx2 n (DataW.weights_mem_each (j := 1) (t := 34) (by kernel_rfl) rfl n hn))
  have n2 := nx (List.all_eq_true.2 fun n hn => List.all_eq_true.1 hx2 n (DataW.weights_mem_each (j := 2) (t := 35) (by kernel_rfl) rfl n hn))
  have fxi : ∀ i, xs.getD i 0 < 18446744073709551616 := fun i => by
    by_cases hi : i < xs.length
    · exact fx.at hi
    · rw [List.getD_eq_getElem?_getD, List.getElem?_eq_none (by omega)]; simp
  clear hA0 hval0
  simp only [List.append_nil] at hW'
  have e1 : Rows.spanSumsSpec.fn H ([d0, d1, d2] ++ []) = { results := [.lit (.bool true)], args := [d0, d1, d2] } := rfl
  refine (sums_walk l k xs ao bo xo cap cap2 cap3 W (tab_of_laid hL) rl rk rx fl fk (by omega) (by omega) (by omega) fxi).mono fun e W' ⟨he, hw⟩ => ?_
  subst he
  have hc : ∀ {v d p}, DataW.Trod enc Tryd.prog W 0 (fun _ => true) true 34 v d p → (∀ x ∈ p, x.block < W.heap.size) → DataW.Trod enc Tryd.prog W' 0 (fun b => decide (b < W.heap.size)) true 34 v d p := fun h hl => Below.trod (show laidOutB Tryd.prog = true by kernel_rfl) (by kernel_rfl) (of_decide_eq_true (by kernel_rfl)) h hw hl
  have hf : ∀ {v d p}, DataW.Trod enc Tryd.prog W 0 (fun _ => true) true 35 v d p → (∀ x ∈ p, x.block < W.heap.size) → DataW.Trod enc Tryd.prog W' 0 (fun b => decide (b < W.heap.size)) true 35 v d p := fun h hl => Below.trod (show laidOutB Tryd.prog = true by kernel_rfl) (by kernel_rfl) (of_decide_eq_true (by kernel_rfl)) h hw hl
  refine ⟨_, rfl, _, _, _, [], p0 ++ (p1 ++ p2), [], hW', ?_, ?_, ?_, hw.frame _, fun h => by cases h⟩
  · rw [e1]; exact trodAll_mk1 (shut_bool Tryd.underlying4 true)
  · rw [e1]; exact trodAll_mk3 (hc h0 fun x hx => hlt x (by simp [hx])) (hc h1 fun x hx => hlt x (by simp [hx])) (hf h2 fun x hx => hlt x (by simp [hx]))
  · rw [e1]; rfl

theorem spanSums_holds : Rows.SpanSumsSaid :=
  OpenClaim.holds_of_wide 4 Tryd.f4 rfl rfl rfl rfl rfl rfl rfl ⟨rfl, rfl, rfl, rfl, rfl⟩ rfl rfl rfl rfl rfl (by kernel_rfl) Tryd.func4 (by kernel_rfl)
    (of_decide_eq_true (by kernel_rfl)) (by unfold Func.isWrapper; rw [if_neg (of_decide_eq_false (by kernel_rfl))]; exact ⟨rfl, rfl⟩)
    (fun os started H enc _ => spanSums_lifted os started H enc)

theorem spanSums_card_holds : Rows.SpanSumsCardSaid :=
  Claim7.holds_tied_plain_at .later [] [.data] true Rows.spanSumsCard.stood.harness false
    spanSums_holds (fun _ h => by cases h) (by kernel_rfl) (fun _ h => by cases h) spanSums_row_tie rfl ⟨rfl, rfl⟩ (by kernel_rfl) rfl
    (fun f fn hf hfn => by
      obtain rfl : f = 4 := Option.some.inj ((show Tryd.prog.funcNamed "girder/girderlaw05.SpanSums" = some 4 by kernel_rfl).symm.trans hf) |>.symm
      obtain rfl : fn = Tryd.f4 := (Option.some.inj (Tryd.func4.symm.trans hfn)).symm
      exact ⟨by kernel_rfl, fun j t ht => by
        rw [Tryd.params4] at ht
        have hm : t ∈ [34, 34, 35] := by simpa using Array.mem_of_getElem? ht
        have hall : ([34, 34, 35].all fun u => !Tryd.prog.wantsStandIn u) = true := by kernel_rfl
        exact (show Tryd.prog.wantsStandIn t = false by simpa using List.all_eq_true.1 hall t hm)⟩)
    (by kernel_rfl)
#print axioms spanSums_card_holds
end Go.Proofs.YtbhkgjjogepgnaaDoor
