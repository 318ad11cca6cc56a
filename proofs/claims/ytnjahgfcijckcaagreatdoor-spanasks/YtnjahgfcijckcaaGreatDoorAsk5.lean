/- For every input the call returns true and leaves its arguments as they were: SpanAsks; the one condition of its row: the table of the library lies as its own initialiser lays it, which the card ties to the text of the program. -/
import Derived.Test.YtnjahgfcijckcaaGreatDoorPl
import Derived.Test.YtnjahgfcijckcaaGreatDoorAsk4
import Derived.Test.YtnjahgfcijckcaaGreatDoorTie
import Derived.Test.YtnjahgfcijckcaaGreatDoorCards
import Derived.SevenTiedAt
import Derived.Test.YtnjahgfcijckcaaGreatDoorMf
import Derived.Test.YtnjahgfcijckcaaGreatDoorUs
import Derived.Carry
namespace Go.Proofs.YtnjahgfcijckcaaGreatDoor
open Go.ChangeShapes Go.WideShapes Go.ChangeAt Go.RowKit

set_option maxRecDepth 100000 in
theorem spanAsks_lifted (os : Os) (started : os.Started) (H : Type) (enc : TypeId × Value → H) :
    ReturnsInHanded {} Tryz.checked os 3 .any (fun w args => (Rows.spanAsksSpec.pre enc Tryz.prog Tryz.f3 [] false w args ∧ laidMetH Tryz.prog laidTab w) ∧ sizedMet enc Tryz.prog Tryz.f3 (OpenSpec.ofChange Rows.spanAsksSpec) false w args)
      (Rows.spanAsksSpec.post enc Tryz.prog Tryz.f3 false true false false) := by
  refine returnsInHanded_of_change_and (C := Tryz.checked) (X := fun w _ => laidMetH Tryz.prog laidTab w) (fun _ _ _ hh h => h.of_heap hh) Tryz.own started (by kernel_rfl) Tryz.func3
    (ChangeSpec.witness_shaped (enc := enc) (C := Tryz.checked) (os := os) (X := fun w _ => laidMetH Tryz.prog laidTab w) false (World.doorLaid Tryz.prog 400 os) #[.agg #[.float .f64 0, .float .f64 0], .agg #[.float .f64 0, .float .f64 0], (.agg #[.bool false, .slice none 0 0, .int .i64 0])] 8 rfl (World.shaped_of_RefB (by kernel_rfl) (by kernel_rfl)) (by kernel_rfl) (by kernel_rfl) (by kernel_rfl) (door_met os _)) ?_
  intro W base args ds gs before hval0 hW hx1 hx2 hL hS
  have hval : ∀ (j : Nat) t v, Tryz.f3.params[j]? = some t → args[j]? = some v → Value.okWide Tryz.prog W .any base t v := hval0
  have hW' := hW
  obtain ⟨p, q, hA0, hV, rfl, hfz, hnd⟩ := hW
  have hA : DataW.TrodAll enc Tryz.prog W 0 (fun _ => true) true Tryz.f3.params.toList args.toList ds p := hA0
  rw [Tryz.params3] at hA hval
  have hlt := DataW.TrodAll.lt hA
  obtain ⟨v0, v1, v2, d0, d1, d2, p0, p1, p2, rfl, rfl, rfl, h0, h1, h2⟩ := trodAll_three hA
  obtain ⟨rfl, rfl⟩ := trodVars_none hV
  obtain ⟨la, ua, wla, wua, rfl, rfl, rfl⟩ := open_span (hval 0 24 v0 rfl rfl) h0
  obtain ⟨lb, ub, wlb, wub, rfl, rfl, rfl⟩ := open_span (hval 1 24 v1 rfl rfl) h1
  obtain ⟨A, ao, ac, rfl, ra, rl, sa, ca, ea1, ea2, na⟩ := open_dyad2 (hval 2 27 v2 rfl rfl) h2
  clear hA0 hval0
  simp only [List.append_nil] at hW'
  have n0 := na (List.all_eq_true.2 fun n hn => List.all_eq_true.1 hx2 n (DataW.weights_mem_each (j := 2) (t := 27) (by kernel_rfl) rfl n hn))
  have e1 : Rows.spanAsksSpec.fn H ([.agg [.lit (.float .f64 la), .lit (.float .f64 ua)], .agg [.lit (.float .f64 lb), .lit (.float .f64 ub)], d2] ++ []) = { results := [.lit (.bool true)], args := [.agg [.lit (.float .f64 la), .lit (.float .f64 ua)], .agg [.lit (.float .f64 lb), .lit (.float .f64 ub)], d2] } := rfl
  refine (asks_law la ua lb ub A ao ac W (tab_of_laid hL) (word_lt wla) (word_lt wua) (word_lt wlb) (word_lt wub) ⟨ra, sa, ca⟩ rl n0).mono fun e W' ⟨he, hw⟩ => ?_
  subst he
  have hc : ∀ {v d p}, DataW.Trod enc Tryz.prog W 0 (fun _ => true) true 27 v d p → (∀ x ∈ p, x.block < W.heap.size) → DataW.Trod enc Tryz.prog W' 0 (fun b => decide (b < W.heap.size)) true 27 v d p := fun h hl => Below.trod (show laidOutB Tryz.prog = true by kernel_rfl) (by kernel_rfl) (of_decide_eq_true (by kernel_rfl)) h hw hl
  refine ⟨_, rfl, _, _, _, [], [] ++ ([] ++ p2), [], hW', ?_, ?_, ?_, hw.frame _, fun h => by cases h⟩
  · rw [e1]; exact trodAll_mk1 (shut_bool Tryz.underlying4 true)
  · rw [e1]; exact trodAll_mk3 (shut_span wla wua) (shut_span wlb wub) (hc h2 fun x hx => hlt x (by simp [hx]))
  · rw [e1]; rfl

theorem spanAsks_holds : Rows.SpanAsksSaid :=
  OpenClaim.holds_of_wide 3 Tryz.f3 rfl rfl rfl rfl rfl rfl rfl ⟨rfl, rfl, rfl, rfl, rfl⟩ rfl rfl rfl rfl rfl (by kernel_rfl) Tryz.func3 (by kernel_rfl)
    (of_decide_eq_true (by kernel_rfl)) (by unfold Func.isWrapper; rw [if_neg (of_decide_eq_false (by kernel_rfl))]; exact ⟨rfl, rfl⟩)
    (fun os started H enc _ => spanAsks_lifted os started H enc)

theorem spanAsks_card_holds : Rows.SpanAsksCardSaid :=
  Claim7.holds_tied_plain_at .later [] [.data] true Rows.spanAsksCard.stood.harness false
    spanAsks_holds (fun _ h => by cases h) (by kernel_rfl) (fun _ h => by cases h) spanAsks_row_tie rfl ⟨rfl, rfl⟩ (by kernel_rfl) rfl
    (fun f fn hf hfn => by
      obtain rfl : f = 3 := Option.some.inj ((show Tryz.prog.funcNamed "girder/girderlaw05.SpanAsks" = some 3 by kernel_rfl).symm.trans hf) |>.symm
      obtain rfl : fn = Tryz.f3 := (Option.some.inj (Tryz.func3.symm.trans hfn)).symm
      exact ⟨by kernel_rfl, fun j t ht => by
        rw [Tryz.params3] at ht
        have hm : t ∈ [24, 24, 27] := by simpa using Array.mem_of_getElem? ht
        have hall : ([24, 24, 27].all fun u => !Tryz.prog.wantsStandIn u) = true := by kernel_rfl
        exact (show Tryz.prog.wantsStandIn t = false by simpa using List.all_eq_true.1 hall t hm)⟩)
    (by kernel_rfl)
#print axioms spanAsks_card_holds
end Go.Proofs.YtnjahgfcijckcaaGreatDoor
