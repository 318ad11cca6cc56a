/- For every input the call returns true and leaves its arguments as they were: RefineUntil; the one condition of its row: the table of the library lies as its own initialiser lays it, which the card ties to the text of the program. -/
import Derived.Test.YtmbcmhncicbbjaaGreatDoorZ11
import Derived.Test.YtmbcmhncicbbjaaGreatDoorUN
import Derived.Test.YtmbcmhncicbbjaaGreatDoorRg3
import Derived.Test.YtmbcmhncicbbjaaGreatDoorTie
import Derived.Test.YtmbcmhncicbbjaaGreatDoorCards
import Derived.SevenTiedAt
import Derived.Carry
namespace Go.Proofs.YtmbcmhncicbbjaaGreatDoor
open Go.ChangeShapes Go.WideShapes Go.ChangeAt Go.RowKit

theorem shp_nil {ao : Option Addr} {cap n : Nat} (h : Shp ao cap) (hn : n ≤ cap) : ao = none → cap = 0 ∧ n = 0 := by
  rintro rfl
  rcases h with ⟨_, h⟩ | ⟨b, off, h⟩ | ⟨h, _⟩
  · exact ⟨h, by omega⟩
  · cases h
  · exact ⟨h, by omega⟩
set_option maxRecDepth 100000 in
theorem refineUntil_lifted (os : Os) (started : os.Started) (H : Type) (enc : TypeId × Value → H) :
    ReturnsInHanded {} Tryz.checked os 5 .any (fun w args => (Rows.refineUntilSpec.pre enc Tryz.prog Tryz.f5 [] false w args ∧ laidMetH Tryz.prog laidTab w) ∧ sizedMet enc Tryz.prog Tryz.f5 (OpenSpec.ofChange Rows.refineUntilSpec) false w args)
      (Rows.refineUntilSpec.post enc Tryz.prog Tryz.f5 false true false false) := by
  refine returnsInHanded_of_change_and (C := Tryz.checked) (X := fun w _ => laidMetH Tryz.prog laidTab w) (fun _ _ _ hh h => h.of_heap hh) Tryz.own started (by kernel_rfl) Tryz.func5
    (ChangeSpec.witness_shaped (enc := enc) (C := Tryz.checked) (os := os) (X := fun w _ => laidMetH Tryz.prog laidTab w) false (World.doorLaid Tryz.prog 400 os) #[.agg #[.int .i64 0, .int .i64 0, .slice none 0 0, .int .i64 0, .slice none 0 0, .slice none 0 0, .slice none 0 0, .slice none 0 0], .int .i64 0] 8 rfl (World.shaped_of_RefB (by kernel_rfl) (by kernel_rfl)) (by kernel_rfl) (by kernel_rfl) (by kernel_rfl) (door_met os _)) ?_
  intro W base args ds gs before hval0 hW hx1 hx2 hL hS
  have hval : ∀ (j : Nat) t v, Tryz.f5.params[j]? = some t → args[j]? = some v → Value.okWide Tryz.prog W .any base t v := hval0
  have hW' := hW
  obtain ⟨p, q, hA0, hV, rfl, hfz, hnd⟩ := hW
  have hA : DataW.TrodAll enc Tryz.prog W 0 (fun _ => true) true Tryz.f5.params.toList args.toList ds p := hA0
  rw [Tryz.params5] at hA hval
  have hlt := DataW.TrodAll.lt hA
  obtain ⟨v0, v1, d0, d1, p0, p1, rfl, rfl, rfl, h0, h1⟩ := trodAll_two hA
  obtain ⟨rfl, rfl⟩ := trodVars_none hV
  obtain ⟨r, c, ms, ao, cap, n, ls, lo, lc, ds, dO, dc, xs, xo, xc, bs, bo, bc, rfl, ⟨r1, r2, r3, _, r5⟩, ⟨f1, f2, f3, _, f5⟩, ⟨l1, l2, l3, _, l5⟩, ⟨s1, s2, s3, _, s5⟩, na⟩ := open_case (hval 0 38 v0 rfl rfl) h0
  obtain ⟨m, rfl, rfl, rfl, wm⟩ := open_int Tryz.underlying3 (hval 1 3 v1 rfl rfl) h1
  clear hA0 hval0
  simp only [List.append_nil] at hW'
  have n0 := na (List.all_eq_true.2 fun n hn => List.all_eq_true.1 hx2 n (DataW.weights_mem_each (j := 0) (t := 38) (by kernel_rfl) rfl n hn))
  have e1 : Rows.refineUntilSpec.fn H ([d0, .lit (.int .i64 m)] ++ []) = { results := [.lit (.bool true)], args := [d0, .lit (.int .i64 m)] } := rfl
  refine (untils_law r c n m ms ls ds xs bs ao lo dO xo bo cap lc dc xc bc W (tab_of_laid hL) r1 r2 r3 r5 f1 f2 f3 f5 (shp_nil s1 l1) (shp_nil s2 l2) (shp_nil s3 l3) (shp_nil s5 l5) (by omega) (by omega)).mono fun e W' ⟨he, hw⟩ => ?_
  subst he
  have hc : ∀ {v d p}, DataW.Trod enc Tryz.prog W 0 (fun _ => true) true 38 v d p → (∀ x ∈ p, x.block < W.heap.size) → DataW.Trod enc Tryz.prog W' 0 (fun b => decide (b < W.heap.size)) true 38 v d p := fun h hl => Below.trod (show laidOutB Tryz.prog = true by kernel_rfl) (by kernel_rfl) (of_decide_eq_true (by kernel_rfl)) h hw hl
  refine ⟨_, rfl, _, _, _, [], p0 ++ [], [], hW', ?_, ?_, ?_, hw.frame _, fun h => by cases h⟩
  · rw [e1]; exact trodAll_mk1 (shut_bool Tryz.underlying4 true)
  · rw [e1]; exact trodAll_mk2 (hc h0 fun x hx => hlt x (by simp [hx])) (shut_int Tryz.underlying3 wm)
  · rw [e1]; rfl

theorem refineUntil_holds : Rows.RefineUntilSaid :=
  OpenClaim.holds_of_wide 5 Tryz.f5 rfl rfl rfl rfl rfl rfl rfl ⟨rfl, rfl, rfl, rfl, rfl⟩ rfl rfl rfl rfl rfl (by kernel_rfl) Tryz.func5 (by kernel_rfl)
    (of_decide_eq_true (by kernel_rfl)) (by unfold Func.isWrapper; rw [if_neg (of_decide_eq_false (by kernel_rfl))]; exact ⟨rfl, rfl⟩)
    (fun os started H enc _ => refineUntil_lifted os started H enc)

theorem refineUntil_card_holds : Rows.RefineUntilCardSaid :=
  Claim7.holds_tied_plain_at .later [] [.data] true Rows.refineUntilCard.stood.harness false
    refineUntil_holds (fun _ h => by cases h) (by kernel_rfl) (fun _ h => by cases h) refineUntil_row_tie rfl ⟨rfl, rfl⟩ (by kernel_rfl) rfl
    (fun f fn hf hfn => by
      obtain rfl : f = 5 := Option.some.inj ((show Tryz.prog.funcNamed "girder/girderlaw14.RefineUntil" = some 5 by kernel_rfl).symm.trans hf) |>.symm
      obtain rfl : fn = Tryz.f5 := (Option.some.inj (Tryz.func5.symm.trans hfn)).symm
      exact ⟨by kernel_rfl, fun j t ht => by
        rw [Tryz.params5] at ht
        have hm : t ∈ [38, 3] := by simpa using Array.mem_of_getElem? ht
        have hall : ([38, 3].all fun u => !Tryz.prog.wantsStandIn u) = true := by kernel_rfl
        exact (show Tryz.prog.wantsStandIn t = false by simpa using List.all_eq_true.1 hall t hm)⟩)
    (by kernel_rfl)
#print axioms refineUntil_card_holds
end Go.Proofs.YtmbcmhncicbbjaaGreatDoor
