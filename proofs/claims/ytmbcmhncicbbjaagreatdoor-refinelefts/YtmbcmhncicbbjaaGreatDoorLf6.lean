/- For every input the call returns true and leaves its arguments as they were: RefineLefts; the one condition of its row: the table of the library lies as its own initialiser lays it, which the card ties to the text of the program. -/
import Derived.Test.YtmbcmhncicbbjaaGreatDoorZ11
import Derived.Test.YtmbcmhncicbbjaaGreatDoorLf5
import Derived.Test.YtmbcmhncicbbjaaGreatDoorRg3
import Derived.Test.YtmbcmhncicbbjaaGreatDoorTie
import Derived.Test.YtmbcmhncicbbjaaGreatDoorCards
import Derived.SevenTiedAt
import Derived.Carry
namespace Go.Proofs.YtmbcmhncicbbjaaGreatDoor
open Go.ChangeShapes Go.WideShapes Go.ChangeAt Go.RowKit

theorem array3_14 {cs : Array Value} (h : cs.size = 3) : ∃ c0 c1 c2, cs = #[c0, c1, c2] := by
  obtain ⟨l⟩ := cs
  match l, h with
  | [c0, c1, c2], _ => exact ⟨c0, c1, c2, rfl⟩
theorem shp_none {ao : Option Addr} {cap n : Nat} (h : Shp ao cap) (hn : n ≤ cap) : ao = none → cap = 0 ∧ n = 0 := by
  rintro rfl
  rcases h with ⟨_, h⟩ | ⟨b, off, h⟩ | ⟨h, _⟩
  · exact ⟨h, by omega⟩
  · cases h
  · exact ⟨h, by omega⟩
set_option maxRecDepth 100000 in
theorem open_m14 {H : Type} {enc : TypeId × Value → H} {w : World} {base : Nat} {held : Bool} {r : Reach} {b0 : Nat} {v : Value} {d : DataW H} {p : List MemPlace}
    (hv : Value.okWide Tryz.prog w r b0 24 v) (h : DataW.Trod enc Tryz.prog w base (fun _ => true) held 24 v d p) :
    ∃ (r c : Int) (l : List Nat) (ao : Option Addr) (cap : Nat), v = .agg #[.int .i64 r, .int .i64 c, .slice ao l.length cap] ∧ GRow w ao l ∧ FW l ∧ l.length ≤ cap ∧ (ao = none → cap = 0 ∧ l.length = 0) ∧ ((d.weights Tryz.prog 24).all (· ≤ reachBytes) = true → cap ≤ 17592186044416) := by
  obtain ⟨cs, rfl, hsz⟩ := okWide_struct Tryz.underlying24 hv
  obtain ⟨c0, c1, c2, rfl⟩ := array3_14 (hsz.trans cMx14)
  obtain ⟨fuel, hf⟩ := h
  obtain ⟨r, c, l, ao, cap, rfl, rfl, rfl, g1, g2, g3, g4, g5⟩ := matrix14 (c0 := c0) (c1 := c1) (c2 := c2) hf
  exact ⟨r, c, l, ao, cap, rfl, g1, g2, g3, shp_none g4 g3, g5⟩
set_option maxRecDepth 100000 in
theorem open_l14 {H : Type} {enc : TypeId × Value → H} {w : World} {base : Nat} {held : Bool} {r : Reach} {b0 : Nat} {v : Value} {d : DataW H} {p : List MemPlace}
    (hv : Value.okWide Tryz.prog w r b0 22 v) (h : DataW.Trod enc Tryz.prog w base (fun _ => true) held 22 v d p) :
    ∃ (l : List Nat) (ao : Option Addr) (cap : Nat), v = .slice ao l.length cap ∧ GRow w ao l ∧ FW l ∧ l.length ≤ cap ∧ (ao = none → cap = 0 ∧ l.length = 0) ∧ ((d.weights Tryz.prog 22).all (· ≤ reachBytes) = true → cap ≤ 17592186044416) := by
  obtain ⟨a0, len0, cap0, rfl⟩ := okWide_slice Tryz.underlying22 hv
  obtain ⟨fuel, hf⟩ := h
  obtain ⟨l, ao, cap, e, g1, g2, g3, g4, g5⟩ := list14 (v := .slice a0 len0 cap0) hf
  exact ⟨l, ao, cap, e, g1, g2, g3, shp_none g4 g3, g5⟩
set_option maxRecDepth 100000 in
theorem refineLefts_lifted (os : Os) (started : os.Started) (H : Type) (enc : TypeId × Value → H) :
    ReturnsInHanded {} Tryz.checked os 3 .any (fun w args => (Rows.refineLeftsSpec.pre enc Tryz.prog Tryz.f3 [] false w args ∧ laidMetH Tryz.prog laidTab w) ∧ sizedMet enc Tryz.prog Tryz.f3 (OpenSpec.ofChange Rows.refineLeftsSpec) false w args)
      (Rows.refineLeftsSpec.post enc Tryz.prog Tryz.f3 false true false false) := by
  refine returnsInHanded_of_change_and (C := Tryz.checked) (X := fun w _ => laidMetH Tryz.prog laidTab w) (fun _ _ _ hh h => h.of_heap hh) Tryz.own started (by kernel_rfl) Tryz.func3
    (ChangeSpec.witness_shaped (enc := enc) (C := Tryz.checked) (os := os) (X := fun w _ => laidMetH Tryz.prog laidTab w) false (World.doorLaid Tryz.prog 400 os) #[.agg #[.int .i64 0, .int .i64 0, .slice none 0 0], .slice none 0 0, .slice none 0 0] 8 rfl (World.shaped_of_RefB (by kernel_rfl) (by kernel_rfl)) (by kernel_rfl) (by kernel_rfl) (by kernel_rfl) (door_met os _)) ?_
  intro W base args ds gs before hval0 hW hx1 hx2 hL hS
  have hval : ∀ (j : Nat) t v, Tryz.f3.params[j]? = some t → args[j]? = some v → Value.okWide Tryz.prog W .any base t v := hval0
  have hW' := hW
  obtain ⟨p, q, hA0, hV, rfl, hfz, hnd⟩ := hW
  have hA : DataW.TrodAll enc Tryz.prog W 0 (fun _ => true) true Tryz.f3.params.toList args.toList ds p := hA0
  rw [Tryz.params3] at hA hval
  have hlt := DataW.TrodAll.lt hA
  obtain ⟨v0, v1, v2, d0, d1, d2, p0, p1, p2, rfl, rfl, rfl, h0, h1, h2⟩ := trodAll_three hA
  obtain ⟨rfl, rfl⟩ := trodVars_none hV
  obtain ⟨r, c, ms, ao, cap, rfl, rM, fM, lM, sM, nM⟩ := open_m14 (hval 0 24 v0 rfl rfl) h0
  obtain ⟨xs, xo, xc, rfl, rX, fX, lX, sX, nX⟩ := open_l14 (hval 1 22 v1 rfl rfl) h1
  obtain ⟨bs, bo, bc, rfl, rB, fB, lB, sB, nB⟩ := open_l14 (hval 2 22 v2 rfl rfl) h2
  clear hA0 hval0
  simp only [List.append_nil] at hW'
  have e1 : Rows.refineLeftsSpec.fn H ([d0, d1, d2] ++ []) = { results := [.lit (.bool true)], args := [d0, d1, d2] } := rfl
  refine (lefts_law r c ms xs bs ao xo bo cap xc bc W (tab_of_laid hL) rM rX rB fM fX fB sM sX sB).mono fun e W' ⟨he, hw⟩ => ?_
  subst he
  have hcM : ∀ {v d p}, DataW.Trod enc Tryz.prog W 0 (fun _ => true) true 24 v d p → (∀ x ∈ p, x.block < W.heap.size) → DataW.Trod enc Tryz.prog W' 0 (fun b => decide (b < W.heap.size)) true 24 v d p := fun h hl => Below.trod (show laidOutB Tryz.prog = true by kernel_rfl) (by kernel_rfl) (of_decide_eq_true (by kernel_rfl)) h hw hl
  have hcL : ∀ {v d p}, DataW.Trod enc Tryz.prog W 0 (fun _ => true) true 22 v d p → (∀ x ∈ p, x.block < W.heap.size) → DataW.Trod enc Tryz.prog W' 0 (fun b => decide (b < W.heap.size)) true 22 v d p := fun h hl => Below.trod (show laidOutB Tryz.prog = true by kernel_rfl) (by kernel_rfl) (of_decide_eq_true (by kernel_rfl)) h hw hl
  refine ⟨_, rfl, _, _, _, [], p0 ++ (p1 ++ p2), [], hW', ?_, ?_, ?_, hw.frame _, fun h => by cases h⟩
  · rw [e1]; exact trodAll_mk1 (shut_bool Tryz.underlying4 true)
  · rw [e1]; exact trodAll_mk3 (hcM h0 fun x hx => hlt x (by simp [hx])) (hcL h1 fun x hx => hlt x (by simp [hx])) (hcL h2 fun x hx => hlt x (by simp [hx]))
  · rw [e1]; rfl

theorem refineLefts_holds : Rows.RefineLeftsSaid :=
  OpenClaim.holds_of_wide 3 Tryz.f3 rfl rfl rfl rfl rfl rfl rfl ⟨rfl, rfl, rfl, rfl, rfl⟩ rfl rfl rfl rfl rfl (by kernel_rfl) Tryz.func3 (by kernel_rfl)
    (of_decide_eq_true (by kernel_rfl)) (by unfold Func.isWrapper; rw [if_neg (of_decide_eq_false (by kernel_rfl))]; exact ⟨rfl, rfl⟩)
    (fun os started H enc _ => refineLefts_lifted os started H enc)

theorem refineLefts_card_holds : Rows.RefineLeftsCardSaid :=
  Claim7.holds_tied_plain_at .later [] [.data] true Rows.refineLeftsCard.stood.harness false
    refineLefts_holds (fun _ h => by cases h) (by kernel_rfl) (fun _ h => by cases h) refineLefts_row_tie rfl ⟨rfl, rfl⟩ (by kernel_rfl) rfl
    (fun f fn hf hfn => by
      obtain rfl : f = 3 := Option.some.inj ((show Tryz.prog.funcNamed "girder/girderlaw14.RefineLefts" = some 3 by kernel_rfl).symm.trans hf) |>.symm
      obtain rfl : fn = Tryz.f3 := (Option.some.inj (Tryz.func3.symm.trans hfn)).symm
      exact ⟨by kernel_rfl, fun j t ht => by
        rw [Tryz.params3] at ht
        have hm : t ∈ [24, 22, 22] := by simpa using Array.mem_of_getElem? ht
        have hall : ([24, 22, 22].all fun u => !Tryz.prog.wantsStandIn u) = true := by kernel_rfl
        exact (show Tryz.prog.wantsStandIn t = false by simpa using List.all_eq_true.1 hall t hm)⟩)
    (by kernel_rfl)
#print axioms refineLefts_card_holds
end Go.Proofs.YtmbcmhncicbbjaaGreatDoor
