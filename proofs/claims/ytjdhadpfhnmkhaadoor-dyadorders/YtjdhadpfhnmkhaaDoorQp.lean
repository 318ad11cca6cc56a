/- For every input the call returns true and leaves its arguments as they were: DyadOrders; the one condition of its row: the table of the library lies as its own initialiser lays it, which the card ties to the text of the program. -/
import Derived.Test.YtjdhadpfhnmkhaaDoorPl
import Derived.Lib.SmallJoins
import Derived.Test.YtjdhadpfhnmkhaaDoorZa
import Derived.Test.YtjdhadpfhnmkhaaDoorZb
import Derived.SizedLaws
import Derived.ChangeSlices
import Derived.Test.YtjdhadpfhnmkhaaDoorKo
import Derived.Test.YtjdhadpfhnmkhaaDoorTie
import Derived.Test.YtjdhadpfhnmkhaaDoorCards
import Derived.SevenTiedAt
import Derived.Carry
namespace Go.Proofs.YtjdhadpfhnmkhaaDoor
open Go.ChangeShapes Go.WideShapes Go.ChangeAt Go.RowKit Go.Joins

theorem i64_bd {n : Int} (h : (Lit.int .i64 n).wf = true) : -9223372036854775808 ≤ n ∧ n ≤ 9223372036854775807 := by
  simpa [Lit.wf, IntKind.min, IntKind.max, IntKind.signed, IntKind.bits] using h
theorem u64_bd {n : Int} (h : (Lit.int .u64 n).wf = true) : 0 ≤ n ∧ n ≤ 18446744073709551615 := by
  simpa [Lit.wf, IntKind.min, IntKind.max, IntKind.signed, IntKind.bits] using h
theorem cParts : Tryd.prog.cellsOf 59 = 3 := by kernel_rfl

theorem open_parts {H : Type} {enc : TypeId × Value → H} {w : World} {base : Nat} {spare : Nat → Bool} {held : Bool} {r : Reach} {b0 : Nat} {v : Value} {d : DataW H} {p : List MemPlace}
    (hv : Value.okWide Tryd.prog w r b0 59 v) (h : DataW.Trod enc Tryd.prog w base spare held 59 v d p) :
    ∃ (n : Bool) (f : Nat) (e : Int), (Lit.int .u64 (f : Int)).wf = true ∧ (Lit.int .i64 e).wf = true ∧ v = .agg #[.bool n, .int .u64 f, .int .i64 e] ∧ d = .agg [.lit (.bool n), .lit (.int .u64 f), .lit (.int .i64 e)] ∧ p = [] := by
  obtain ⟨v0, v1, v2, y0, y1, y2, k, rfl, rfl, rfl, h0, h1, h2⟩ := open_agg3 Tryd.underlying59 (by kernel_rfl) cParts hv h
  obtain ⟨n, e0, rfl⟩ := DataW.trod_bool Tryd.underlying4 h0
  obtain ⟨f, e1, rfl, wf⟩ := DataW.trod_int Tryd.underlying49 h1
  obtain ⟨e, e2, rfl, we⟩ := DataW.trod_int Tryd.underlying3 h2
  simp at e0 e1 e2
  subst e0 e1 e2
  obtain ⟨g, rfl⟩ := Int.eq_ofNat_of_zero_le (u64_bd wf).1
  exact ⟨n, g, e, wf, we, rfl, rfl, rfl⟩

theorem shut_parts {H : Type} {enc : TypeId × Value → H} {w : World} {base : Nat} {spare : Nat → Bool} {held : Bool} (n : Bool) {f e : Int} (wf : (Lit.int .u64 f).wf = true) (we : (Lit.int .i64 e).wf = true) :
    DataW.Trod enc Tryd.prog w base spare held 59 (.agg #[.bool n, .int .u64 f, .int .i64 e]) (.agg [.lit (.bool n), .lit (.int .u64 f), .lit (.int .i64 e)]) [] :=
  shut_agg3 (y0 := (.lit (.bool n), [])) (y1 := (.lit (.int .u64 f), [])) (y2 := (.lit (.int .i64 e), [])) Tryd.underlying59 (by kernel_rfl) cParts ⟨1, by simp [DataW.trod, Tryd.underlying4]⟩ ⟨1, by simp [DataW.trod, Tryd.underlying49, wf]⟩ ⟨1, by simp [DataW.trod, Tryd.underlying3, we]⟩
end Go.Proofs.YtjdhadpfhnmkhaaDoor

namespace Go.Proofs.YtjdhadpfhnmkhaaDoor
open Go.ChangeShapes Go.WideShapes Go.ChangeAt Go.RowKit Go.Joins

theorem cDyad : Tryd.prog.cellsOf 24 = 3 := by kernel_rfl
theorem cell_spot {w : World} {a : Addr} {v : Value} (h : w.cell? a = some v) : a = ⟨a.block, a.off, none⟩ := by
  obtain ⟨b, o, s⟩ := a
  cases s with
  | none => rfl
  | some k =>
    unfold World.cell? at h
    split at h
    · simp at h
    · cases h

theorem open_dyad {H : Type} {enc : TypeId × Value → H} {w : World} {base : Nat} {spare : Nat → Bool} {held : Bool} {r : Reach} {b0 : Nat} {v : Value} {d : DataW H} {p : List MemPlace}
    (hv : Value.okWide Tryd.prog w r b0 24 v) (h : DataW.Trod enc Tryd.prog w base spare held 24 v d p) :
    ∃ (D : Dy) (ao : Option Addr) (cap : Nat), v = .agg #[.bool D.neg, .slice ao D.mag.length cap, .int .i64 D.exp] ∧ LRow w ao D.mag ∧ Lm D.mag ∧ (ao = none → cap = 0 ∧ D.mag.length = 0) ∧
      ((d.weights Tryd.prog 24).all (· ≤ reachBytes) = true → D.mag.length ≤ 17592186044416) := by
  obtain ⟨v0, v1, v2, y0, y1, y2, k, rfl, rfl, rfl, h0, h1, h2⟩ := open_agg3 Tryd.underlying24 (by kernel_rfl) cDyad hv h
  obtain ⟨n, e0, rfl⟩ := DataW.trod_bool Tryd.underlying4 h0
  obtain ⟨e, e2, rfl, we⟩ := DataW.trod_int Tryd.underlying3 h2
  simp at e0 e2
  subst e0 e2
  rcases open_ints Tryd.underlying22 Tryd.underlying49 (by kernel_rfl) h1 with ⟨e1, rfl⟩ | ⟨a, len, cap, zs, e1, _, hl, _, hz, rfl, hc, hw⟩
  · simp at e1
    subst e1
    exact ⟨⟨n, [], e⟩, none, 0, rfl, Or.inl rfl, fun x hx => by simp at hx, fun _ => ⟨rfl, rfl⟩, fun _ => by simp⟩
  · simp at e1
    subst e1
    have hzl : len ≤ zs.length := by rw [hz]; split <;> omega
    have hlen : ((zs.take len).map Int.toNat).length = len := by simp; omega
    refine ⟨⟨n, (zs.take len).map Int.toNat, e⟩, some a, cap, by rw [hlen], ?_, ?_, fun h => (by cases h), ?_⟩
    · rcases Nat.eq_zero_or_pos len with h0 | h0
      · exact Or.inl (hlen.trans h0)
      · have ha : a = ⟨a.block, a.off, none⟩ := by
          have h := cell_spot (hc 0 (by omega))
          simpa [Addr.add] using h
        refine Or.inr ⟨a.block, a.off, congrArg some ha, fun j hj => ?_⟩
        have hj' : j < len := by rw [← hlen]; exact hj
        have hadd : a.add j = ⟨a.block, a.off + j, none⟩ := by
          unfold Addr.add
          split
          · subst j; exact ha
          · rfl
        have hcj := hc j (by omega)
        rw [hadd] at hcj
        rw [hcj]
        have hzj : zs.getD j 0 ∈ zs := by rw [List.getD_eq_getElem?_getD, List.getElem?_eq_getElem (show j < zs.length by omega)]; exact List.getElem_mem _
        have hpos := (u64_bd (hw _ hzj)).1
        have hget : ((zs.take len).map Int.toNat).getD j 0 = (zs.getD j 0).toNat := by
          rw [List.getD_eq_getElem?_getD, List.getD_eq_getElem?_getD, List.getElem?_map, List.getElem?_take_of_lt hj', List.getElem?_eq_getElem (show j < zs.length by omega)]; rfl
        show some (Value.int .u64 (zs.getD j 0)) = some (Value.int .u64 ((((zs.take len).map Int.toNat).getD j 0 : Nat) : Int))
        rw [hget, Int.toNat_of_nonneg hpos]
    · intro x hx
      obtain ⟨y, hy, rfl⟩ := List.mem_map.1 hx
      have := u64_bd (hw y (List.mem_of_mem_take hy))
      omega
    · intro hh
      have hb : Tryd.prog.bytesOf 49 = 8 := by kernel_rfl
      simp [DataW.weights, DataW.weightsEach, Tryd.underlying24, Tryd.underlying22, lits, hb, reachBytes] at hh
      show ((zs.take len).map Int.toNat).length ≤ _
      have h8 := of_decide_eq_true hh.1
      rw [Nat.min_eq_left hzl] at h8
      rw [hlen]
      omega
end Go.Proofs.YtjdhadpfhnmkhaaDoor

namespace Go.Proofs.YtjdhadpfhnmkhaaDoor
open Go.ChangeShapes Go.WideShapes Go.ChangeAt Go.RowKit

set_option maxRecDepth 100000 in
theorem dyadOrders_lifted (os : Os) (started : os.Started) (H : Type) (enc : TypeId × Value → H) :
    ReturnsInHanded {} Tryd.checked os 4 .any (fun w args => (Rows.dyadOrdersSpec.pre enc Tryd.prog Tryd.f4 [] false w args ∧ laidMetH Tryd.prog laidTab w) ∧ sizedMet enc Tryd.prog Tryd.f4 (OpenSpec.ofChange Rows.dyadOrdersSpec) false w args)
      (Rows.dyadOrdersSpec.post enc Tryd.prog Tryd.f4 false true false false) := by
  refine returnsInHanded_of_change_and (C := Tryd.checked) (X := fun w _ => laidMetH Tryd.prog laidTab w) (fun _ _ _ hh h => h.of_heap hh) Tryd.own started (by kernel_rfl) Tryd.func4
    (ChangeSpec.witness_shaped (enc := enc) (C := Tryd.checked) (os := os) (X := fun w _ => laidMetH Tryd.prog laidTab w) false (World.doorLaid Tryd.prog 400 os) #[(.agg #[.bool false, .slice none 0 0, .int .i64 0]), (.agg #[.bool false, .slice none 0 0, .int .i64 0]), (.agg #[.bool false, .slice none 0 0, .int .i64 0])] 8 rfl (World.shaped_of_RefB (by kernel_rfl) (by kernel_rfl)) (by kernel_rfl) (by kernel_rfl) (by kernel_rfl) (door_met os _)) ?_
  intro W base args ds gs before hval0 hW hx1 hx2 hL hS
  have hval : ∀ (j : Nat) t v, Tryd.f4.params[j]? = some t → args[j]? = some v → Value.okWide Tryd.prog W .any base t v := hval0
  have hW' := hW
  obtain ⟨p, q, hA0, hV, rfl, hfz, hnd⟩ := hW
  have hA : DataW.TrodAll enc Tryd.prog W 0 (fun _ => true) true Tryd.f4.params.toList args.toList ds p := hA0
  rw [Tryd.params4] at hA hval
  have hlt := DataW.TrodAll.lt hA
  obtain ⟨v0, v1, v2, d0, d1, d2, p0, p1, p2, rfl, rfl, rfl, h0, h1, h2⟩ := trodAll_three hA
  obtain ⟨rfl, rfl⟩ := trodVars_none hV
  obtain ⟨A, ao, ac, rfl, ra, la, sa, na⟩ := open_dyad (hval 0 24 v0 rfl rfl) h0
  obtain ⟨B, bo, bc, rfl, rb, lb, sb, nb⟩ := open_dyad (hval 1 24 v1 rfl rfl) h1
  obtain ⟨C, co, cc, rfl, rc, lc, sc, nc⟩ := open_dyad (hval 2 24 v2 rfl rfl) h2
  clear hA0 hval0
  simp only [List.append_nil] at hW'
  have n0 := na (List.all_eq_true.2 fun n hn => List.all_eq_true.1 hx2 n (DataW.weights_mem_each (j := 0) (t := 24) (by kernel_rfl) rfl n hn))
  have n1 := nb (List.all_eq_true.2 fun n hn => List.all_eq_true.1 hx2 n (DataW.weights_mem_each (j := 1) (t := 24) (by kernel_rfl) rfl n hn))
  have n2 := nc (List.all_eq_true.2 fun n hn => List.all_eq_true.1 hx2 n (DataW.weights_mem_each (j := 2) (t := 24) (by kernel_rfl) rfl n hn))
  have e1 : Rows.dyadOrdersSpec.fn H ([d0, d1, d2] ++ []) = { results := [.lit (.bool true)], args := [d0, d1, d2] } := rfl
  refine (order_law A B C ao bo co ac bc cc W ra rb rc la lb lc sa sb sc n0 n1 n2 (tab_of_laid hL)).mono fun e W' ⟨he, hw⟩ => ?_
  subst he
  have hc : ∀ {v d p}, DataW.Trod enc Tryd.prog W 0 (fun _ => true) true 24 v d p → (∀ x ∈ p, x.block < W.heap.size) → DataW.Trod enc Tryd.prog W' 0 (fun b => decide (b < W.heap.size)) true 24 v d p := fun h hl => Below.trod (show laidOutB Tryd.prog = true by kernel_rfl) (by kernel_rfl) (of_decide_eq_true (by kernel_rfl)) h hw hl
  refine ⟨_, rfl, _, _, _, [], p0 ++ (p1 ++ p2), [], hW', ?_, ?_, ?_, hw.frame _, fun h => by cases h⟩
  · rw [e1]; exact trodAll_mk1 (shut_bool Tryd.underlying4 true)
  · rw [e1]; exact trodAll_mk3 (hc h0 fun x hx => hlt x (by simp [hx])) (hc h1 fun x hx => hlt x (by simp [hx])) (hc h2 fun x hx => hlt x (by simp [hx]))
  · rw [e1]; rfl

theorem dyadOrders_holds : Rows.DyadOrdersSaid :=
  OpenClaim.holds_of_wide 4 Tryd.f4 rfl rfl rfl rfl rfl rfl rfl ⟨rfl, rfl, rfl, rfl, rfl⟩ rfl rfl rfl rfl rfl (by kernel_rfl) Tryd.func4 (by kernel_rfl)
    (of_decide_eq_true (by kernel_rfl)) (by unfold Func.isWrapper; rw [if_neg (of_decide_eq_false (by kernel_rfl))]; exact ⟨rfl, rfl⟩)
    (fun os started H enc _ => dyadOrders_lifted os started H enc)

theorem dyadOrders_card_holds : Rows.DyadOrdersCardSaid :=
  Claim7.holds_tied_plain_at .later [] [.data] true Rows.dyadOrdersCard.stood.harness false
    dyadOrders_holds (fun _ h => by cases h) (by kernel_rfl) (fun _ h => by cases h) dyadOrders_row_tie rfl ⟨rfl, rfl⟩ (by kernel_rfl) rfl
    (fun f fn hf hfn => by
      obtain rfl : f = 4 := Option.some.inj ((show Tryd.prog.funcNamed "girder/girderlaw02.DyadOrders" = some 4 by kernel_rfl).symm.trans hf) |>.symm
      obtain rfl : fn = Tryd.f4 := (Option.some.inj (Tryd.func4.symm.trans hfn)).symm
      exact ⟨by kernel_rfl, fun j t ht => by
        rw [Tryd.params4] at ht
        have hm : t ∈ [24, 24, 24] := by simpa using Array.mem_of_getElem? ht
        have hall : ([24, 24, 24].all fun u => !Tryd.prog.wantsStandIn u) = true := by kernel_rfl
        exact (show Tryd.prog.wantsStandIn t = false by simpa using List.all_eq_true.1 hall t hm)⟩)
    (by kernel_rfl)
#print axioms dyadOrders_card_holds
end Go.Proofs.YtjdhadpfhnmkhaaDoor
