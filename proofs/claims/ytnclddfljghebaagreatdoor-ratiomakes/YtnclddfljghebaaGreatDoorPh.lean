/- api.Dyad as an argument: opened into its fields, its limbs a row of cells. -/
import Derived.Test.YtnclddfljghebaaGreatDoorPq
import Derived.Test.YtnclddfljghebaaGreatDoorZa
import Derived.Test.YtnclddfljghebaaGreatDoorZb
import Derived.SizedLaws
import Derived.ChangeSlices
namespace Go.Proofs.YtnclddfljghebaaGreatDoor
open Go.ChangeShapes Go.WideShapes Go.ChangeAt Go.RowKit Go.Joins

set_option maxRecDepth 100000 in
theorem cDyad : Tryz.prog.cellsOf 27 = 3 := by kernel_rfl
theorem cell_spot {w : World} {a : Addr} {v : Value} (h : w.cell? a = some v) : a = ⟨a.block, a.off, none⟩ := by
  obtain ⟨b, o, s⟩ := a
  cases s with
  | none => rfl
  | some k =>
    unfold World.cell? at h
    split at h
    · simp at h
    · cases h

set_option maxRecDepth 100000 in
theorem open_dyad {H : Type} {enc : TypeId × Value → H} {w : World} {base : Nat} {spare : Nat → Bool} {held : Bool} {r : Reach} {b0 : Nat} {v : Value} {d : DataW H} {p : List MemPlace}
    (hv : Value.okWide Tryz.prog w r b0 27 v) (h : DataW.Trod enc Tryz.prog w base spare held 27 v d p) :
    ∃ (D : Dy) (ao : Option Addr) (cap : Nat), v = .agg #[.bool D.neg, .slice ao D.mag.length cap, .int .i64 D.exp] ∧ LRow w ao D.mag ∧ Lm D.mag ∧ (ao = none → cap = 0 ∧ D.mag.length = 0) ∧
      ((d.weights Tryz.prog 27).all (· ≤ reachBytes) = true → D.mag.length ≤ 17592186044416) := by
  obtain ⟨v0, v1, v2, y0, y1, y2, k, rfl, rfl, rfl, h0, h1, h2⟩ := open_agg3 Tryz.underlying27 (by kernel_rfl) cDyad hv h
  obtain ⟨n, e0, rfl⟩ := DataW.trod_bool Tryz.underlying4 h0
  obtain ⟨e, e2, rfl, we⟩ := DataW.trod_int Tryz.underlying3 h2
  simp at e0 e2
  subst e0 e2
  rcases open_ints Tryz.underlying22 Tryz.underlying46 (by kernel_rfl) h1 with ⟨e1, rfl⟩ | ⟨a, len, cap, zs, e1, _, hl, _, hz, rfl, hc, hw⟩
  · simp at e1
    subst e1
    exact ⟨⟨n, [], e⟩, none, 0, rfl, Or.inl rfl, fun x hx => by simp at hx, fun _ => ⟨rfl, rfl⟩, fun _ => by simp⟩
  · simp at e1
    subst e1
    have hzl : len ≤ zs.length := by rw [hz]; split <;> omega
    have hlen : ((zs.take len).map Int.toNat).length = len := by simp; omega
    refine ⟨⟨n, (zs.take len).map Int.toNat, e⟩, some a, cap, by rw [hlen], ?_, ?_, fun h => (by cases h), ?_⟩
    · rcases Nat.eq_zero_or_pos len with h0 | h0
      · exact Or.inl (hlen.trans h0)
      · have ha : a = ⟨a.block, a.off, none⟩ := by
          have h := cell_spot (hc 0 (by omega))
          simpa [Addr.add] using h
        refine Or.inr ⟨a.block, a.off, congrArg some ha, fun j hj => ?_⟩
        have hj' : j < len := by rw [← hlen]; exact hj
        have hadd : a.add j = ⟨a.block, a.off + j, none⟩ := by
          unfold Addr.add
          split
          · subst j; exact ha
          · rfl
        have hcj := hc j (by omega)
        rw [hadd] at hcj
        rw [hcj]
        have hzj : zs.getD j 0 ∈ zs := by rw [List.getD_eq_getElem?_getD, List.getElem?_eq_getElem (show j < zs.length by omega)]; exact List.getElem_mem _
        have hpos := (u64_bd (hw _ hzj)).1
        have hget : ((zs.take len).map Int.toNat).getD j 0 = (zs.getD j 0).toNat := by
          rw [List.getD_eq_getElem?_getD, List.getD_eq_getElem?_getD, List.getElem?_map, List.getElem?_take_of_lt hj', List.getElem?_eq_getElem (show j < zs.length by omega)]; rfl
        show some (Value.int .u64 (zs.getD j 0)) = some (Value.int .u64 ((((zs.take len).map Int.toNat).getD j 0 : Nat) : Int))
        rw [hget, Int.toNat_of_nonneg hpos]
    · intro x hx
      obtain ⟨y, hy, rfl⟩ := List.mem_map.1 hx
      have := u64_bd (hw y (List.mem_of_mem_take hy))
      omega
    · intro hh
      have hb : Tryz.prog.bytesOf 46 = 8 := by kernel_rfl
      simp [DataW.weights, DataW.weightsEach, Tryz.underlying27, Tryz.underlying22, lits, hb, reachBytes] at hh
      show ((zs.take len).map Int.toNat).length ≤ _
      have h8 := of_decide_eq_true hh.1
      rw [Nat.min_eq_left hzl] at h8
      rw [hlen]
      omega
end Go.Proofs.YtnclddfljghebaaGreatDoor
