/- api.Ratio as an argument. -/
import Derived.Test.YtnclddfljghebaaGreatDoorPq
import Derived.Test.YtnclddfljghebaaGreatDoorRtn
import Derived.SizedLaws
import Derived.ChangeSlices
namespace Go.Proofs.YtnclddfljghebaaGreatDoor
open Go.ChangeShapes Go.WideShapes Go.ChangeAt Go.RowKit Go.Joins

set_option maxRecDepth 100000 in
theorem cRatio : Tryz.prog.cellsOf 24 = 3 := by kernel_rfl
theorem cell_spotR {w : World} {a : Addr} {v : Value} (h : w.cell? a = some v) : a = ⟨a.block, a.off, none⟩ := by
  obtain ⟨b, o, s⟩ := a
  cases s with
  | none => rfl
  | some k =>
    unfold World.cell? at h
    split at h
    · simp at h
    · cases h
theorem limbs_row {w : World} {a : Addr} {len : Nat} {zs : List Int} (hzl : len ≤ zs.length) (hc : ∀ i, i < zs.length → w.cell? (a.add i) = some (Value.int IntKind.u64 (zs.getD i 0))) (hw : ∀ n, n ∈ zs → (Lit.int IntKind.u64 n).wf = true) :
    ((zs.take len).map Int.toNat).length = len ∧ LRow w (some a) ((zs.take len).map Int.toNat) ∧ Lm ((zs.take len).map Int.toNat) := by
  have hlen : ((zs.take len).map Int.toNat).length = len := by simp; omega
  refine ⟨hlen, ?_, ?_⟩
  · rcases Nat.eq_zero_or_pos len with h0 | h0
    · exact Or.inl (hlen.trans h0)
    · have ha : a = ⟨a.block, a.off, none⟩ := by
        have h := cell_spotR (hc 0 (by omega))
        simpa [Addr.add] using h
      refine Or.inr ⟨a.block, a.off, congrArg some ha, fun j hj => ?_⟩
      have hj' : j < len := by rw [← hlen]; exact hj
      have hadd : a.add j = ⟨a.block, a.off + j, none⟩ := by
        unfold Addr.add
        split
        · subst j; exact ha
        · rfl
      have hcj := hc j (by omega)
      rw [hadd] at hcj
      rw [hcj]
      have hzj : zs.getD j 0 ∈ zs := by rw [List.getD_eq_getElem?_getD, List.getElem?_eq_getElem (show j < zs.length by omega)]; exact List.getElem_mem _
      have hpos := (u64_bd (hw _ hzj)).1
      have hget : ((zs.take len).map Int.toNat).getD j 0 = (zs.getD j 0).toNat := by
        rw [List.getD_eq_getElem?_getD, List.getD_eq_getElem?_getD, List.getElem?_map, List.getElem?_take_of_lt hj', List.getElem?_eq_getElem (show j < zs.length by omega)]; rfl
      rw [hget, Int.toNat_of_nonneg hpos]
  · intro x hx
    obtain ⟨y, hy, rfl⟩ := List.mem_map.1 hx
    have := u64_bd (hw y (List.mem_of_mem_take hy))
    omega
theorem noLS (w : World) : LS w none 0 [] := ⟨Or.inl rfl, Nat.le_refl _, fun _ => rfl⟩
set_option maxRecDepth 100000 in
theorem open_ratio {H : Type} {enc : TypeId × Value → H} {w : World} {base : Nat} {spare : Nat → Bool} {held : Bool} {r : Reach} {b0 : Nat} {v : Value} {d : DataW H} {p : List MemPlace}
    (hv : Value.okWide Tryz.prog w r b0 24 v) (h : DataW.Trod enc Tryz.prog w base spare held 24 v d p) :
    ∃ (n : Bool) (xs ys : List Nat) (ao bo : Option Addr) (ac bc : Nat), v = .agg #[.bool n, .slice ao xs.length ac, .slice bo ys.length bc] ∧ LS w ao ac xs ∧ LS w bo bc ys ∧ Lm xs ∧ Lm ys ∧
      ((d.weights Tryz.prog 24).all (· ≤ reachBytes) = true → xs.length ≤ 17592186044416 ∧ ys.length ≤ 17592186044416) := by
  obtain ⟨v0, v1, v2, y0, y1, y2, k, rfl, rfl, rfl, h0, h1, h2⟩ := open_agg3 Tryz.underlying24 (by kernel_rfl) cRatio hv h
  obtain ⟨n, e0, rfl⟩ := DataW.trod_bool Tryz.underlying4 h0
  simp at e0
  subst e0
  have hb : Tryz.prog.bytesOf 46 = 8 := by kernel_rfl
  rcases open_ints Tryz.underlying22 Tryz.underlying46 (by kernel_rfl) h1 with ⟨e1, rfl⟩ | ⟨a, len, cap, zs, e1, _, hl, _, hz, rfl, hc, hw⟩ <;> rcases open_ints Tryz.underlying22 Tryz.underlying46 (by kernel_rfl) h2 with ⟨e2, rfl⟩ | ⟨a2, len2, cap2, zs2, e2, _, hl2, _, hz2, rfl, hc2, hw2⟩
  · simp at e1 e2
    subst e1 e2
    exact ⟨n, [], [], none, none, 0, 0, rfl, noLS w, noLS w, fun x hx => by simp at hx, fun x hx => by simp at hx, fun _ => by simp⟩
  · simp at e1 e2
    subst e1 e2
    have hzl2 : len2 ≤ zs2.length := by rw [hz2]; split <;> omega
    obtain ⟨g1, g2, g3⟩ := limbs_row hzl2 hc2 hw2
    refine ⟨n, [], (zs2.take len2).map Int.toNat, none, some a2, 0, cap2, by rw [g1]; rfl, noLS w, ⟨g2, by rw [g1]; exact hl2, fun h => by cases h⟩, fun x hx => by simp at hx, g3, fun hh => ?_⟩
    simp [DataW.weights, DataW.weightsEach, Tryz.underlying24, Tryz.underlying22, lits, hb, reachBytes] at hh
    have h8 := of_decide_eq_true hh.1
    rw [Nat.min_eq_left hzl2] at h8
    rw [g1]
    exact ⟨by simp, by omega⟩
  · simp at e1 e2
    subst e1 e2
    have hzl : len ≤ zs.length := by rw [hz]; split <;> omega
    obtain ⟨g1, g2, g3⟩ := limbs_row hzl hc hw
    refine ⟨n, (zs.take len).map Int.toNat, [], some a, none, cap, 0, by rw [g1]; rfl, ⟨g2, by rw [g1]; exact hl, fun h => by cases h⟩, noLS w, g3, fun x hx => by simp at hx, fun hh => ?_⟩
    simp [DataW.weights, DataW.weightsEach, Tryz.underlying24, Tryz.underlying22, lits, hb, reachBytes] at hh
    have h8 := of_decide_eq_true hh.1
    rw [Nat.min_eq_left hzl] at h8
    rw [g1]
    exact ⟨by omega, by simp⟩
  · simp at e1 e2
    subst e1 e2
    have hzl : len ≤ zs.length := by rw [hz]; split <;> omega
    have hzl2 : len2 ≤ zs2.length := by rw [hz2]; split <;> omega
    obtain ⟨g1, g2, g3⟩ := limbs_row hzl hc hw
    obtain ⟨f1, f2, f3⟩ := limbs_row hzl2 hc2 hw2
    refine ⟨n, (zs.take len).map Int.toNat, (zs2.take len2).map Int.toNat, some a, some a2, cap, cap2, by rw [g1, f1], ⟨g2, by rw [g1]; exact hl, fun h => by cases h⟩, ⟨f2, by rw [f1]; exact hl2, fun h => by cases h⟩, g3, f3, fun hh => ?_⟩
    simp [DataW.weights, DataW.weightsEach, Tryz.underlying24, Tryz.underlying22, lits, hb, reachBytes] at hh
    have h8 := of_decide_eq_true hh.1
    have h9 := of_decide_eq_true hh.2.2.2.1
    rw [Nat.min_eq_left hzl] at h8
    rw [Nat.min_eq_left hzl2] at h9
    rw [g1, f1]
    exact ⟨by omega, by omega⟩
end Go.Proofs.YtnclddfljghebaaGreatDoor
