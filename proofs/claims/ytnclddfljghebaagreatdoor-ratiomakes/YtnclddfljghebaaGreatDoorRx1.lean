/- The document's Plus, Minus, Times, Over, Compare of fractions. (Written by mkrx1.py.) -/
import Derived.Test.YtnclddfljghebaaGreatDoorRv3
import Derived.Test.YtnclddfljghebaaGreatDoorRtn
import Derived.Test.YtnclddfljghebaaGreatDoorRgU
namespace Go.Proofs.YtnclddfljghebaaGreatDoor
open Go.RowKit

/-- A fraction as a value. -/
def FrP (n : Bool) (N D : Nat) (a : World) (x : Value) : Prop := ∃ ao ac bo bc, x = .agg #[.bool n, .slice ao (lo N).length ac, .slice bo (lo D).length bc] ∧ NS a ao ac (lo N) ∧ NS a bo bc (lo D)
theorem FrP.below {n : Bool} {N D : Nat} {a a' : World} {x : Value} (h : FrP n N D a x) (hb : Below a.heap.size a a') : FrP n N D a' x := by
  obtain ⟨ao, ac, bo, bc, e, u, t⟩ := h
  exact ⟨ao, ac, bo, bc, e, u.below hb, t.below hb⟩
/-- A number as a slice. -/
def NuP (N : Nat) (a : World) (x : Value) : Prop := ∃ ao ac, x = .slice ao (lo N).length ac ∧ NS a ao ac (lo N)
theorem NuP.below {N : Nat} {a a' : World} {x : Value} (h : NuP N a x) (hb : Below a.heap.size a a') : NuP N a' x := by
  obtain ⟨ao, ac, e, u⟩ := h
  exact ⟨ao, ac, e, u.below hb⟩
theorem lo_mul_len {a b : Nat} : (lo (a * b)).length ≤ (lo a).length + (lo b).length := by
  rw [lo_length, lo_length, lo_length]
  refine nl_le ?_
  rw [Nat.mul_add, Nat.pow_add]
  exact Nat.mul_lt_mul'' (nl_fits a) (nl_fits b)
theorem sm_len {n1 n2 : Bool} {N1 D1 N2 D2 : Nat} (l1 : (lo N1).length ≤ 1000) (l2 : (lo D1).length ≤ 1000) (l3 : (lo N2).length ≤ 1000) (l4 : (lo D2).length ≤ 1000) : (lo (smQ n1 n2 (N1 * D2) (N2 * D1)).2).length ≤ 1099511627776 := by
  obtain ⟨K, hK⟩ : ∃ K, K = 2000 := ⟨_, rfl⟩
  have a : (lo (N1 * D2)).length ≤ K := Nat.le_trans lo_mul_len (by omega)
  have b : (lo (N2 * D1)).length ≤ K := Nat.le_trans lo_mul_len (by omega)
  have c : (smQ n1 n2 (N1 * D2) (N2 * D1)).2 ≤ N1 * D2 + N2 * D1 := by unfold smQ; (repeat' split) <;> simp only <;> omega
  refine Nat.le_trans (lo_mono c) ?_
  rw [lo_length] at a b ⊢
  have h1 := nl_fits (N1 * D2)
  have h2 := nl_fits (N2 * D1)
  have h3 : (2 : Nat) ^ (64 * nl (N1 * D2)) ≤ 2 ^ (64 * K) := Nat.pow_le_pow_right (by omega) (by omega)
  have h4 : (2 : Nat) ^ (64 * nl (N2 * D1)) ≤ 2 ^ (64 * K) := Nat.pow_le_pow_right (by omega) (by omega)
  have h5 : (2 : Nat) ^ (64 * K) + 2 ^ (64 * K) = 2 ^ (64 * K + 1) := by rw [Nat.pow_succ]; omega
  have h6 : (2 : Nat) ^ (64 * K + 1) ≤ 2 ^ (64 * (K + 1)) := Nat.pow_le_pow_right (by omega) (by omega)
  have : nl (N1 * D2 + N2 * D1) ≤ K + 1 := nl_le (by omega)
  omega
/-- A product of two numbers of at most 2000 limbs. -/
theorem mul7_any (a b : Nat) (ha : (lo a).length ≤ 2000) (hb : (lo b).length ≤ 2000) (ao bo : Option Addr) (ac bc : Nat) (W : World) (h1 : NS W ao ac (lo a)) (h2 : NS W bo bc (lo b)) :
    Calls Tryz.prog 91 #[.slice ao (lo a).length ac, .slice bo (lo b).length bc] W (GaveN W (lo (a * b))) := by
  have := natMul_any (lo a) (lo b) ao bo ac bc W h1 h2 (lo_lm a) (lo_lm b) (by omega) (by omega)
  rw [vl_lo, vl_lo] at this
  exact this
set_option maxRecDepth 100000 in
set_option maxHeartbeats 4000000 in
theorem times7_any (n1 n2 : Bool) (N1 D1 N2 D2 : Nat) (ao1 bo1 ao2 bo2 : Option Addr) (ac1 bc1 ac2 bc2 : Nat) (w : World) (h1 : NS w ao1 ac1 (lo N1)) (k1 : NS w bo1 bc1 (lo D1)) (h2 : NS w ao2 ac2 (lo N2)) (k2 : NS w bo2 bc2 (lo D2)) (l1 : (lo N1).length ≤ 2000) (l2 : (lo D1).length ≤ 2000) (l3 : (lo N2).length ≤ 2000) (l4 : (lo D2).length ≤ 2000) :
    Calls Tryz.prog 64 #[.agg #[.bool n1, .slice ao1 (lo N1).length ac1, .slice bo1 (lo D1).length bc1], .agg #[.bool n2, .slice ao2 (lo N2).length ac2, .slice bo2 (lo D2).length bc2]] w (GaveFr w (n1 != n2) (N1 * N2) (D1 * D2)) := by
  have hs1 : (w.alloc (.cells #[.bool n1, .slice ao1 (lo N1).length ac1, .slice bo1 (lo D1).length bc1] 59)).heap.size = w.heap.size + 1 := by simp
  have hs2 : ((w.alloc (.cells #[.bool n1, .slice ao1 (lo N1).length ac1, .slice bo1 (lo D1).length bc1] 59)).alloc (.cells #[.bool n2, .slice ao2 (lo N2).length ac2, .slice bo2 (lo D2).length bc2] 59)).heap.size = w.heap.size + 1 + 1 := by simp
  have XB := ((B3q.new w (.bool n1) (.slice ao1 (lo N1).length ac1) (.slice bo1 (lo D1).length bc1) 59).alloc (.cells #[.bool n2, .slice ao2 (lo N2).length ac2, .slice bo2 (lo D2).length bc2] 59)).alloc (.cells #[.bool false, .slice none 0 0, .slice none 0 0] 59)
  have YB := (B3q.new (w.alloc (.cells #[.bool n1, .slice ao1 (lo N1).length ac1, .slice bo1 (lo D1).length bc1] 59)) (.bool n2) (.slice ao2 (lo N2).length ac2) (.slice bo2 (lo D2).length bc2) 59).alloc (.cells #[.bool false, .slice none 0 0, .slice none 0 0] 59)
  rw [hs1] at YB
  have OB := B3q.new ((w.alloc (.cells #[.bool n1, .slice ao1 (lo N1).length ac1, .slice bo1 (lo D1).length bc1] 59)).alloc (.cells #[.bool n2, .slice ao2 (lo N2).length ac2, .slice bo2 (lo D2).length bc2] 59)) (.bool false) (.slice none 0 0) (.slice none 0 0) 59
  rw [hs2] at OB
  have hb0 : Below w.heap.size w (((w.alloc (.cells #[.bool n1, .slice ao1 (lo N1).length ac1, .slice bo1 (lo D1).length bc1] 59)).alloc (.cells #[.bool n2, .slice ao2 (lo N2).length ac2, .slice bo2 (lo D2).length bc2] 59)).alloc (.cells #[.bool false, .slice none 0 0, .slice none 0 0] 59)) := (((Below.refl w.heap.size w).alloc (Nat.le_refl _) _).alloc (by rw [hs1]; omega) _).alloc (by rw [hs2]; omega) _
  have A1 := h1.below hb0
  have B1 := k1.below hb0
  have A2 := h2.below hb0
  have B2 := k2.below hb0
  clear h1 k1 h2 k2 hs1 hs2
  have cN := fun W a b => mul7_any N1 N2 l1 l3 ao1 ao2 ac1 ac2 W a b
  have cD := fun W a b => mul7_any D1 D2 l2 l4 bo1 bo2 bc1 bc2 W a b
  obtain ⟨PN, ePN⟩ : ∃ p, N1 * N2 = p := ⟨_, rfl⟩
  obtain ⟨PD, ePD⟩ : ∃ p, D1 * D2 = p := ⟨_, rfl⟩
  rw [ePN] at cN ⊢
  rw [ePD] at cD ⊢
  clear ePN ePD l1 l2 l3 l4
  obtain ⟨sn, hsn⟩ : ∃ s, (n1 != n2) = s := ⟨_, rfl⟩
  rw [hsn]
  have hsn2 : (!(n1 == n2)) = sn := hsn
  go_enter Tryz.func64, Tryz.ntmps64
  go_upto_region 1 with fail
  generalize ((w.alloc (.cells #[.bool n1, .slice ao1 (lo N1).length ac1, .slice bo1 (lo D1).length bc1] 59)).alloc (.cells #[.bool n2, .slice ao2 (lo N2).length ac2, .slice bo2 (lo D2).length bc2] 59)).alloc (.cells #[.bool false, .slice none 0 0, .slice none 0 0] 59) = W0 at *
  obtain ⟨x0, x1, x2, _, _, _, _, xlt⟩ := id XB
  obtain ⟨y0, y1, y2, _, _, _, _, ylt⟩ := id YB
  obtain ⟨FL, hFL⟩ : ∃ f : Nat → Lz, f = (fun j => match j with | 0 => .is (.pointer (some ⟨w.heap.size, 0, none⟩)) | 1 => .is (.bool n1) | 2 => .is (.pointer (some ⟨(w.heap.size + 1), 0, none⟩)) | 3 => .is (.bool n2) | 4 => .is (.bool sn) | 5 => .is (.pointer (some ⟨w.heap.size, 1, none⟩)) | 6 => .is (.slice ao1 (lo N1).length ac1) | 7 => .is (.pointer (some ⟨(w.heap.size + 1), 1, none⟩)) | 8 => .is (.slice ao2 (lo N2).length ac2) | 9 => .gn (NuP PN) (fun _ _ _ h hb => h.below hb) | 10 => .is (.pointer (some ⟨w.heap.size, 2, none⟩)) | 11 => .is (.slice bo1 (lo D1).length bc1) | 12 => .is (.pointer (some ⟨(w.heap.size + 1), 2, none⟩)) | 13 => .is (.slice bo2 (lo D2).length bc2) | 14 => .gn (NuP PD) (fun _ _ _ h hb => h.below hb) | 15 => .gn (FrP (sn) PN PD) (fun _ _ _ h hb => h.below hb) | 16 => .tr | _ => .tr) := ⟨_, rfl⟩
  have F0 := congrFun hFL 0
  have F1 := congrFun hFL 1
  have F2 := congrFun hFL 2
  have F3 := congrFun hFL 3
  have F4 := congrFun hFL 4
  have F5 := congrFun hFL 5
  have F6 := congrFun hFL 6
  have F7 := congrFun hFL 7
  have F8 := congrFun hFL 8
  have F9 := congrFun hFL 9
  have F10 := congrFun hFL 10
  have F11 := congrFun hFL 11
  have F12 := congrFun hFL 12
  have F13 := congrFun hFL 13
  have F14 := congrFun hFL 14
  have F15 := congrFun hFL 15
  have F16 := congrFun hFL 16
  simp only at F0 F1 F2 F3 F4 F5 F6 F7 F8 F9 F10 F11 F12 F13 F14 F15 F16
  clear hFL
  refine region_rgU (by kernel_rfl) (fun v => ⟨#[Value.agg #[Value.bool n1, Value.slice ao1 (lo N1).length ac1, Value.slice bo1 (lo D1).length bc1], Value.agg #[Value.bool n2, Value.slice ao2 (lo N2).length ac2, Value.slice bo2 (lo D2).length bc2], Value.pointer (some { block := w.heap.size, off := 0 }), Value.pointer (some { block := w.heap.size + 1, off := 0 }), Value.pointer (some { block := w.heap.size + 1 + 1, off := 0 }), v 0, v 1, v 2, v 3, v 4, v 5, v 6, v 7, v 8, v 9, v 10, v 11, v 12, v 13, v 14, v 15], []⟩) 16 (fun j => decide (j ≠ 16)) FL (fun a => ∃ ro rc so sc, B3q a (w.heap.size + 1 + 1) (.bool (sn)) (.slice ro (lo PN).length rc) (.slice so (lo PD).length sc) ∧ LS a ro rc (lo PN) ∧ LS a so sc (lo PD) ∧ Below w.heap.size w a) (fun j => match j with  | _ => undef) rfl ?_ ?_
  · intro L v w' i hL hS hi
    obtain ⟨h1, h2, h3⟩ := mem_ready hi
    have h1 : i < 17 := h1
    try dsimp only
    have hcs : i = 0 ∨ i = 1 ∨ i = 2 ∨ i = 3 ∨ i = 4 ∨ i = 5 ∨ i = 6 ∨ i = 7 ∨ i = 8 ∨ i = 9 ∨ i = 10 ∨ i = 11 ∨ i = 12 ∨ i = 13 ∨ i = 14 ∨ i = 15 ∨ i = 16 := by omega
    clear h1 h2 h3
    rcases hcs with rfl | rfl | rfl | rfl | rfl | rfl | rfl | rfl | rfl | rfl | rfl | rfl | rfl | rfl | rfl | rfl | rfl
    · have hns := hS.open hL hi rfl
      have hB := hS.a hns
      refine wpOpT_of (fun K hK => ?_)
      unfold wpOp
      go_simp
      refine Or.inl ?_
      exact hK _ _ ⟨putT v 0 (.pointer (some ⟨w.heap.size, 0, none⟩)), (by simp [putT]), hS.step hL hi rfl (by decide) (Below.refl _ _) (Lz.toIs F0)⟩
    · have hns := hS.open hL hi rfl
      have hB := hS.a hns
      have e0 := Lz.ofIs (hS.f hns 0 rfl (ready_dep hi 0 (by kernel_rfl))) F0
      have rx0 : w'.cell? ⟨w.heap.size, 0, none⟩ = some _ := (hB.cell (p := ⟨w.heap.size, 0, none⟩) xlt).trans x0
      refine wpOpT_of (fun K hK => ?_)
      unfold wpOp
      simp only [e0]
      go_simp
      refine Or.inl ?_
      exact hK _ _ ⟨putT v 1 (.bool n1), (by simp [putT, e0]), hS.step hL hi rfl (by decide) (Below.refl _ _) (Lz.toIs F1)⟩
    · have hns := hS.open hL hi rfl
      have hB := hS.a hns
      refine wpOpT_of (fun K hK => ?_)
      unfold wpOp
      go_simp
      refine Or.inl ?_
      exact hK _ _ ⟨putT v 2 (.pointer (some ⟨(w.heap.size + 1), 0, none⟩)), (by simp [putT]), hS.step hL hi rfl (by decide) (Below.refl _ _) (Lz.toIs F2)⟩
    · have hns := hS.open hL hi rfl
      have hB := hS.a hns
      have e2 := Lz.ofIs (hS.f hns 2 rfl (ready_dep hi 2 (by kernel_rfl))) F2
      have ry0 : w'.cell? ⟨(w.heap.size + 1), 0, none⟩ = some _ := (hB.cell (p := ⟨(w.heap.size + 1), 0, none⟩) ylt).trans y0
      refine wpOpT_of (fun K hK => ?_)
      unfold wpOp
      simp only [e2]
      go_simp
      refine Or.inl ?_
      exact hK _ _ ⟨putT v 3 (.bool n2), (by simp [putT, e2]), hS.step hL hi rfl (by decide) (Below.refl _ _) (Lz.toIs F3)⟩
    · have hns := hS.open hL hi rfl
      have hB := hS.a hns
      have e1 := Lz.ofIs (hS.f hns 1 rfl (ready_dep hi 1 (by kernel_rfl))) F1
      have e3 := Lz.ofIs (hS.f hns 3 rfl (ready_dep hi 3 (by kernel_rfl))) F3
      refine wpOpT_of (fun K hK => ?_)
      unfold wpOp
      simp only [e1, e3]
      go_simp
      refine Or.inl ?_
      exact hK _ _ ⟨putT v 4 (.bool sn), (by simp [putT, e1, e3]), hS.step hL hi rfl (by decide) (Below.refl _ _) (Lz.toIs F4)⟩
    · have hns := hS.open hL hi rfl
      have hB := hS.a hns
      refine wpOpT_of (fun K hK => ?_)
      unfold wpOp
      go_simp
      refine Or.inl ?_
      exact hK _ _ ⟨putT v 5 (.pointer (some ⟨w.heap.size, 1, none⟩)), (by simp [putT]), hS.step hL hi rfl (by decide) (Below.refl _ _) (Lz.toIs F5)⟩
    · have hns := hS.open hL hi rfl
      have hB := hS.a hns
      have e5 := Lz.ofIs (hS.f hns 5 rfl (ready_dep hi 5 (by kernel_rfl))) F5
      have rx1 : w'.cell? ⟨w.heap.size, 1, none⟩ = some _ := (hB.cell (p := ⟨w.heap.size, 1, none⟩) xlt).trans x1
      refine wpOpT_of (fun K hK => ?_)
      unfold wpOp
      simp only [e5]
      go_simp
      refine Or.inl ?_
      exact hK _ _ ⟨putT v 6 (.slice ao1 (lo N1).length ac1), (by simp [putT, e5]), hS.step hL hi rfl (by decide) (Below.refl _ _) (Lz.toIs F6)⟩
    · have hns := hS.open hL hi rfl
      have hB := hS.a hns
      refine wpOpT_of (fun K hK => ?_)
      unfold wpOp
      go_simp
      refine Or.inl ?_
      exact hK _ _ ⟨putT v 7 (.pointer (some ⟨(w.heap.size + 1), 1, none⟩)), (by simp [putT]), hS.step hL hi rfl (by decide) (Below.refl _ _) (Lz.toIs F7)⟩
    · have hns := hS.open hL hi rfl
      have hB := hS.a hns
      have e7 := Lz.ofIs (hS.f hns 7 rfl (ready_dep hi 7 (by kernel_rfl))) F7
      have ry1 : w'.cell? ⟨(w.heap.size + 1), 1, none⟩ = some _ := (hB.cell (p := ⟨(w.heap.size + 1), 1, none⟩) ylt).trans y1
      refine wpOpT_of (fun K hK => ?_)
      unfold wpOp
      simp only [e7]
      go_simp
      refine Or.inl ?_
      exact hK _ _ ⟨putT v 8 (.slice ao2 (lo N2).length ac2), (by simp [putT, e7]), hS.step hL hi rfl (by decide) (Below.refl _ _) (Lz.toIs F8)⟩
    · have hns := hS.open hL hi rfl
      have hB := hS.a hns
      have e6 := Lz.ofIs (hS.f hns 6 rfl (ready_dep hi 6 (by kernel_rfl))) F6
      have e8 := Lz.ofIs (hS.f hns 8 rfl (ready_dep hi 8 (by kernel_rfl))) F8
      refine wpOpT_of (fun K hK => ?_)
      unfold wpOp
      simp only [e6, e8]
      go_simp
      refine Or.inl ?_
      go_at_call 91
      refine (cN _ (A1.below hB) (A2.below hB)).mono ?_
      rintro e w1 ⟨ro, rc, rfl, kr, _, bc⟩
      exact hK _ _ ⟨putT v 9 (.slice ro (lo PN).length rc), (by simp [putT, e6, e8]), hS.step hL hi rfl (by decide) (bc) (Lz.toGn F9 (⟨_, _, rfl, kr⟩))⟩
    · have hns := hS.open hL hi rfl
      have hB := hS.a hns
      refine wpOpT_of (fun K hK => ?_)
      unfold wpOp
      go_simp
      refine Or.inl ?_
      exact hK _ _ ⟨putT v 10 (.pointer (some ⟨w.heap.size, 2, none⟩)), (by simp [putT]), hS.step hL hi rfl (by decide) (Below.refl _ _) (Lz.toIs F10)⟩
    · have hns := hS.open hL hi rfl
      have hB := hS.a hns
      have e10 := Lz.ofIs (hS.f hns 10 rfl (ready_dep hi 10 (by kernel_rfl))) F10
      have rx2 : w'.cell? ⟨w.heap.size, 2, none⟩ = some _ := (hB.cell (p := ⟨w.heap.size, 2, none⟩) xlt).trans x2
      refine wpOpT_of (fun K hK => ?_)
      unfold wpOp
      simp only [e10]
      go_simp
      refine Or.inl ?_
      exact hK _ _ ⟨putT v 11 (.slice bo1 (lo D1).length bc1), (by simp [putT, e10]), hS.step hL hi rfl (by decide) (Below.refl _ _) (Lz.toIs F11)⟩
    · have hns := hS.open hL hi rfl
      have hB := hS.a hns
      refine wpOpT_of (fun K hK => ?_)
      unfold wpOp
      go_simp
      refine Or.inl ?_
      exact hK _ _ ⟨putT v 12 (.pointer (some ⟨(w.heap.size + 1), 2, none⟩)), (by simp [putT]), hS.step hL hi rfl (by decide) (Below.refl _ _) (Lz.toIs F12)⟩
    · have hns := hS.open hL hi rfl
      have hB := hS.a hns
      have e12 := Lz.ofIs (hS.f hns 12 rfl (ready_dep hi 12 (by kernel_rfl))) F12
      have ry2 : w'.cell? ⟨(w.heap.size + 1), 2, none⟩ = some _ := (hB.cell (p := ⟨(w.heap.size + 1), 2, none⟩) ylt).trans y2
      refine wpOpT_of (fun K hK => ?_)
      unfold wpOp
      simp only [e12]
      go_simp
      refine Or.inl ?_
      exact hK _ _ ⟨putT v 13 (.slice bo2 (lo D2).length bc2), (by simp [putT, e12]), hS.step hL hi rfl (by decide) (Below.refl _ _) (Lz.toIs F13)⟩
    · have hns := hS.open hL hi rfl
      have hB := hS.a hns
      have e11 := Lz.ofIs (hS.f hns 11 rfl (ready_dep hi 11 (by kernel_rfl))) F11
      have e13 := Lz.ofIs (hS.f hns 13 rfl (ready_dep hi 13 (by kernel_rfl))) F13
      refine wpOpT_of (fun K hK => ?_)
      unfold wpOp
      simp only [e11, e13]
      go_simp
      refine Or.inl ?_
      go_at_call 91
      refine (cD _ (B1.below hB) (B2.below hB)).mono ?_
      rintro e w1 ⟨ro, rc, rfl, kr, _, bc⟩
      exact hK _ _ ⟨putT v 14 (.slice ro (lo PD).length rc), (by simp [putT, e11, e13]), hS.step hL hi rfl (by decide) (bc) (Lz.toGn F14 (⟨_, _, rfl, kr⟩))⟩
    · have hns := hS.open hL hi rfl
      have hB := hS.a hns
      have e4 := Lz.ofIs (hS.f hns 4 rfl (ready_dep hi 4 (by kernel_rfl))) F4
      obtain ⟨ao_9, ac_9, e9, u9⟩ := Lz.ofGn (hS.f hns 9 rfl (ready_dep hi 9 (by kernel_rfl))) F9
      obtain ⟨ao_14, ac_14, e14, u14⟩ := Lz.ofGn (hS.f hns 14 rfl (ready_dep hi 14 (by kernel_rfl))) F14
      refine wpOpT_of (fun K hK => ?_)
      unfold wpOp
      simp only [e4, e9, e14]
      go_simp
      refine Or.inl ?_
      exact hK _ _ ⟨putT v 15 (.agg #[.bool (sn), .slice ao_9 (lo PN).length ac_9, .slice ao_14 (lo PD).length ac_14]), (by simp [putT, e4, e9, e14]), hS.step hL hi rfl (by decide) (Below.refl _ _) (Lz.toGn F15 (⟨_, _, _, _, rfl, u9, u14⟩))⟩
    · have hns := fun q => offT_not (by rw [hL]; exact (mem_ready hi).1) (mem_ready hi).2.1 q
      have hB := hS.a hns
      obtain ⟨ao_15, ac_15, bo_15, bc_15, e15, u15, t15⟩ := Lz.ofGn (hS.f hns 15 rfl (ready_dep hi 15 (by kernel_rfl))) F15
      have OB9 := OB.below hB
      obtain ⟨p0, p1, p2, s0, s1, s2, _, _⟩ := id OB9
      have hb9 := hb0.trans (hB.mono hb0.size)
      refine wpOpT_of (fun K hK => ?_)
      unfold wpOp
      simp only [e15]
      go_simp
      refine Or.inl ?_
      exact hK _ _ ⟨putT v 16 undef, (by simp [putT, e15]), hS.last hL hi (by kernel_rfl) (⟨_, _, _, _, OB9.fill _ _ _, (ns_ls u15).threeB OB9 _ _ _, (ns_ls t15).threeB OB9 _ _ _, below_three hb9 (by omega) _ _ _⟩)⟩
  · intro L v w' hL hS hr
    have on := all_done hL hr (by kernel_rfl)
    obtain ⟨ro, rc, so, sc, G, G1, G2, hb8⟩ := hS.z (on 16 (by decide))
    try dsimp only
    clear hS on hr
    obtain ⟨z0, z1, z2, _, _, _, _, _⟩ := id G
    go_wp2
    exact bodyPost_ret (v := .agg #[.bool (sn), .slice ro (lo PN).length rc, .slice so (lo PD).length sc]) (by simp [results, Tryz.results64, go_sem, z0, z1, z2]) rfl ⟨ro, rc, so, sc, rfl, ls_ns G1, ls_ns G2, hb8⟩
set_option maxRecDepth 100000 in
set_option maxHeartbeats 4000000 in
theorem plus7_any (n1 n2 : Bool) (N1 D1 N2 D2 : Nat) (ao1 bo1 ao2 bo2 : Option Addr) (ac1 bc1 ac2 bc2 : Nat) (w : World) (h1 : NS w ao1 ac1 (lo N1)) (k1 : NS w bo1 bc1 (lo D1)) (h2 : NS w ao2 ac2 (lo N2)) (k2 : NS w bo2 bc2 (lo D2)) (l1 : (lo N1).length ≤ 2000) (l2 : (lo D1).length ≤ 2000) (l3 : (lo N2).length ≤ 2000) (l4 : (lo D2).length ≤ 2000) :
    Calls Tryz.prog 61 #[.agg #[.bool n1, .slice ao1 (lo N1).length ac1, .slice bo1 (lo D1).length bc1], .agg #[.bool n2, .slice ao2 (lo N2).length ac2, .slice bo2 (lo D2).length bc2]] w (GaveFr w (smQ n1 n2 (N1 * D2) (N2 * D1)).1 (smQ n1 n2 (N1 * D2) (N2 * D1)).2 (D1 * D2)) := by
  have hs1 : (w.alloc (.cells #[.bool n1, .slice ao1 (lo N1).length ac1, .slice bo1 (lo D1).length bc1] 59)).heap.size = w.heap.size + 1 := by simp
  have hs2 : ((w.alloc (.cells #[.bool n1, .slice ao1 (lo N1).length ac1, .slice bo1 (lo D1).length bc1] 59)).alloc (.cells #[.bool n2, .slice ao2 (lo N2).length ac2, .slice bo2 (lo D2).length bc2] 59)).heap.size = w.heap.size + 1 + 1 := by simp
  have XB := ((B3q.new w (.bool n1) (.slice ao1 (lo N1).length ac1) (.slice bo1 (lo D1).length bc1) 59).alloc (.cells #[.bool n2, .slice ao2 (lo N2).length ac2, .slice bo2 (lo D2).length bc2] 59)).alloc (.cells #[.bool false, .slice none 0 0, .slice none 0 0] 59)
  have YB := (B3q.new (w.alloc (.cells #[.bool n1, .slice ao1 (lo N1).length ac1, .slice bo1 (lo D1).length bc1] 59)) (.bool n2) (.slice ao2 (lo N2).length ac2) (.slice bo2 (lo D2).length bc2) 59).alloc (.cells #[.bool false, .slice none 0 0, .slice none 0 0] 59)
  rw [hs1] at YB
  have OB := B3q.new ((w.alloc (.cells #[.bool n1, .slice ao1 (lo N1).length ac1, .slice bo1 (lo D1).length bc1] 59)).alloc (.cells #[.bool n2, .slice ao2 (lo N2).length ac2, .slice bo2 (lo D2).length bc2] 59)) (.bool false) (.slice none 0 0) (.slice none 0 0) 59
  rw [hs2] at OB
  have hb0 : Below w.heap.size w (((w.alloc (.cells #[.bool n1, .slice ao1 (lo N1).length ac1, .slice bo1 (lo D1).length bc1] 59)).alloc (.cells #[.bool n2, .slice ao2 (lo N2).length ac2, .slice bo2 (lo D2).length bc2] 59)).alloc (.cells #[.bool false, .slice none 0 0, .slice none 0 0] 59)) := (((Below.refl w.heap.size w).alloc (Nat.le_refl _) _).alloc (by rw [hs1]; omega) _).alloc (by rw [hs2]; omega) _
  have A1 := h1.below hb0
  have B1 := k1.below hb0
  have A2 := h2.below hb0
  have B2 := k2.below hb0
  clear h1 k1 h2 k2 hs1 hs2
  have cA := fun W a b => mul7_any N1 D2 l1 l4 ao1 bo2 ac1 bc2 W a b
  have cB := fun W a b => mul7_any N2 D1 l3 l2 ao2 bo1 ac2 bc1 W a b
  have cD := fun W a b => mul7_any D1 D2 l2 l4 bo1 bo2 bc1 bc2 W a b
  have lA : (lo (N1 * D2)).length ≤ 4000 := Nat.le_trans lo_mul_len (by omega)
  have lB : (lo (N2 * D1)).length ≤ 4000 := Nat.le_trans lo_mul_len (by omega)
  obtain ⟨PA, ePA⟩ : ∃ p, N1 * D2 = p := ⟨_, rfl⟩
  obtain ⟨PB, ePB⟩ : ∃ p, N2 * D1 = p := ⟨_, rfl⟩
  obtain ⟨PD, ePD⟩ : ∃ p, D1 * D2 = p := ⟨_, rfl⟩
  rw [ePA] at cA lA ⊢
  rw [ePB] at cB lB ⊢
  rw [ePD] at cD ⊢
  clear ePA ePB ePD l1 l2 l3 l4
  have cP := fun W po pc qo qc (a : NS W po pc (lo PA)) (b : NS W qo qc (lo PB)) => natAdd_any (lo PA) (lo PB) po qo pc qc W a b (lo_lm _) (lo_lm _) (by omega) (by omega)
  have cC := fun W po pc qo qc (a : NS W po pc (lo PA)) (b : NS W qo qc (lo PB)) => natCmp_any (lo PA) (lo PB) po qo pc qc W a b (lo_lm _) (lo_lm _) (by omega) (by omega)
  have cS := fun W po pc qo qc (a : NS W po pc (lo PA)) (b : NS W qo qc (lo PB)) (h : PB ≤ PA) => natSub_any (lo PA) (lo PB) po qo pc qc W a b (lo_lm _) (lo_lm _) (by omega) (by omega) (by rw [vl_lo, vl_lo]; exact h)
  have cT := fun W po pc qo qc (a : NS W po pc (lo PA)) (b : NS W qo qc (lo PB)) (h : PA ≤ PB) => natSub_any (lo PB) (lo PA) qo po qc pc W b a (lo_lm _) (lo_lm _) (by omega) (by omega) (by rw [vl_lo, vl_lo]; exact h)
  simp only [vl_lo] at cP cC cS cT
  have hsm : (n1 = n2 → smQ n1 n2 PA PB = (n1, PA + PB)) ∧ (n1 ≠ n2 → PB ≤ PA → smQ n1 n2 PA PB = (n1, PA - PB)) ∧ (n1 ≠ n2 → PA < PB → smQ n1 n2 PA PB = (n2, PB - PA)) := by
    unfold smQ
    refine ⟨fun h => by rw [if_pos h], fun h k => by rw [if_neg h, if_neg (by omega)], fun h k => by rw [if_neg h, if_pos k]⟩
  obtain ⟨xn, xz, hq⟩ : ∃ a b, smQ n1 n2 PA PB = (a, b) := ⟨_, _, rfl⟩
  rw [hq] at hsm ⊢
  simp only at hsm ⊢
  clear hq lA lB
  go_enter Tryz.func61, Tryz.ntmps61
  go_upto_region 1 with fail
  generalize ((w.alloc (.cells #[.bool n1, .slice ao1 (lo N1).length ac1, .slice bo1 (lo D1).length bc1] 59)).alloc (.cells #[.bool n2, .slice ao2 (lo N2).length ac2, .slice bo2 (lo D2).length bc2] 59)).alloc (.cells #[.bool false, .slice none 0 0, .slice none 0 0] 59) = W0 at *
  obtain ⟨x0, x1, x2, _, _, _, _, xlt⟩ := id XB
  obtain ⟨y0, y1, y2, _, _, _, _, ylt⟩ := id YB
  go_upto_region 4 with (first
    | (go_at_call_of 91 (Value.slice ao1 (lo N1).length ac1); refine (cA _ A1 B2).mono ?_; rintro e w1 ⟨pa, pac, rfl, kA, _, b1⟩; have hb1 := hb0.trans (b1.mono hb0.size); have XB1 := XB.below b1; have YB1 := YB.below b1; have OB1 := OB.below b1; have A21 := A2.below b1; have B11 := B1.below b1; have B21 := B2.below b1; obtain ⟨x0', x1', x2', _, _, _, _, _⟩ := id XB1; obtain ⟨y0', y1', y2', _, _, _, _, _⟩ := id YB1)
    | (go_at_call_of 91 (Value.slice ao2 (lo N2).length ac2); refine (cB _ A21 B11).mono ?_; rintro e w2 ⟨pb, pbc, rfl, kB, _, b2⟩; have hb2 := hb1.trans (b2.mono hb1.size); have XB2 := XB1.below b2; have YB2 := YB1.below b2; have OB2 := OB1.below b2; have B12 := B11.below b2; have B22 := B21.below b2; have kA2 := kA.below b2; obtain ⟨x0'', x1'', x2'', _, _, _, _, _⟩ := id XB2; obtain ⟨y0'', y1'', y2'', _, _, _, _, _⟩ := id YB2)
    | (go_at_call_of 91 (Value.slice bo1 (lo D1).length bc1); refine (cD _ B12 B22).mono ?_; rintro e w3 ⟨pd, pdc, rfl, kD3, _, b3⟩; have hb3 := hb2.trans (b3.mono hb2.size); have XB3 := XB2.below b3; have YB3 := YB2.below b3; have OB3 := OB2.below b3; have kA3 := kA2.below b3; have kB3 := kB.below b3))
  clear x0 x1 x2 y0 y1 y2 x0' x1' x2' y0' y1' y2' x0'' x1'' x2'' y0'' y1'' y2'' XB XB1 XB2 YB YB1 YB2 OB OB1 OB2 A1 A2 B1 B2 A21 B11 B21 B12 B22 kA kA2 kB b1 b2 b3 hb0 hb1 hb2 cA cB cD
  obtain ⟨x0, x1, x2, _, _, _, _, xlt⟩ := id XB3
  obtain ⟨y0, y1, y2, _, _, _, _, ylt⟩ := id YB3
  by_cases hn : n1 = n2
  · have i0 : (n1 == n2) = true := by rw [hn]; exact beq_self_eq_true _
    have e := hsm.1 hn
    simp only [Prod.mk.injEq] at e
    obtain ⟨rfl, rfl⟩ := e
    clear hsm hn cC cS cT
    go_upto_region 5 with fail
    obtain ⟨FL, hFL⟩ : ∃ f : Nat → Lz, f = (fun j => match j with | 0 => .is (.pointer (some ⟨w.heap.size, 0, none⟩)) | 1 => .is (.bool xn) | 2 => .is (.slice pa (lo PA).length pac) | 3 => .is (.slice pb (lo PB).length pbc) | 4 => .gn (NuP (PA + PB)) (fun _ _ _ h hb => h.below hb) | 5 => .is (.slice pd (lo PD).length pdc) | 6 => .gn (FrP (xn) (PA + PB) PD) (fun _ _ _ h hb => h.below hb) | 7 => .tr | _ => .tr) := ⟨_, rfl⟩
    have F0 := congrFun hFL 0
    have F1 := congrFun hFL 1
    have F2 := congrFun hFL 2
    have F3 := congrFun hFL 3
    have F4 := congrFun hFL 4
    have F5 := congrFun hFL 5
    have F6 := congrFun hFL 6
    have F7 := congrFun hFL 7
    simp only at F0 F1 F2 F3 F4 F5 F6 F7
    clear hFL
    refine region_rgU (by kernel_rfl) (fun v => ⟨#[Value.agg #[Value.bool xn, Value.slice ao1 (lo N1).length ac1, Value.slice bo1 (lo D1).length bc1], Value.agg #[Value.bool n2, Value.slice ao2 (lo N2).length ac2, Value.slice bo2 (lo D2).length bc2], Value.pointer (some { block := w.heap.size, off := 0 }), Value.pointer (some { block := w.heap.size + 1, off := 0 }), Value.pointer (some { block := w.heap.size + 1 + 1, off := 0 }), Value.slice pa (lo PA).length pac, Value.slice pb (lo PB).length pbc, Value.slice pd (lo PD).length pdc, Value.pointer (some { block := w.heap.size, off := 1 }), Value.slice ao1 (lo N1).length ac1, Value.pointer (some { block := w.heap.size + 1, off := 2 }), Value.slice bo2 (lo D2).length bc2, Value.slice pa (lo PA).length pac, Value.pointer (some { block := w.heap.size + 1, off := 1 }), Value.slice ao2 (lo N2).length ac2, Value.pointer (some { block := w.heap.size, off := 2 }), Value.slice bo1 (lo D1).length bc1, Value.slice pb (lo PB).length pbc, Value.pointer (some { block := w.heap.size, off := 2 }), Value.slice bo1 (lo D1).length bc1, Value.pointer (some { block := w.heap.size + 1, off := 2 }), Value.slice bo2 (lo D2).length bc2, Value.slice pd (lo PD).length pdc, Value.pointer (some { block := w.heap.size, off := 0 }), Value.bool xn, Value.pointer (some { block := w.heap.size + 1, off := 0 }), Value.bool n2, Value.bool true, v 0, v 1, v 2, v 3, v 4, v 5, v 6, undef, undef, undef, undef, undef, undef, undef, undef, undef, undef, undef, undef, undef, undef, undef, undef, undef, undef], []⟩) 7 (fun j => decide (j ≠ 7)) FL (fun a => ∃ ro rc so sc, B3q a (w.heap.size + 1 + 1) (.bool (xn)) (.slice ro (lo (PA + PB)).length rc) (.slice so (lo PD).length sc) ∧ LS a ro rc (lo (PA + PB)) ∧ LS a so sc (lo PD) ∧ Below w.heap.size w a) (fun j => match j with  | _ => undef) rfl ?_ ?_
    · intro L v w' i hL hS hi
      obtain ⟨h1, h2, h3⟩ := mem_ready hi
      have h1 : i < 8 := h1
      try dsimp only
      have hcs : i = 0 ∨ i = 1 ∨ i = 2 ∨ i = 3 ∨ i = 4 ∨ i = 5 ∨ i = 6 ∨ i = 7 := by omega
      clear h1 h2 h3
      rcases hcs with rfl | rfl | rfl | rfl | rfl | rfl | rfl | rfl
      · have hns := hS.open hL hi rfl
        have hB := hS.a hns
        refine wpOpT_of (fun K hK => ?_)
        unfold wpOp
        go_simp
        refine Or.inl ?_
        exact hK _ _ ⟨putT v 0 (.pointer (some ⟨w.heap.size, 0, none⟩)), (by simp [putT]), hS.step hL hi rfl (by decide) (Below.refl _ _) (Lz.toIs F0)⟩
      · have hns := hS.open hL hi rfl
        have hB := hS.a hns
        have e0 := Lz.ofIs (hS.f hns 0 rfl (ready_dep hi 0 (by kernel_rfl))) F0
        have rx0 : w'.cell? ⟨w.heap.size, 0, none⟩ = some _ := (hB.cell (p := ⟨w.heap.size, 0, none⟩) xlt).trans x0
        refine wpOpT_of (fun K hK => ?_)
        unfold wpOp
        simp only [e0]
        go_simp
        refine Or.inl ?_
        exact hK _ _ ⟨putT v 1 (.bool xn), (by simp [putT, e0]), hS.step hL hi rfl (by decide) (Below.refl _ _) (Lz.toIs F1)⟩
      · have hns := hS.open hL hi rfl
        have hB := hS.a hns
        refine wpOpT_of (fun K hK => ?_)
        unfold wpOp
        go_simp
        refine Or.inl ?_
        exact hK _ _ ⟨putT v 2 (.slice pa (lo PA).length pac), (by simp [putT]), hS.step hL hi rfl (by decide) (Below.refl _ _) (Lz.toIs F2)⟩
      · have hns := hS.open hL hi rfl
        have hB := hS.a hns
        refine wpOpT_of (fun K hK => ?_)
        unfold wpOp
        go_simp
        refine Or.inl ?_
        exact hK _ _ ⟨putT v 3 (.slice pb (lo PB).length pbc), (by simp [putT]), hS.step hL hi rfl (by decide) (Below.refl _ _) (Lz.toIs F3)⟩
      · have hns := hS.open hL hi rfl
        have hB := hS.a hns
        have e2 := Lz.ofIs (hS.f hns 2 rfl (ready_dep hi 2 (by kernel_rfl))) F2
        have e3 := Lz.ofIs (hS.f hns 3 rfl (ready_dep hi 3 (by kernel_rfl))) F3
        refine wpOpT_of (fun K hK => ?_)
        unfold wpOp
        simp only [e2, e3]
        go_simp
        refine Or.inl ?_
        go_at_call 92
        refine (cP _ _ _ _ _ (kA3.below hB) (kB3.below hB)).mono ?_
        rintro e w1 ⟨ro, rc, rfl, kr, _, bc⟩
        exact hK _ _ ⟨putT v 4 (.slice ro (lo (PA + PB)).length rc), (by simp [putT, e2, e3]), hS.step hL hi rfl (by decide) (bc) (Lz.toGn F4 (⟨_, _, rfl, kr⟩))⟩
      · have hns := hS.open hL hi rfl
        have hB := hS.a hns
        refine wpOpT_of (fun K hK => ?_)
        unfold wpOp
        go_simp
        refine Or.inl ?_
        exact hK _ _ ⟨putT v 5 (.slice pd (lo PD).length pdc), (by simp [putT]), hS.step hL hi rfl (by decide) (Below.refl _ _) (Lz.toIs F5)⟩
      · have hns := hS.open hL hi rfl
        have hB := hS.a hns
        have e1 := Lz.ofIs (hS.f hns 1 rfl (ready_dep hi 1 (by kernel_rfl))) F1
        obtain ⟨ao_4, ac_4, e4, u4⟩ := Lz.ofGn (hS.f hns 4 rfl (ready_dep hi 4 (by kernel_rfl))) F4
        have e5 := Lz.ofIs (hS.f hns 5 rfl (ready_dep hi 5 (by kernel_rfl))) F5
        refine wpOpT_of (fun K hK => ?_)
        unfold wpOp
        simp only [e1, e4, e5]
        go_simp
        refine Or.inl ?_
        exact hK _ _ ⟨putT v 6 (.agg #[.bool (xn), .slice ao_4 (lo (PA + PB)).length ac_4, .slice pd (lo PD).length pdc]), (by simp [putT, e1, e4, e5]), hS.step hL hi rfl (by decide) (Below.refl _ _) (Lz.toGn F6 (⟨_, _, _, _, rfl, u4, kD3.below hB⟩))⟩
      · have hns := fun q => offT_not (by rw [hL]; exact (mem_ready hi).1) (mem_ready hi).2.1 q
        have hB := hS.a hns
        obtain ⟨ao_6, ac_6, bo_6, bc_6, e6, u6, t6⟩ := Lz.ofGn (hS.f hns 6 rfl (ready_dep hi 6 (by kernel_rfl))) F6
        have OB9 := OB3.below hB
        obtain ⟨p0, p1, p2, s0, s1, s2, _, _⟩ := id OB9
        have hb9 := hb3.trans (hB.mono hb3.size)
        refine wpOpT_of (fun K hK => ?_)
        unfold wpOp
        simp only [e6]
        go_simp
        refine Or.inl ?_
        exact hK _ _ ⟨putT v 7 undef, (by simp [putT, e6]), hS.last hL hi (by kernel_rfl) (⟨_, _, _, _, OB9.fill _ _ _, (ns_ls u6).threeB OB9 _ _ _, (ns_ls t6).threeB OB9 _ _ _, below_three hb9 (by omega) _ _ _⟩)⟩
    · intro L v w' hL hS hr
      have on := all_done hL hr (by kernel_rfl)
      obtain ⟨ro, rc, so, sc, G, G1, G2, hb8⟩ := hS.z (on 7 (by decide))
      try dsimp only
      clear hS on hr
      obtain ⟨z0, z1, z2, _, _, _, _, _⟩ := id G
      go_wp2
      exact bodyPost_ret (v := .agg #[.bool (xn), .slice ro (lo (PA + PB)).length rc, .slice so (lo PD).length sc]) (by simp [results, Tryz.results61, go_sem, z0, z1, z2]) rfl ⟨ro, rc, so, sc, rfl, ls_ns G1, ls_ns G2, hb8⟩
  · have i0 : (n1 == n2) = false := by rw [beq_eq_false_iff_ne]; exact hn
    by_cases hc : PB ≤ PA
    · have e := hsm.2.1 hn hc
      simp only [Prod.mk.injEq] at e
      obtain ⟨rfl, rfl⟩ := e
      have i1 : (0 : Int) ≤ sgI ((PA : Int) - (PB : Int)) := by unfold sgI; (repeat' split) <;> omega
      have cS' := fun W po pc qo qc a b => cS W po pc qo qc a b hc
      generalize sgI ((PA : Int) - (PB : Int)) = sg at *
      clear hsm hn cP cT cS hc
      go_upto_region 7 with (go_at_call 47; refine (cC _ _ _ _ _ kA3 kB3).mono ?_; rintro e w4 ⟨rfl, b4⟩; have hb4 := hb3.trans (b4.mono hb3.size); have XB4 := XB3.below b4; have YB4 := YB3.below b4; have OB4 := OB3.below b4; have kA4 := kA3.below b4; have kB4 := kB3.below b4; have kD4 := kD3.below b4)
      clear x0 x1 x2 xlt y0 y1 y2 ylt
      obtain ⟨x0, x1, x2, _, _, _, _, xlt⟩ := id XB4
      obtain ⟨FL, hFL⟩ : ∃ f : Nat → Lz, f = (fun j => match j with | 0 => .is (.pointer (some ⟨w.heap.size, 0, none⟩)) | 1 => .is (.bool xn) | 2 => .is (.slice pa (lo PA).length pac) | 3 => .is (.slice pb (lo PB).length pbc) | 4 => .gn (NuP (PA - PB)) (fun _ _ _ h hb => h.below hb) | 5 => .is (.slice pd (lo PD).length pdc) | 6 => .gn (FrP (xn) (PA - PB) PD) (fun _ _ _ h hb => h.below hb) | 7 => .tr | _ => .tr) := ⟨_, rfl⟩
      have F0 := congrFun hFL 0
      have F1 := congrFun hFL 1
      have F2 := congrFun hFL 2
      have F3 := congrFun hFL 3
      have F4 := congrFun hFL 4
      have F5 := congrFun hFL 5
      have F6 := congrFun hFL 6
      have F7 := congrFun hFL 7
      simp only at F0 F1 F2 F3 F4 F5 F6 F7
      clear hFL
      refine region_rgU (by kernel_rfl) (fun v => ⟨#[Value.agg #[Value.bool xn, Value.slice ao1 (lo N1).length ac1, Value.slice bo1 (lo D1).length bc1], Value.agg #[Value.bool n2, Value.slice ao2 (lo N2).length ac2, Value.slice bo2 (lo D2).length bc2], Value.pointer (some { block := w.heap.size, off := 0 }), Value.pointer (some { block := w.heap.size + 1, off := 0 }), Value.pointer (some { block := w.heap.size + 1 + 1, off := 0 }), Value.slice pa (lo PA).length pac, Value.slice pb (lo PB).length pbc, Value.slice pd (lo PD).length pdc, Value.pointer (some { block := w.heap.size, off := 1 }), Value.slice ao1 (lo N1).length ac1, Value.pointer (some { block := w.heap.size + 1, off := 2 }), Value.slice bo2 (lo D2).length bc2, Value.slice pa (lo PA).length pac, Value.pointer (some { block := w.heap.size + 1, off := 1 }), Value.slice ao2 (lo N2).length ac2, Value.pointer (some { block := w.heap.size, off := 2 }), Value.slice bo1 (lo D1).length bc1, Value.slice pb (lo PB).length pbc, Value.pointer (some { block := w.heap.size, off := 2 }), Value.slice bo1 (lo D1).length bc1, Value.pointer (some { block := w.heap.size + 1, off := 2 }), Value.slice bo2 (lo D2).length bc2, Value.slice pd (lo PD).length pdc, Value.pointer (some { block := w.heap.size, off := 0 }), Value.bool xn, Value.pointer (some { block := w.heap.size + 1, off := 0 }), Value.bool n2, Value.bool false, undef, undef, undef, undef, undef, undef, undef, Value.slice pa (lo PA).length pac, Value.slice pb (lo PB).length pbc, Value.int IntKind.i64 sg, Value.bool true, v 0, v 1, v 2, v 3, v 4, v 5, v 6, undef, undef, undef, undef, undef, undef, undef], []⟩) 7 (fun j => decide (j ≠ 7)) FL (fun a => ∃ ro rc so sc, B3q a (w.heap.size + 1 + 1) (.bool (xn)) (.slice ro (lo (PA - PB)).length rc) (.slice so (lo PD).length sc) ∧ LS a ro rc (lo (PA - PB)) ∧ LS a so sc (lo PD) ∧ Below w.heap.size w a) (fun j => match j with  | _ => undef) rfl ?_ ?_
      · intro L v w' i hL hS hi
        obtain ⟨h1, h2, h3⟩ := mem_ready hi
        have h1 : i < 8 := h1
        try dsimp only
        have hcs : i = 0 ∨ i = 1 ∨ i = 2 ∨ i = 3 ∨ i = 4 ∨ i = 5 ∨ i = 6 ∨ i = 7 := by omega
        clear h1 h2 h3
        rcases hcs with rfl | rfl | rfl | rfl | rfl | rfl | rfl | rfl
        · have hns := hS.open hL hi rfl
          have hB := hS.a hns
          refine wpOpT_of (fun K hK => ?_)
          unfold wpOp
          go_simp
          refine Or.inl ?_
          exact hK _ _ ⟨putT v 0 (.pointer (some ⟨w.heap.size, 0, none⟩)), (by simp [putT]), hS.step hL hi rfl (by decide) (Below.refl _ _) (Lz.toIs F0)⟩
        · have hns := hS.open hL hi rfl
          have hB := hS.a hns
          have e0 := Lz.ofIs (hS.f hns 0 rfl (ready_dep hi 0 (by kernel_rfl))) F0
          have rx0 : w'.cell? ⟨w.heap.size, 0, none⟩ = some _ := (hB.cell (p := ⟨w.heap.size, 0, none⟩) xlt).trans x0
          refine wpOpT_of (fun K hK => ?_)
          unfold wpOp
          simp only [e0]
          go_simp
          refine Or.inl ?_
          exact hK _ _ ⟨putT v 1 (.bool xn), (by simp [putT, e0]), hS.step hL hi rfl (by decide) (Below.refl _ _) (Lz.toIs F1)⟩
        · have hns := hS.open hL hi rfl
          have hB := hS.a hns
          refine wpOpT_of (fun K hK => ?_)
          unfold wpOp
          go_simp
          refine Or.inl ?_
          exact hK _ _ ⟨putT v 2 (.slice pa (lo PA).length pac), (by simp [putT]), hS.step hL hi rfl (by decide) (Below.refl _ _) (Lz.toIs F2)⟩
        · have hns := hS.open hL hi rfl
          have hB := hS.a hns
          refine wpOpT_of (fun K hK => ?_)
          unfold wpOp
          go_simp
          refine Or.inl ?_
          exact hK _ _ ⟨putT v 3 (.slice pb (lo PB).length pbc), (by simp [putT]), hS.step hL hi rfl (by decide) (Below.refl _ _) (Lz.toIs F3)⟩
        · have hns := hS.open hL hi rfl
          have hB := hS.a hns
          have e2 := Lz.ofIs (hS.f hns 2 rfl (ready_dep hi 2 (by kernel_rfl))) F2
          have e3 := Lz.ofIs (hS.f hns 3 rfl (ready_dep hi 3 (by kernel_rfl))) F3
          refine wpOpT_of (fun K hK => ?_)
          unfold wpOp
          simp only [e2, e3]
          go_simp
          refine Or.inl ?_
          go_at_call 93
          refine (cS' _ _ _ _ _ (kA4.below hB) (kB4.below hB)).mono ?_
          rintro e w1 ⟨ro, rc, rfl, kr, _, bc⟩
          exact hK _ _ ⟨putT v 4 (.slice ro (lo (PA - PB)).length rc), (by simp [putT, e2, e3]), hS.step hL hi rfl (by decide) (bc) (Lz.toGn F4 (⟨_, _, rfl, kr⟩))⟩
        · have hns := hS.open hL hi rfl
          have hB := hS.a hns
          refine wpOpT_of (fun K hK => ?_)
          unfold wpOp
          go_simp
          refine Or.inl ?_
          exact hK _ _ ⟨putT v 5 (.slice pd (lo PD).length pdc), (by simp [putT]), hS.step hL hi rfl (by decide) (Below.refl _ _) (Lz.toIs F5)⟩
        · have hns := hS.open hL hi rfl
          have hB := hS.a hns
          have e1 := Lz.ofIs (hS.f hns 1 rfl (ready_dep hi 1 (by kernel_rfl))) F1
          obtain ⟨ao_4, ac_4, e4, u4⟩ := Lz.ofGn (hS.f hns 4 rfl (ready_dep hi 4 (by kernel_rfl))) F4
          have e5 := Lz.ofIs (hS.f hns 5 rfl (ready_dep hi 5 (by kernel_rfl))) F5
          refine wpOpT_of (fun K hK => ?_)
          unfold wpOp
          simp only [e1, e4, e5]
          go_simp
          refine Or.inl ?_
          exact hK _ _ ⟨putT v 6 (.agg #[.bool (xn), .slice ao_4 (lo (PA - PB)).length ac_4, .slice pd (lo PD).length pdc]), (by simp [putT, e1, e4, e5]), hS.step hL hi rfl (by decide) (Below.refl _ _) (Lz.toGn F6 (⟨_, _, _, _, rfl, u4, kD4.below hB⟩))⟩
        · have hns := fun q => offT_not (by rw [hL]; exact (mem_ready hi).1) (mem_ready hi).2.1 q
          have hB := hS.a hns
          obtain ⟨ao_6, ac_6, bo_6, bc_6, e6, u6, t6⟩ := Lz.ofGn (hS.f hns 6 rfl (ready_dep hi 6 (by kernel_rfl))) F6
          have OB9 := OB4.below hB
          obtain ⟨p0, p1, p2, s0, s1, s2, _, _⟩ := id OB9
          have hb9 := hb4.trans (hB.mono hb4.size)
          refine wpOpT_of (fun K hK => ?_)
          unfold wpOp
          simp only [e6]
          go_simp
          refine Or.inl ?_
          exact hK _ _ ⟨putT v 7 undef, (by simp [putT, e6]), hS.last hL hi (by kernel_rfl) (⟨_, _, _, _, OB9.fill _ _ _, (ns_ls u6).threeB OB9 _ _ _, (ns_ls t6).threeB OB9 _ _ _, below_three hb9 (by omega) _ _ _⟩)⟩
      · intro L v w' hL hS hr
        have on := all_done hL hr (by kernel_rfl)
        obtain ⟨ro, rc, so, sc, G, G1, G2, hb8⟩ := hS.z (on 7 (by decide))
        try dsimp only
        clear hS on hr
        obtain ⟨z0, z1, z2, _, _, _, _, _⟩ := id G
        go_wp2
        exact bodyPost_ret (v := .agg #[.bool (xn), .slice ro (lo (PA - PB)).length rc, .slice so (lo PD).length sc]) (by simp [results, Tryz.results61, go_sem, z0, z1, z2]) rfl ⟨ro, rc, so, sc, rfl, ls_ns G1, ls_ns G2, hb8⟩
    · have e := hsm.2.2 hn (by omega)
      simp only [Prod.mk.injEq] at e
      obtain ⟨rfl, rfl⟩ := e
      have i1 : ¬ (0 : Int) ≤ sgI ((PA : Int) - (PB : Int)) := by unfold sgI; (repeat' split) <;> omega
      have cT' := fun W po pc qo qc a b => cT W po pc qo qc a b (by omega)
      generalize sgI ((PA : Int) - (PB : Int)) = sg at *
      clear hsm hn cP cS cT hc
      go_upto_region 8 with (go_at_call 47; refine (cC _ _ _ _ _ kA3 kB3).mono ?_; rintro e w4 ⟨rfl, b4⟩; have hb4 := hb3.trans (b4.mono hb3.size); have XB4 := XB3.below b4; have YB4 := YB3.below b4; have OB4 := OB3.below b4; have kA4 := kA3.below b4; have kB4 := kB3.below b4; have kD4 := kD3.below b4)
      clear x0 x1 x2 xlt y0 y1 y2 ylt
      obtain ⟨y0, y1, y2, _, _, _, _, ylt⟩ := id YB4
      obtain ⟨FL, hFL⟩ : ∃ f : Nat → Lz, f = (fun j => match j with | 0 => .is (.pointer (some ⟨(w.heap.size + 1), 0, none⟩)) | 1 => .is (.bool xn) | 2 => .is (.slice pb (lo PB).length pbc) | 3 => .is (.slice pa (lo PA).length pac) | 4 => .gn (NuP (PB - PA)) (fun _ _ _ h hb => h.below hb) | 5 => .is (.slice pd (lo PD).length pdc) | 6 => .gn (FrP (xn) (PB - PA) PD) (fun _ _ _ h hb => h.below hb) | 7 => .tr | _ => .tr) := ⟨_, rfl⟩
      have F0 := congrFun hFL 0
      have F1 := congrFun hFL 1
      have F2 := congrFun hFL 2
      have F3 := congrFun hFL 3
      have F4 := congrFun hFL 4
      have F5 := congrFun hFL 5
      have F6 := congrFun hFL 6
      have F7 := congrFun hFL 7
      simp only at F0 F1 F2 F3 F4 F5 F6 F7
      clear hFL
      refine region_rgU (by kernel_rfl) (fun v => ⟨#[Value.agg #[Value.bool n1, Value.slice ao1 (lo N1).length ac1, Value.slice bo1 (lo D1).length bc1], Value.agg #[Value.bool xn, Value.slice ao2 (lo N2).length ac2, Value.slice bo2 (lo D2).length bc2], Value.pointer (some { block := w.heap.size, off := 0 }), Value.pointer (some { block := w.heap.size + 1, off := 0 }), Value.pointer (some { block := w.heap.size + 1 + 1, off := 0 }), Value.slice pa (lo PA).length pac, Value.slice pb (lo PB).length pbc, Value.slice pd (lo PD).length pdc, Value.pointer (some { block := w.heap.size, off := 1 }), Value.slice ao1 (lo N1).length ac1, Value.pointer (some { block := w.heap.size + 1, off := 2 }), Value.slice bo2 (lo D2).length bc2, Value.slice pa (lo PA).length pac, Value.pointer (some { block := w.heap.size + 1, off := 1 }), Value.slice ao2 (lo N2).length ac2, Value.pointer (some { block := w.heap.size, off := 2 }), Value.slice bo1 (lo D1).length bc1, Value.slice pb (lo PB).length pbc, Value.pointer (some { block := w.heap.size, off := 2 }), Value.slice bo1 (lo D1).length bc1, Value.pointer (some { block := w.heap.size + 1, off := 2 }), Value.slice bo2 (lo D2).length bc2, Value.slice pd (lo PD).length pdc, Value.pointer (some { block := w.heap.size, off := 0 }), Value.bool n1, Value.pointer (some { block := w.heap.size + 1, off := 0 }), Value.bool xn, Value.bool false, undef, undef, undef, undef, undef, undef, undef, Value.slice pa (lo PA).length pac, Value.slice pb (lo PB).length pbc, Value.int IntKind.i64 sg, Value.bool (decide (0 ≤ sg)), undef, undef, undef, undef, undef, undef, undef, v 0, v 1, v 2, v 3, v 4, v 5, v 6], []⟩) 7 (fun j => decide (j ≠ 7)) FL (fun a => ∃ ro rc so sc, B3q a (w.heap.size + 1 + 1) (.bool (xn)) (.slice ro (lo (PB - PA)).length rc) (.slice so (lo PD).length sc) ∧ LS a ro rc (lo (PB - PA)) ∧ LS a so sc (lo PD) ∧ Below w.heap.size w a) (fun j => match j with  | _ => undef) rfl ?_ ?_
      · intro L v w' i hL hS hi
        obtain ⟨h1, h2, h3⟩ := mem_ready hi
        have h1 : i < 8 := h1
        try dsimp only
        have hcs : i = 0 ∨ i = 1 ∨ i = 2 ∨ i = 3 ∨ i = 4 ∨ i = 5 ∨ i = 6 ∨ i = 7 := by omega
        clear h1 h2 h3
        rcases hcs with rfl | rfl | rfl | rfl | rfl | rfl | rfl | rfl
        · have hns := hS.open hL hi rfl
          have hB := hS.a hns
          refine wpOpT_of (fun K hK => ?_)
          unfold wpOp
          go_simp
          refine Or.inl ?_
          exact hK _ _ ⟨putT v 0 (.pointer (some ⟨(w.heap.size + 1), 0, none⟩)), (by simp [putT]), hS.step hL hi rfl (by decide) (Below.refl _ _) (Lz.toIs F0)⟩
        · have hns := hS.open hL hi rfl
          have hB := hS.a hns
          have e0 := Lz.ofIs (hS.f hns 0 rfl (ready_dep hi 0 (by kernel_rfl))) F0
          have ry0 : w'.cell? ⟨(w.heap.size + 1), 0, none⟩ = some _ := (hB.cell (p := ⟨(w.heap.size + 1), 0, none⟩) ylt).trans y0
          refine wpOpT_of (fun K hK => ?_)
          unfold wpOp
          simp only [e0]
          go_simp
          refine Or.inl ?_
          exact hK _ _ ⟨putT v 1 (.bool xn), (by simp [putT, e0]), hS.step hL hi rfl (by decide) (Below.refl _ _) (Lz.toIs F1)⟩
        · have hns := hS.open hL hi rfl
          have hB := hS.a hns
          refine wpOpT_of (fun K hK => ?_)
          unfold wpOp
          go_simp
          refine Or.inl ?_
          exact hK _ _ ⟨putT v 2 (.slice pb (lo PB).length pbc), (by simp [putT]), hS.step hL hi rfl (by decide) (Below.refl _ _) (Lz.toIs F2)⟩
        · have hns := hS.open hL hi rfl
          have hB := hS.a hns
          refine wpOpT_of (fun K hK => ?_)
          unfold wpOp
          go_simp
          refine Or.inl ?_
          exact hK _ _ ⟨putT v 3 (.slice pa (lo PA).length pac), (by simp [putT]), hS.step hL hi rfl (by decide) (Below.refl _ _) (Lz.toIs F3)⟩
        · have hns := hS.open hL hi rfl
          have hB := hS.a hns
          have e2 := Lz.ofIs (hS.f hns 2 rfl (ready_dep hi 2 (by kernel_rfl))) F2
          have e3 := Lz.ofIs (hS.f hns 3 rfl (ready_dep hi 3 (by kernel_rfl))) F3
          refine wpOpT_of (fun K hK => ?_)
          unfold wpOp
          simp only [e2, e3]
          go_simp
          refine Or.inl ?_
          go_at_call 93
          refine (cT' _ _ _ _ _ (kA4.below hB) (kB4.below hB)).mono ?_
          rintro e w1 ⟨ro, rc, rfl, kr, _, bc⟩
          exact hK _ _ ⟨putT v 4 (.slice ro (lo (PB - PA)).length rc), (by simp [putT, e2, e3]), hS.step hL hi rfl (by decide) (bc) (Lz.toGn F4 (⟨_, _, rfl, kr⟩))⟩
        · have hns := hS.open hL hi rfl
          have hB := hS.a hns
          refine wpOpT_of (fun K hK => ?_)
          unfold wpOp
          go_simp
          refine Or.inl ?_
          exact hK _ _ ⟨putT v 5 (.slice pd (lo PD).length pdc), (by simp [putT]), hS.step hL hi rfl (by decide) (Below.refl _ _) (Lz.toIs F5)⟩
        · have hns := hS.open hL hi rfl
          have hB := hS.a hns
          have e1 := Lz.ofIs (hS.f hns 1 rfl (ready_dep hi 1 (by kernel_rfl))) F1
          obtain ⟨ao_4, ac_4, e4, u4⟩ := Lz.ofGn (hS.f hns 4 rfl (ready_dep hi 4 (by kernel_rfl))) F4
          have e5 := Lz.ofIs (hS.f hns 5 rfl (ready_dep hi 5 (by kernel_rfl))) F5
          refine wpOpT_of (fun K hK => ?_)
          unfold wpOp
          simp only [e1, e4, e5]
          go_simp
          refine Or.inl ?_
          exact hK _ _ ⟨putT v 6 (.agg #[.bool (xn), .slice ao_4 (lo (PB - PA)).length ac_4, .slice pd (lo PD).length pdc]), (by simp [putT, e1, e4, e5]), hS.step hL hi rfl (by decide) (Below.refl _ _) (Lz.toGn F6 (⟨_, _, _, _, rfl, u4, kD4.below hB⟩))⟩
        · have hns := fun q => offT_not (by rw [hL]; exact (mem_ready hi).1) (mem_ready hi).2.1 q
          have hB := hS.a hns
          obtain ⟨ao_6, ac_6, bo_6, bc_6, e6, u6, t6⟩ := Lz.ofGn (hS.f hns 6 rfl (ready_dep hi 6 (by kernel_rfl))) F6
          have OB9 := OB4.below hB
          obtain ⟨p0, p1, p2, s0, s1, s2, _, _⟩ := id OB9
          have hb9 := hb4.trans (hB.mono hb4.size)
          refine wpOpT_of (fun K hK => ?_)
          unfold wpOp
          simp only [e6]
          go_simp
          refine Or.inl ?_
          exact hK _ _ ⟨putT v 7 undef, (by simp [putT, e6]), hS.last hL hi (by kernel_rfl) (⟨_, _, _, _, OB9.fill _ _ _, (ns_ls u6).threeB OB9 _ _ _, (ns_ls t6).threeB OB9 _ _ _, below_three hb9 (by omega) _ _ _⟩)⟩
      · intro L v w' hL hS hr
        have on := all_done hL hr (by kernel_rfl)
        obtain ⟨ro, rc, so, sc, G, G1, G2, hb8⟩ := hS.z (on 7 (by decide))
        try dsimp only
        clear hS on hr
        obtain ⟨z0, z1, z2, _, _, _, _, _⟩ := id G
        go_wp2
        exact bodyPost_ret (v := .agg #[.bool (xn), .slice ro (lo (PB - PA)).length rc, .slice so (lo PD).length sc]) (by simp [results, Tryz.results61, go_sem, z0, z1, z2]) rfl ⟨ro, rc, so, sc, rfl, ls_ns G1, ls_ns G2, hb8⟩
set_option maxHeartbeats 400000 in
theorem minus7_any (n : Bool) (N D : Nat) (ao bo : Option Addr) (ac bc : Nat) (w : World) (h1 : NS w ao ac (lo N)) (h2 : NS w bo bc (lo D)) :
    Calls Tryz.prog 62 #[.agg #[.bool n, .slice ao (lo N).length ac, .slice bo (lo D).length bc]] w (GaveFr w (!n) N D) := by
  have XB := (B3q.new w (.bool n) (.slice ao (lo N).length ac) (.slice bo (lo D).length bc) 59).alloc (.cells #[.bool false, .slice none 0 0, .slice none 0 0] 59)
  have OB := B3q.new (w.alloc (.cells #[.bool n, .slice ao (lo N).length ac, .slice bo (lo D).length bc] 59)) (.bool false) (.slice none 0 0) (.slice none 0 0) 59
  have hs1 : (w.alloc (.cells #[.bool n, .slice ao (lo N).length ac, .slice bo (lo D).length bc] 59)).heap.size = w.heap.size + 1 := by simp
  rw [hs1] at OB
  have hb0 : Below w.heap.size w ((w.alloc (.cells #[.bool n, .slice ao (lo N).length ac, .slice bo (lo D).length bc] 59)).alloc (.cells #[.bool false, .slice none 0 0, .slice none 0 0] 59)) := ((Below.refl _ _).alloc (Nat.le_refl _) _).alloc (by rw [hs1]; omega) _
  have A1 := h1.below hb0
  have A2 := h2.below hb0
  clear h1 h2 hs1
  go_enter Tryz.func62, Tryz.ntmps62
  go_upto_region 1 with fail
  generalize (w.alloc (.cells #[.bool n, .slice ao (lo N).length ac, .slice bo (lo D).length bc] 59)).alloc (.cells #[.bool false, .slice none 0 0, .slice none 0 0] 59) = W0 at *
  obtain ⟨x0, x1, x2, _, _, _, _, _⟩ := id XB
  obtain ⟨o0, o1, o2, q0, q1, q2, _, _⟩ := id OB
  go_wp2
  exact bodyPost_ret (v := .agg #[.bool (!n), .slice ao (lo N).length ac, .slice bo (lo D).length bc]) (by simp [results, Tryz.results62, go_sem, o0, o1, o2]) rfl ⟨ao, ac, bo, bc, rfl, ls_ns ((ns_ls A1).threeB OB _ _ _), ls_ns ((ns_ls A2).threeB OB _ _ _), below_three hb0 (by omega) _ _ _⟩
set_option maxRecDepth 100000 in
set_option maxHeartbeats 1000000 in
theorem over7_any (n1 n2 : Bool) (N1 D1 N2 D2 : Nat) (ao1 bo1 ao2 bo2 : Option Addr) (ac1 bc1 ac2 bc2 : Nat) (w : World) (h1 : NS w ao1 ac1 (lo N1)) (k1 : NS w bo1 bc1 (lo D1)) (h2 : NS w ao2 ac2 (lo N2)) (k2 : NS w bo2 bc2 (lo D2)) (l1 : (lo N1).length ≤ 2000) (l2 : (lo D1).length ≤ 2000) (l3 : (lo N2).length ≤ 2000) (l4 : (lo D2).length ≤ 2000) :
    Calls Tryz.prog 65 #[.agg #[.bool n1, .slice ao1 (lo N1).length ac1, .slice bo1 (lo D1).length bc1], .agg #[.bool n2, .slice ao2 (lo N2).length ac2, .slice bo2 (lo D2).length bc2]] w (GaveFr w (n1 != n2) (N1 * D2) (D1 * N2)) := by
  have hs1 : (w.alloc (.cells #[.bool n1, .slice ao1 (lo N1).length ac1, .slice bo1 (lo D1).length bc1] 59)).heap.size = w.heap.size + 1 := by simp
  have hs2 : ((w.alloc (.cells #[.bool n1, .slice ao1 (lo N1).length ac1, .slice bo1 (lo D1).length bc1] 59)).alloc (.cells #[.bool n2, .slice ao2 (lo N2).length ac2, .slice bo2 (lo D2).length bc2] 59)).heap.size = w.heap.size + 1 + 1 := by simp
  have XB := ((B3q.new w (.bool n1) (.slice ao1 (lo N1).length ac1) (.slice bo1 (lo D1).length bc1) 59).alloc (.cells #[.bool n2, .slice ao2 (lo N2).length ac2, .slice bo2 (lo D2).length bc2] 59)).alloc (.cells #[.bool false, .slice none 0 0, .slice none 0 0] 59)
  have YB := (B3q.new (w.alloc (.cells #[.bool n1, .slice ao1 (lo N1).length ac1, .slice bo1 (lo D1).length bc1] 59)) (.bool n2) (.slice ao2 (lo N2).length ac2) (.slice bo2 (lo D2).length bc2) 59).alloc (.cells #[.bool false, .slice none 0 0, .slice none 0 0] 59)
  rw [hs1] at YB
  have OB := B3q.new ((w.alloc (.cells #[.bool n1, .slice ao1 (lo N1).length ac1, .slice bo1 (lo D1).length bc1] 59)).alloc (.cells #[.bool n2, .slice ao2 (lo N2).length ac2, .slice bo2 (lo D2).length bc2] 59)) (.bool false) (.slice none 0 0) (.slice none 0 0) 59
  rw [hs2] at OB
  have hb0 : Below w.heap.size w (((w.alloc (.cells #[.bool n1, .slice ao1 (lo N1).length ac1, .slice bo1 (lo D1).length bc1] 59)).alloc (.cells #[.bool n2, .slice ao2 (lo N2).length ac2, .slice bo2 (lo D2).length bc2] 59)).alloc (.cells #[.bool false, .slice none 0 0, .slice none 0 0] 59)) := (((Below.refl w.heap.size w).alloc (Nat.le_refl _) _).alloc (by rw [hs1]; omega) _).alloc (by rw [hs2]; omega) _
  have A1 := h1.below hb0
  have B1 := k1.below hb0
  have A2 := h2.below hb0
  have B2 := k2.below hb0
  clear h1 k1 h2 k2 hs1 hs2
  have ct := fun W a b c d => times7_any n1 n2 N1 D1 D2 N2 ao1 bo1 bo2 ao2 ac1 bc1 bc2 ac2 W a b c d l1 l2 l4 l3
  clear l1 l2 l3 l4
  go_enter Tryz.func65, Tryz.ntmps65
  go_upto_region 1 with fail
  generalize ((w.alloc (.cells #[.bool n1, .slice ao1 (lo N1).length ac1, .slice bo1 (lo D1).length bc1] 59)).alloc (.cells #[.bool n2, .slice ao2 (lo N2).length ac2, .slice bo2 (lo D2).length bc2] 59)).alloc (.cells #[.bool false, .slice none 0 0, .slice none 0 0] 59) = W0 at *
  obtain ⟨x0, x1, x2, _, _, _, _, xlt⟩ := id XB
  obtain ⟨y0, y1, y2, _, _, _, _, ylt⟩ := id YB
  obtain ⟨o0, o1, o2, q0, q1, q2, _, _⟩ := id OB
  go_wp2_with (go_at_call 64; refine (ct _ A1 B1 B2 A2).mono ?_; rintro e w1 ⟨po, pc, qo, qc, rfl, m1, m2, b1⟩; have hb1 := hb0.trans (b1.mono hb0.size); have OB1 := OB.below b1; obtain ⟨p0, p1, p2, s0, s1, s2, _, _⟩ := id OB1)
  exact bodyPost_ret (v := .agg #[.bool (n1 != n2), .slice po (lo (N1 * D2)).length pc, .slice qo (lo (D1 * N2)).length qc]) (by simp [results, Tryz.results65, go_sem, p0, p1, p2]) rfl ⟨po, pc, qo, qc, rfl, ls_ns ((ns_ls m1).threeB OB1 _ _ _), ls_ns ((ns_ls m2).threeB OB1 _ _ _), below_three hb1 (by omega) _ _ _⟩
set_option maxRecDepth 100000 in
set_option maxHeartbeats 4000000 in
theorem compare7_any (n1 n2 : Bool) (N1 D1 N2 D2 : Nat) (ao1 bo1 ao2 bo2 : Option Addr) (ac1 bc1 ac2 bc2 : Nat) (w : World) (h1 : NS w ao1 ac1 (lo N1)) (k1 : NS w bo1 bc1 (lo D1)) (h2 : NS w ao2 ac2 (lo N2)) (k2 : NS w bo2 bc2 (lo D2)) (l1 : (lo N1).length ≤ 1000) (l2 : (lo D1).length ≤ 1000) (l3 : (lo N2).length ≤ 1000) (l4 : (lo D2).length ≤ 1000) :
    Calls Tryz.prog 70 #[.agg #[.bool n1, .slice ao1 (lo N1).length ac1, .slice bo1 (lo D1).length bc1], .agg #[.bool n2, .slice ao2 (lo N2).length ac2, .slice bo2 (lo D2).length bc2]] w fun e w' => e = .returned (.int .i64 (sgR (smQ n1 (!n2) (N1 * D2) (N2 * D1)).1 (smQ n1 (!n2) (N1 * D2) (N2 * D1)).2)) ∧ Below w.heap.size w w' := by
  have hs1 : (w.alloc (.cells #[.bool n1, .slice ao1 (lo N1).length ac1, .slice bo1 (lo D1).length bc1] 59)).heap.size = w.heap.size + 1 := by simp
  have hs2 : ((w.alloc (.cells #[.bool n1, .slice ao1 (lo N1).length ac1, .slice bo1 (lo D1).length bc1] 59)).alloc (.cells #[.bool n2, .slice ao2 (lo N2).length ac2, .slice bo2 (lo D2).length bc2] 59)).heap.size = w.heap.size + 1 + 1 := by simp
  have XB := (B3q.new w (.bool n1) (.slice ao1 (lo N1).length ac1) (.slice bo1 (lo D1).length bc1) 59).alloc (.cells #[.bool n2, .slice ao2 (lo N2).length ac2, .slice bo2 (lo D2).length bc2] 59)
  have YB := B3q.new (w.alloc (.cells #[.bool n1, .slice ao1 (lo N1).length ac1, .slice bo1 (lo D1).length bc1] 59)) (.bool n2) (.slice ao2 (lo N2).length ac2) (.slice bo2 (lo D2).length bc2) 59
  rw [hs1] at YB
  have hb0 : Below w.heap.size w ((w.alloc (.cells #[.bool n1, .slice ao1 (lo N1).length ac1, .slice bo1 (lo D1).length bc1] 59)).alloc (.cells #[.bool n2, .slice ao2 (lo N2).length ac2, .slice bo2 (lo D2).length bc2] 59)) := ((Below.refl w.heap.size w).alloc (Nat.le_refl _) _).alloc (by rw [hs1]; omega) _
  have A1 := h1.below hb0
  have B1 := k1.below hb0
  have A2 := h2.below hb0
  have B2 := k2.below hb0
  clear h1 k1 h2 k2 hs1 hs2
  have lS : (lo (smQ n1 (!n2) (N1 * D2) (N2 * D1)).2).length ≤ 1099511627776 := sm_len l1 l2 l3 l4
  have cm := fun W a b => minus7_any n2 N2 D2 ao2 bo2 ac2 bc2 W a b
  have cp := fun W po pc qo qc a b (c : NS W po pc (lo N2)) (d : NS W qo qc (lo D2)) => plus7_any n1 (!n2) N1 D1 N2 D2 ao1 bo1 po qo ac1 bc1 pc qc W a b c d (by omega) (by omega) (by omega) (by omega)
  have cs := fun W po pc qo qc dl (a : NS W po pc (lo (smQ n1 (!n2) (N1 * D2) (N2 * D1)).2)) => fsign_any (smQ n1 (!n2) (N1 * D2) (N2 * D1)).1 (smQ n1 (!n2) (N1 * D2) (N2 * D1)).2 po qo pc dl qc W a lS
  clear l1 l2 l3 l4 lS
  obtain ⟨sn, sz, hq⟩ : ∃ a b, smQ n1 (!n2) (N1 * D2) (N2 * D1) = (a, b) := ⟨_, _, rfl⟩
  rw [hq] at cp cs ⊢
  simp only at cp cs ⊢
  clear hq
  generalize D1 * D2 = PD at *
  generalize sgR sn sz = sr at *
  go_enter Tryz.func70, Tryz.ntmps70
  go_upto_region 1 with fail
  generalize (w.alloc (.cells #[.bool n1, .slice ao1 (lo N1).length ac1, .slice bo1 (lo D1).length bc1] 59)).alloc (.cells #[.bool n2, .slice ao2 (lo N2).length ac2, .slice bo2 (lo D2).length bc2] 59) = W0 at *
  obtain ⟨x0, x1, x2, _, _, _, _, xlt⟩ := id XB
  obtain ⟨y0, y1, y2, _, _, _, _, ylt⟩ := id YB
  obtain ⟨FL, hFL⟩ : ∃ f : Nat → Lz, f = (fun j => match j with | 0 => .is (.agg #[.bool n1, .slice ao1 (lo N1).length ac1, .slice bo1 (lo D1).length bc1]) | 1 => .is (.agg #[.bool n2, .slice ao2 (lo N2).length ac2, .slice bo2 (lo D2).length bc2]) | 2 => .gn (FrP (!n2) N2 D2) (fun _ _ _ h hb => h.below hb) | 3 => .gn (FrP (sn) sz PD) (fun _ _ _ h hb => h.below hb) | 4 => .is (.int .i64 sr) | 5 => .is (.int .i64 sr) | _ => .tr) := ⟨_, rfl⟩
  have F0 := congrFun hFL 0
  have F1 := congrFun hFL 1
  have F2 := congrFun hFL 2
  have F3 := congrFun hFL 3
  have F4 := congrFun hFL 4
  have F5 := congrFun hFL 5
  simp only at F0 F1 F2 F3 F4 F5
  clear hFL
  refine region_rgU (by kernel_rfl) (fun v => ⟨#[Value.agg #[Value.bool n1, Value.slice ao1 (lo N1).length ac1, Value.slice bo1 (lo D1).length bc1], Value.agg #[Value.bool n2, Value.slice ao2 (lo N2).length ac2, Value.slice bo2 (lo D2).length bc2], Value.pointer (some { block := w.heap.size, off := 0 }), Value.pointer (some { block := w.heap.size + 1, off := 0 }), v 5, v 0, v 1, v 2, v 3, v 4], []⟩) 1006 (fun j => true) FL (fun _ => True) (fun j => match j with | 5 => Value.int IntKind.i64 0 | _ => undef) rfl ?_ ?_
  · intro L v w' i hL hS hi
    obtain ⟨h1, h2, h3⟩ := mem_ready hi
    have h1 : i < 6 := h1
    try dsimp only
    have hcs : i = 0 ∨ i = 1 ∨ i = 2 ∨ i = 3 ∨ i = 4 ∨ i = 5 := by omega
    clear h1 h2 h3
    rcases hcs with rfl | rfl | rfl | rfl | rfl | rfl
    · have hns := hS.open hL hi rfl
      have hB := hS.a hns
      have rx0 : w'.cell? ⟨w.heap.size, 0, none⟩ = some _ := (hB.cell (p := ⟨w.heap.size, 0, none⟩) xlt).trans x0
      have rx1 : w'.cell? ⟨w.heap.size, 1, none⟩ = some _ := (hB.cell (p := ⟨w.heap.size, 1, none⟩) xlt).trans x1
      have rx2 : w'.cell? ⟨w.heap.size, 2, none⟩ = some _ := (hB.cell (p := ⟨w.heap.size, 2, none⟩) xlt).trans x2
      refine wpOpT_of (fun K hK => ?_)
      unfold wpOp
      go_simp
      refine Or.inl ?_
      exact hK _ _ ⟨putT v 0 (.agg #[.bool n1, .slice ao1 (lo N1).length ac1, .slice bo1 (lo D1).length bc1]), (by simp [putT]), hS.step hL hi rfl (by decide) (Below.refl _ _) (Lz.toIs F0)⟩
    · have hns := hS.open hL hi rfl
      have hB := hS.a hns
      have ry0 : w'.cell? ⟨(w.heap.size + 1), 0, none⟩ = some _ := (hB.cell (p := ⟨(w.heap.size + 1), 0, none⟩) ylt).trans y0
      have ry1 : w'.cell? ⟨(w.heap.size + 1), 1, none⟩ = some _ := (hB.cell (p := ⟨(w.heap.size + 1), 1, none⟩) ylt).trans y1
      have ry2 : w'.cell? ⟨(w.heap.size + 1), 2, none⟩ = some _ := (hB.cell (p := ⟨(w.heap.size + 1), 2, none⟩) ylt).trans y2
      refine wpOpT_of (fun K hK => ?_)
      unfold wpOp
      go_simp
      refine Or.inl ?_
      exact hK _ _ ⟨putT v 1 (.agg #[.bool n2, .slice ao2 (lo N2).length ac2, .slice bo2 (lo D2).length bc2]), (by simp [putT]), hS.step hL hi rfl (by decide) (Below.refl _ _) (Lz.toIs F1)⟩
    · have hns := hS.open hL hi rfl
      have hB := hS.a hns
      have e1 := Lz.ofIs (hS.f hns 1 rfl (ready_dep hi 1 (by kernel_rfl))) F1
      refine wpOpT_of (fun K hK => ?_)
      unfold wpOp
      simp only [e1]
      go_simp
      refine Or.inl ?_
      go_at_call 62
      refine (cm _ (A2.below hB) (B2.below hB)).mono ?_
      rintro e w1 ⟨po, pc, qo, qc, rfl, m1, m2, bc⟩
      exact hK _ _ ⟨putT v 2 (.agg #[.bool (!n2), .slice po (lo N2).length pc, .slice qo (lo D2).length qc]), (by simp [putT, e1]), hS.step hL hi rfl (by decide) (bc) (Lz.toGn F2 (⟨_, _, _, _, rfl, m1, m2⟩))⟩
    · have hns := hS.open hL hi rfl
      have hB := hS.a hns
      have e0 := Lz.ofIs (hS.f hns 0 rfl (ready_dep hi 0 (by kernel_rfl))) F0
      obtain ⟨ao_2, ac_2, bo_2, bc_2, e2, u2, t2⟩ := Lz.ofGn (hS.f hns 2 rfl (ready_dep hi 2 (by kernel_rfl))) F2
      refine wpOpT_of (fun K hK => ?_)
      unfold wpOp
      simp only [e0, e2]
      go_simp
      refine Or.inl ?_
      go_at_call 61
      refine (cp _ _ _ _ _ (A1.below hB) (B1.below hB) u2 t2).mono ?_
      rintro e w1 ⟨po, pc, qo, qc, rfl, m1, m2, bc⟩
      exact hK _ _ ⟨putT v 3 (.agg #[.bool (sn), .slice po (lo sz).length pc, .slice qo (lo PD).length qc]), (by simp [putT, e0, e2]), hS.step hL hi rfl (by decide) (bc) (Lz.toGn F3 (⟨_, _, _, _, rfl, m1, m2⟩))⟩
    · have hns := hS.open hL hi rfl
      have hB := hS.a hns
      obtain ⟨ao_3, ac_3, bo_3, bc_3, e3, u3, t3⟩ := Lz.ofGn (hS.f hns 3 rfl (ready_dep hi 3 (by kernel_rfl))) F3
      refine wpOpT_of (fun K hK => ?_)
      unfold wpOp
      simp only [e3]
      go_simp
      refine Or.inl ?_
      go_at_call 71
      refine (cs _ _ _ _ _ _ u3).mono ?_
      rintro e w1 ⟨rfl, bc⟩
      exact hK _ _ ⟨putT v 4 (.int .i64 sr), (by simp [putT, e3]), hS.step hL hi rfl (by decide) (bc) (Lz.toIs F4)⟩
    · have hns := hS.open hL hi rfl
      have hB := hS.a hns
      have e4 := Lz.ofIs (hS.f hns 4 rfl (ready_dep hi 4 (by kernel_rfl))) F4
      refine wpOpT_of (fun K hK => ?_)
      unfold wpOp
      simp only [e4]
      go_simp
      refine Or.inl ?_
      exact hK _ _ ⟨putT v 5 (.int .i64 sr), (by simp [putT, e4]), hS.step hL hi rfl (by decide) (Below.refl _ _) (Lz.toIs F5)⟩
  · intro L v w' hL hS hr
    have on := all_done hL hr (by kernel_rfl)
    have hns : ¬ On L 1006 := onT_over (by rw [hL]; exact Nat.le_of_ble_eq_true (by kernel_rfl))
    have hB := hS.a hns
    have e5 := Lz.ofIs (hS.f hns 5 rfl (on 5 (by decide))) F5
    try dsimp only
    rw [e5]
    clear hS on hr hns
    have hb8 := hb0.trans (hB.mono hb0.size)
    go_wp2
    go_ret
    exact ⟨rfl, hb8⟩
end Go.Proofs.YtnclddfljghebaaGreatDoor
