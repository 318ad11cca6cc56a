/- The document's Float, Num, Of, OfDyad. (Written by mkry1.py.) -/
import Derived.Test.YtnclddfljghebaaGreatDoorRy0
import Derived.Test.YtnclddfljghebaaGreatDoorRgX
import Derived.Test.YtnclddfljghebaaGreatDoorY6
import Derived.Test.YtnclddfljghebaaGreatDoorZr
import Derived.Test.YtnclddfljghebaaGreatDoorFz
namespace Go.Proofs.YtnclddfljghebaaGreatDoor
open Go.RowKit

/-- A box of a number is written that is not a block of these limbs. -/
theorem LS.boxN {w : World} {ao : Option Addr} {cap : Nat} {xs : List Nat} (h : LS w ao cap xs) {g : Nat} {x : Bool} {y0 : Option Addr} {y1 y2 : Nat} {z : Int} (hB : B3q w g (.bool x) (.slice y0 y1 y2) (.int .i64 z)) (a b c : Value) :
    LS (((w.setCell ⟨g, 0, none⟩ a).setCell ⟨g, 1, none⟩ b).setCell ⟨g, 2, none⟩ c) ao cap xs := by
  refine ⟨?_, h.2⟩
  rcases h.1 with e | ⟨q, off, rfl, hc⟩
  · exact Or.inl e
  · by_cases l0 : xs.length = 0
    · exact Or.inl l0
    · have hq : q ≠ g := fun k => by
        subst k
        have cc := hc 0 (by omega)
        rw [Nat.add_zero] at cc
        rcases (show off = 0 ∨ off = 1 ∨ off = 2 ∨ 3 ≤ off by omega) with rfl | rfl | rfl | h2
        · rw [hB.c0] at cc; cases cc
        · rw [hB.c1] at cc; cases cc
        · rw [hB.c2] at cc; cases cc
        · rw [hB.no off h2] at cc; cases cc
      refine Or.inr ⟨q, off, rfl, fun j hj => ?_⟩
      rw [World.cell?_setCell_other _ _ _ _ (fun e => by have := congrArg Addr.block e; simp at this; omega), World.cell?_setCell_other _ _ _ _ (fun e => by have := congrArg Addr.block e; simp at this; omega), World.cell?_setCell_other _ _ _ _ (fun e => by have := congrArg Addr.block e; simp at this; omega)]
      exact hc j hj
theorem B3q.far3n {w : World} {b g : Nat} {x y z : Value} (h : B3q w b x y z) (hn : b ≠ g) (p q r : Value) : B3q (((w.setCell ⟨g, 0, none⟩ p).setCell ⟨g, 1, none⟩ q).setCell ⟨g, 2, none⟩ r) b x y z := ((h.far hn (i := 0) p).far hn (i := 1) q).far hn (i := 2) r
/-- A box for a fraction as a value. -/
def ByP (B : Nat) (a : World) (x : Value) : Prop := ∃ g, x = .pointer (some ⟨g, 0, none⟩) ∧ B3q a g (.bool false) (.slice none 0 0) (.slice none 0 0) ∧ B ≤ g
theorem ByP.below {B : Nat} {a a' : World} {x : Value} (h : ByP B a x) (hb : Below a.heap.size a a') : ByP B a' x := by
  obtain ⟨g, e, u, t⟩ := h
  exact ⟨g, e, u.below hb, t⟩
set_option maxRecDepth 100000 in
set_option maxHeartbeats 2000000 in
theorem nfl7_any (x : Nat) (hx : x < 18446744073709551616) (hf : finB x = true) (w : World) : Calls Tryz.prog 53 #[.float .f64 x] w fun e w' => ∃ ao ac, e = .returned (.agg #[.bool (sgn x), .slice ao (lo (spF x)).length ac, .int .i64 (spE x)]) ∧ NS w' ao ac (lo (spF x)) ∧ Below w.heap.size w w' := by
  have cS := fun W => rsplit_fin x hx hf W
  have bF : spF x < 18446744073709551616 := by
    by_cases h0 : rung x = 0
    · unfold spF; rw [if_pos h0]; omega
    · have := (sp_bd hf h0).2.1; omega
  generalize sgn x = s at *
  generalize spF x = F at *
  generalize spE x = E at *
  have hN := fun W => natOf_any F bF W
  have OB := B3q.new w (.bool false) (.slice none 0 0) (.int .i64 0) 69
  have hb0 : Below w.heap.size w (w.alloc (.cells #[.bool false, .slice none 0 0, .int .i64 0] 69)) := (Below.refl _ _).alloc (Nat.le_refl _) _
  go_enter Tryz.func53, Tryz.ntmps53
  go_upto_region 1 with fail
  generalize w.alloc (.cells #[.bool false, .slice none 0 0, .int .i64 0] 69) = W0 at *
  go_upto_region 2 with (go_at_call 87; refine (cS _).mono ?_; rintro e w1 ⟨rfl, b1⟩)
  have b2 := (Below.refl w1.heap.size w1).alloc (Nat.le_refl _) (.cells #[.bool s, .int .u64 F, .int .i64 E] 89)
  have hb2 := hb0.trans ((b1.trans (b2.mono b1.size)).mono hb0.size)
  have OB2 := (OB.below b1).below b2
  have PB := B3q.new w1 (.bool s) (.int .u64 F) (.int .i64 E) 89
  generalize w1.alloc (.cells #[.bool s, .int .u64 F, .int .i64 E] 89) = W2 at *
  generalize w1.heap.size = g at *
  clear OB hb0 b1 b2 cS
  obtain ⟨x0, x1, x2, _, _, _, _, xlt⟩ := id PB
  obtain ⟨FL, hFL⟩ : ∃ f : Nat → Lz, f = (fun j => match j with | 0 => .is (.pointer (some ⟨g, 0, none⟩)) | 1 => .is (.bool s) | 2 => .is (.pointer (some ⟨g, 1, none⟩)) | 3 => .is (.int .u64 F) | 4 => .gn (NuP F) (fun _ _ _ h hb => h.below hb) | 5 => .is (.pointer (some ⟨g, 2, none⟩)) | 6 => .is (.int .i64 E) | 7 => .gn (fun a x => ∃ ao ac, x = .agg #[.bool s, .slice ao (lo F).length ac, .int .i64 E] ∧ NS a ao ac (lo F)) (fun a a' x h hb => h.elim fun ao h => h.elim fun ac h => ⟨ao, ac, h.1, h.2.below hb⟩) | 8 => .tr | _ => .tr) := ⟨_, rfl⟩
  have F0 := congrFun hFL 0
  have F1 := congrFun hFL 1
  have F2 := congrFun hFL 2
  have F3 := congrFun hFL 3
  have F4 := congrFun hFL 4
  have F5 := congrFun hFL 5
  have F6 := congrFun hFL 6
  have F7 := congrFun hFL 7
  have F8 := congrFun hFL 8
  simp only at F0 F1 F2 F3 F4 F5 F6 F7 F8
  clear hFL
  refine region_rgU (by kernel_rfl) (fun v => ⟨#[Value.float FloatKind.f64 x, undef, Value.pointer (some { block := w.heap.size, off := 0 }), Value.pointer (some { block := g, off := 0 }), Value.bool true, Value.tuple #[Value.agg #[Value.bool s, Value.int IntKind.u64 ↑F, Value.int IntKind.i64 E], Value.bool true], Value.float FloatKind.f64 x, Value.tuple #[Value.agg #[Value.bool s, Value.int IntKind.u64 ↑F, Value.int IntKind.i64 E], Value.bool true], Value.agg #[Value.bool s, Value.int IntKind.u64 ↑F, Value.int IntKind.i64 E], Value.bool true, v 0, v 1, v 2, v 3, v 4, v 5, v 6, v 7], []⟩) 8 (fun j => decide (j ≠ 8)) FL (fun a => ∃ ro rc, B3q a w.heap.size (.bool s) (.slice ro (lo F).length rc) (.int .i64 E) ∧ NS a ro rc (lo F) ∧ Below w.heap.size w a) (fun j => match j with  | _ => undef) rfl ?_ ?_
  · intro L v w' i hL hS hi
    obtain ⟨h1, h2, h3⟩ := mem_ready hi
    have h1 : i < 9 := h1
    try dsimp only
    have hcs : i = 0 ∨ i = 1 ∨ i = 2 ∨ i = 3 ∨ i = 4 ∨ i = 5 ∨ i = 6 ∨ i = 7 ∨ i = 8 := by omega
    clear h1 h2 h3
    rcases hcs with rfl | rfl | rfl | rfl | rfl | rfl | rfl | rfl | rfl
    · have hns := hS.open hL hi rfl
      have hB := hS.a hns
      refine wpOpT_of (fun K hK => ?_)
      unfold wpOp
      go_simp
      refine Or.inl ?_
      exact hK _ _ ⟨putT v 0 (.pointer (some ⟨g, 0, none⟩)), (by simp [putT]), hS.step hL hi rfl (by decide) (Below.refl _ _) (Lz.toIs F0)⟩
    · have hns := hS.open hL hi rfl
      have hB := hS.a hns
      have e0 := Lz.ofIs (hS.f hns 0 rfl (ready_dep hi 0 (by kernel_rfl))) F0
      have rx0 : w'.cell? ⟨g, 0, none⟩ = some _ := (hB.cell (p := ⟨g, 0, none⟩) xlt).trans x0
      refine wpOpT_of (fun K hK => ?_)
      unfold wpOp
      simp only [e0]
      go_simp
      refine Or.inl ?_
      exact hK _ _ ⟨putT v 1 (.bool s), (by simp [putT, e0]), hS.step hL hi rfl (by decide) (Below.refl _ _) (Lz.toIs F1)⟩
    · have hns := hS.open hL hi rfl
      have hB := hS.a hns
      refine wpOpT_of (fun K hK => ?_)
      unfold wpOp
      go_simp
      refine Or.inl ?_
      exact hK _ _ ⟨putT v 2 (.pointer (some ⟨g, 1, none⟩)), (by simp [putT]), hS.step hL hi rfl (by decide) (Below.refl _ _) (Lz.toIs F2)⟩
    · have hns := hS.open hL hi rfl
      have hB := hS.a hns
      have e2 := Lz.ofIs (hS.f hns 2 rfl (ready_dep hi 2 (by kernel_rfl))) F2
      have rx1 : w'.cell? ⟨g, 1, none⟩ = some _ := (hB.cell (p := ⟨g, 1, none⟩) xlt).trans x1
      refine wpOpT_of (fun K hK => ?_)
      unfold wpOp
      simp only [e2]
      go_simp
      refine Or.inl ?_
      exact hK _ _ ⟨putT v 3 (.int .u64 F), (by simp [putT, e2]), hS.step hL hi rfl (by decide) (Below.refl _ _) (Lz.toIs F3)⟩
    · have hns := hS.open hL hi rfl
      have hB := hS.a hns
      have e3 := Lz.ofIs (hS.f hns 3 rfl (ready_dep hi 3 (by kernel_rfl))) F3
      refine wpOpT_of (fun K hK => ?_)
      unfold wpOp
      simp only [e3]
      go_simp
      refine Or.inl ?_
      go_at_call 88
      refine (hN _).mono ?_
      rintro e w1 ⟨ro, rc, rfl, kr, _, bc⟩
      exact hK _ _ ⟨putT v 4 (.slice ro (lo F).length rc), (by simp [putT, e3]), hS.step hL hi rfl (by decide) (bc) (Lz.toGn F4 (⟨_, _, rfl, kr⟩))⟩
    · have hns := hS.open hL hi rfl
      have hB := hS.a hns
      refine wpOpT_of (fun K hK => ?_)
      unfold wpOp
      go_simp
      refine Or.inl ?_
      exact hK _ _ ⟨putT v 5 (.pointer (some ⟨g, 2, none⟩)), (by simp [putT]), hS.step hL hi rfl (by decide) (Below.refl _ _) (Lz.toIs F5)⟩
    · have hns := hS.open hL hi rfl
      have hB := hS.a hns
      have e5 := Lz.ofIs (hS.f hns 5 rfl (ready_dep hi 5 (by kernel_rfl))) F5
      have rx2 : w'.cell? ⟨g, 2, none⟩ = some _ := (hB.cell (p := ⟨g, 2, none⟩) xlt).trans x2
      refine wpOpT_of (fun K hK => ?_)
      unfold wpOp
      simp only [e5]
      go_simp
      refine Or.inl ?_
      exact hK _ _ ⟨putT v 6 (.int .i64 E), (by simp [putT, e5]), hS.step hL hi rfl (by decide) (Below.refl _ _) (Lz.toIs F6)⟩
    · have hns := hS.open hL hi rfl
      have hB := hS.a hns
      have e1 := Lz.ofIs (hS.f hns 1 rfl (ready_dep hi 1 (by kernel_rfl))) F1
      obtain ⟨ao_4, ac_4, e4, u4⟩ := Lz.ofGn (hS.f hns 4 rfl (ready_dep hi 4 (by kernel_rfl))) F4
      have e6 := Lz.ofIs (hS.f hns 6 rfl (ready_dep hi 6 (by kernel_rfl))) F6
      refine wpOpT_of (fun K hK => ?_)
      unfold wpOp
      simp only [e1, e4, e6]
      go_simp
      refine Or.inl ?_
      exact hK _ _ ⟨putT v 7 (.agg #[.bool s, .slice ao_4 (lo F).length ac_4, .int .i64 E]), (by simp [putT, e1, e4, e6]), hS.step hL hi rfl (by decide) (Below.refl _ _) (Lz.toGn F7 (⟨_, _, rfl, u4⟩))⟩
    · have hns := fun q => offT_not (by rw [hL]; exact (mem_ready hi).1) (mem_ready hi).2.1 q
      have hB := hS.a hns
      obtain ⟨ao_7, ac_7, e7, u7⟩ := Lz.ofGn (hS.f hns 7 rfl (ready_dep hi 7 (by kernel_rfl))) F7
      have OB9 := OB2.below hB
      obtain ⟨p0, p1, p2, s0, s1, s2, _, _⟩ := id OB9
      have hb9 := hb2.trans (hB.mono hb2.size)
      refine wpOpT_of (fun K hK => ?_)
      unfold wpOp
      simp only [e7]
      go_simp
      refine Or.inl ?_
      exact hK _ _ ⟨putT v 8 undef, (by simp [putT, e7]), hS.last hL hi (by kernel_rfl) (⟨_, _, OB9.fill _ _ _, ls_ns ((ns_ls u7).boxN OB9 _ _ _), below_three hb9 (Nat.le_refl _) _ _ _⟩)⟩
  · intro L v w' hL hS hr
    have on := all_done hL hr (by kernel_rfl)
    obtain ⟨ro, rc, G, G1, hb8⟩ := hS.z (on 8 (by decide))
    try dsimp only
    clear hS on hr
    obtain ⟨z0, z1, z2, _, _, _, _, _⟩ := id G
    go_wp2
    exact bodyPost_ret (v := .agg #[.bool s, .slice ro (lo F).length rc, .int .i64 E]) (by simp [results, Tryz.results53, go_sem, z0, z1, z2]) rfl ⟨ro, rc, rfl, G1, hb8⟩
set_option maxRecDepth 100000 in
set_option maxHeartbeats 4000000 in
theorem num7_any (n : Bool) (V : Nat) (ex : Int) (ao : Option Addr) (ac : Nat) (w : World) (h : NS w ao ac (lo V)) (l : (lo V).length ≤ 1000) (e1 : -70000 ≤ ex) (e2 : ex ≤ 70000) :
    Calls Tryz.prog 52 #[.agg #[.bool n, .slice ao (lo V).length ac, .int .i64 ex]] w (GaveFr w n (V * 2 ^ ex.toNat) (2 ^ (-ex).toNat)) := by
  have hs1 : (w.alloc (.cells #[.bool n, .slice ao (lo V).length ac, .int .i64 ex] 69)).heap.size = w.heap.size + 1 := by simp
  have XB := (B3q.new w (.bool n) (.slice ao (lo V).length ac) (.int .i64 ex) 69).alloc (.cells #[.bool false, .slice none 0 0, .slice none 0 0] 59)
  have OB := B3q.new (w.alloc (.cells #[.bool n, .slice ao (lo V).length ac, .int .i64 ex] 69)) (.bool false) (.slice none 0 0) (.slice none 0 0) 59
  rw [hs1] at OB
  have hb0 : Below w.heap.size w ((w.alloc (.cells #[.bool n, .slice ao (lo V).length ac, .int .i64 ex] 69)).alloc (.cells #[.bool false, .slice none 0 0, .slice none 0 0] 59)) := ((Below.refl _ _).alloc (Nat.le_refl _) _).alloc (by rw [hs1]; omega) _
  have A1 := h.below hb0
  have ct := fun W (a : NS W ao ac (lo V)) => natTrim_any (lo V) ao ac W a (lo_lm V) (by omega)
  simp only [vl_lo] at ct
  have co := fun W => one7_any W
  have cu := fun W po pc (a : NS W po pc (lo V)) => natUp_any (lo V) po pc ex.toNat W a (lo_lm V) (by omega) (by omega)
  have cv := fun W po pc (a : NS W po pc (lo 1)) => natUp_any (lo 1) po pc (-ex).toNat W a (lo_lm 1) (by rw [lo1]; simp) (by omega)
  simp only [vl_lo, Nat.one_mul] at cu cv
  have HN : Hid (ex < 0 → V * 2 ^ ex.toNat = V) := (show _ → _ from fun k => by rw [show ex.toNat = 0 by omega, Nat.pow_zero, Nat.mul_one])
  have HD : Hid (0 ≤ ex → 2 ^ (-ex).toNat = 1) := (show _ → _ from fun k => by rw [show (-ex).toNat = 0 by omega, Nat.pow_zero])
  generalize V * 2 ^ ex.toNat = VN at *
  generalize 2 ^ (-ex).toNat = VD at *
  have c1 : Hid (0 ≤ ex → ((ex.toNat : Nat) : Int) = ex) := (show _ → _ from fun k => by omega)
  have c2 : Hid (ex < 0 → (((-ex).toNat : Nat) : Int) = -ex) := (show _ → _ from fun k => by omega)
  generalize ex.toNat = kN at *
  generalize (-ex).toNat = kD at *
  have i3 : IntKind.i64.wrap (-ex) = -ex := by rw [IntKind.wrap_i64]; omega
  clear hs1 h l
  go_enter Tryz.func52, Tryz.ntmps52
  go_upto_region 1 with fail
  generalize (w.alloc (.cells #[.bool n, .slice ao (lo V).length ac, .int .i64 ex] 69)).alloc (.cells #[.bool false, .slice none 0 0, .slice none 0 0] 59) = W0 at *
  obtain ⟨x0, x1, x2, _, _, _, _, xlt⟩ := id XB
  obtain ⟨FL, hFL⟩ : ∃ f : Nat → Lz, f = (fun j => match j with | 0 => .is (.pointer (some ⟨w.heap.size, 0, none⟩)) | 1 => .is (.bool n) | 2 => .is (.pointer (some ⟨w.heap.size, 1, none⟩)) | 3 => .is (.slice ao (lo V).length ac) | 4 => .gn (NuP V) (fun _ _ _ h hb => h.below hb) | 5 => .gn (NuP 1) (fun _ _ _ h hb => h.below hb) | 6 => .gn (FrP n V 1) (fun _ _ _ h hb => h.below hb) | 7 => .gn (ByP W0.heap.size) (fun _ _ _ h hb => h.below hb) | 8 => .tr | _ => .tr) := ⟨_, rfl⟩
  have F0 := congrFun hFL 0
  have F1 := congrFun hFL 1
  have F2 := congrFun hFL 2
  have F3 := congrFun hFL 3
  have F4 := congrFun hFL 4
  have F5 := congrFun hFL 5
  have F6 := congrFun hFL 6
  have F7 := congrFun hFL 7
  have F8 := congrFun hFL 8
  simp only at F0 F1 F2 F3 F4 F5 F6 F7 F8
  clear hFL
  refine region_rgX (by kernel_rfl) (fun v => ⟨#[Value.agg #[Value.bool n, Value.slice ao (lo V).length ac, Value.int IntKind.i64 ex], Value.pointer (some { block := w.heap.size, off := 0 }), Value.pointer (some { block := w.heap.size + 1, off := 0 }), v 7, v 0, v 1, v 2, v 3, v 4, v 5, v 6, undef, undef, undef, undef, undef, undef, undef, undef, undef, undef, undef, undef, undef, undef, undef, undef, undef], []⟩) 8 9999 (fun j => decide (j ≠ 8 ∧ j ≠ 9999)) (fun j => decide (j = 7)) FL (fun a v => ∃ g po pc qo qc, v 7 = .pointer (some ⟨g, 0, none⟩) ∧ B3q a g (.bool n) (.slice po (lo V).length pc) (.slice qo (lo 1).length qc) ∧ NS a po pc (lo V) ∧ NS a qo qc (lo 1) ∧ B3q a w.heap.size (.bool n) (.slice ao (lo V).length ac) (.int .i64 ex) ∧ B3q a (w.heap.size + 1) (.bool false) (.slice none 0 0) (.slice none 0 0) ∧ Below w.heap.size w a ∧ W0.heap.size ≤ g) (fun _ _ => True) (fun j => match j with  | _ => undef) rfl ?_ ?_
  · intro L v w' i hL hS hi
    obtain ⟨h1, h2, h3⟩ := mem_ready hi
    have h1 : i < 9 := h1
    try dsimp only
    have hcs : i = 0 ∨ i = 1 ∨ i = 2 ∨ i = 3 ∨ i = 4 ∨ i = 5 ∨ i = 6 ∨ i = 7 ∨ i = 8 := by omega
    clear h1 h2 h3
    rcases hcs with rfl | rfl | rfl | rfl | rfl | rfl | rfl | rfl | rfl
    · have hns := hS.open hL hi rfl
      have hB := hS.a hns
      refine wpOpT_of (fun K hK => ?_)
      unfold wpOp
      go_simp
      refine Or.inl ?_
      exact hK _ _ ⟨putT v 0 (.pointer (some ⟨w.heap.size, 0, none⟩)), (by simp [putT]), hS.step hL hi rfl (by decide) (by decide) (Below.refl _ _) (fun q => absurd q (by decide)) (Lz.toIs F0)⟩
    · have hns := hS.open hL hi rfl
      have hB := hS.a hns
      have e0 := Lz.ofIs (hS.f hns 0 rfl (ready_dep hi 0 (by kernel_rfl))) F0
      have rx0 : w'.cell? ⟨w.heap.size, 0, none⟩ = some _ := (hB.cell (p := ⟨w.heap.size, 0, none⟩) xlt).trans x0
      refine wpOpT_of (fun K hK => ?_)
      unfold wpOp
      simp only [e0]
      go_simp
      refine Or.inl ?_
      exact hK _ _ ⟨putT v 1 (.bool n), (by simp [putT, e0]), hS.step hL hi rfl (by decide) (by decide) (Below.refl _ _) (fun q => absurd q (by decide)) (Lz.toIs F1)⟩
    · have hns := hS.open hL hi rfl
      have hB := hS.a hns
      refine wpOpT_of (fun K hK => ?_)
      unfold wpOp
      go_simp
      refine Or.inl ?_
      exact hK _ _ ⟨putT v 2 (.pointer (some ⟨w.heap.size, 1, none⟩)), (by simp [putT]), hS.step hL hi rfl (by decide) (by decide) (Below.refl _ _) (fun q => absurd q (by decide)) (Lz.toIs F2)⟩
    · have hns := hS.open hL hi rfl
      have hB := hS.a hns
      have e2 := Lz.ofIs (hS.f hns 2 rfl (ready_dep hi 2 (by kernel_rfl))) F2
      have rx1 : w'.cell? ⟨w.heap.size, 1, none⟩ = some _ := (hB.cell (p := ⟨w.heap.size, 1, none⟩) xlt).trans x1
      refine wpOpT_of (fun K hK => ?_)
      unfold wpOp
      simp only [e2]
      go_simp
      refine Or.inl ?_
      exact hK _ _ ⟨putT v 3 (.slice ao (lo V).length ac), (by simp [putT, e2]), hS.step hL hi rfl (by decide) (by decide) (Below.refl _ _) (fun q => absurd q (by decide)) (Lz.toIs F3)⟩
    · have hns := hS.open hL hi rfl
      have hB := hS.a hns
      have e3 := Lz.ofIs (hS.f hns 3 rfl (ready_dep hi 3 (by kernel_rfl))) F3
      refine wpOpT_of (fun K hK => ?_)
      unfold wpOp
      simp only [e3]
      go_simp
      refine Or.inl ?_
      go_at_call 41
      refine (ct _ (A1.below hB)).mono ?_
      rintro e w1 ⟨ro, rc, rfl, kr, _, bc⟩
      exact hK _ _ ⟨putT v 4 (.slice ro (lo V).length rc), (by simp [putT, e3]), hS.step hL hi rfl (by decide) (by decide) (bc) (fun q => absurd q (by decide)) (Lz.toGn F4 (⟨_, _, rfl, kr⟩))⟩
    · have hns := hS.open hL hi rfl
      have hB := hS.a hns
      refine wpOpT_of (fun K hK => ?_)
      unfold wpOp
      go_simp
      refine Or.inl ?_
      go_at_call 48
      refine (co _).mono ?_
      rintro e w1 ⟨ro, rc, rfl, kr, _, bc⟩
      exact hK _ _ ⟨putT v 5 (.slice ro (lo 1).length rc), (by simp [putT]), hS.step hL hi rfl (by decide) (by decide) (bc) (fun q => absurd q (by decide)) (Lz.toGn F5 (⟨_, _, rfl, kr⟩))⟩
    · have hns := hS.open hL hi rfl
      have hB := hS.a hns
      have e1 := Lz.ofIs (hS.f hns 1 rfl (ready_dep hi 1 (by kernel_rfl))) F1
      obtain ⟨ao_4, ac_4, e4, u4⟩ := Lz.ofGn (hS.f hns 4 rfl (ready_dep hi 4 (by kernel_rfl))) F4
      obtain ⟨ao_5, ac_5, e5, u5⟩ := Lz.ofGn (hS.f hns 5 rfl (ready_dep hi 5 (by kernel_rfl))) F5
      refine wpOpT_of (fun K hK => ?_)
      unfold wpOp
      simp only [e1, e4, e5]
      go_simp
      refine Or.inl ?_
      exact hK _ _ ⟨putT v 6 (.agg #[.bool n, .slice ao_4 (lo V).length ac_4, .slice ao_5 (lo 1).length ac_5]), (by simp [putT, e1, e4, e5]), hS.step hL hi rfl (by decide) (by decide) (Below.refl _ _) (fun q => absurd q (by decide)) (Lz.toGn F6 (⟨_, _, _, _, rfl, u4, u5⟩))⟩
    · have hns := hS.open hL hi rfl
      have hB := hS.a hns
      refine wpOpT_of (fun K hK => ?_)
      unfold wpOp
      go_simp
      refine Or.inl ?_
      exact hK _ _ ⟨putT v 7 (.pointer (some ⟨w'.heap.size, 0, none⟩)), (by simp [putT]), hS.step hL hi rfl (by decide) (by decide) ((Below.refl _ _).alloc (Nat.le_refl _) _) (fun _ j hj hj2 _ => absurd (by simpa using hj2) hj) (Lz.toGn F7 (⟨_, rfl, B3q.new w' _ _ _ _, hB.size⟩))⟩
    · have hns := fun q => offT_not (by rw [hL]; exact (mem_ready hi).1) (mem_ready hi).2.1 q
      have hB := hS.a hns
      obtain ⟨ao_6, ac_6, bo_6, bc_6, e6, u6, t6⟩ := Lz.ofGn (hS.f hns 6 rfl (ready_dep hi 6 (by kernel_rfl))) F6
      obtain ⟨g7, e7, u7, t7⟩ := Lz.ofGn (hS.f hns 7 rfl (ready_dep hi 7 (by kernel_rfl))) F7
      obtain ⟨p0, p1, p2, s0, s1, s2, _, _⟩ := id u7
      have hb9 := hb0.trans (hB.mono hb0.size)
      have kb := hb0.size
      have kx := XB.lt
      have ky := OB.lt
      refine wpOpT_of (fun K hK => ?_)
      unfold wpOp
      simp only [e6, e7]
      go_simp
      refine Or.inl ?_
      exact hK _ _ ⟨putT v 8 undef, (by simp [putT, e6, e7]), hS.last1 hL hi (by decide) (by kernel_rfl) (⟨g7, ao_6, ac_6, bo_6, bc_6, by simp [putT, e7], u7.fill _ _ _, ls_ns ((ns_ls u6).threeB u7 _ _ _), ls_ns ((ns_ls t6).threeB u7 _ _ _), (XB.below hB).far3n (by omega) _ _ _, (OB.below hB).far3n (by omega) _ _ _, below_three hb9 (by omega) _ _ _, t7⟩)⟩
  · intro L v w' hL hS hr
    have on := all_done hL hr (by kernel_rfl)
    obtain ⟨g, po, pc, qo, qc, e7, G, m1, m2, XB, OB2, hb2, hg⟩ := hS.z1 (on 8 (by decide)) (onT_over (by rw [hL]; exact Nat.le_of_ble_eq_true (by kernel_rfl)))
    try dsimp only
    rw [e7]
    have kx : w.heap.size + 1 < W0.heap.size := OB.lt
    clear hS on hr e7 hL F0 F1 F2 F3 F4 F5 F6 F7 F8 FL L x0 x1 x2 xlt OB hb0 A1 ct co
    obtain ⟨x0, x1, x2, _, _, _, _, xlt⟩ := id XB
    obtain ⟨z0, z1, z2, f0, f1, f2, _, zlt⟩ := id G
    by_cases hx : 0 ≤ ex
    · have hk := c1.out hx
      rw [hk] at cu
      have hD := HD.out hx
      subst hD
      clear HN HD c1 c2 cv hk i3
      go_upto_region 5 with (go_at_call 86; refine (cu _ _ _ m1).mono ?_; rintro e w6 ⟨ro, rc, rfl, k6, _, b6⟩; have G6 := G.below b6; obtain ⟨y0, y1, y2, h0, h1, h2, _, _⟩ := id G6)
      have hb6 := hb2.trans (b6.mono hb2.size)
      have OB6 := OB2.below b6
      have n2 := m2.below b6
      have G7 := G6.set1 (.slice ro (lo VN).length rc)
      have OB7 := OB6.far (g := g) (by omega) (i := 1) (.slice ro (lo VN).length rc)
      have k7 := (ns_ls k6).boxed G6 1 (.slice ro (lo VN).length rc)
      have n7 := (ns_ls n2).boxed G6 1 (.slice ro (lo VN).length rc)
      have hb7 : Below w.heap.size w (w6.setCell ⟨g, 1, none⟩ (.slice ro (lo VN).length rc)) := hb6.setCell (p := ⟨g, 1, none⟩) (by show w.heap.size ≤ g; omega) _
      generalize w6.setCell ⟨g, 1, none⟩ (.slice ro (lo VN).length rc) = W7 at *
      clear x0 x1 x2 xlt z0 z1 z2 f0 f1 f2 zlt y0 y1 y2 h0 h1 h2 G G6 OB2 OB6 hb2 hb6 b6 m1 m2 n2 k6 XB
      obtain ⟨y0, y1, y2, _, _, _, _, _⟩ := id G7
      obtain ⟨o0, o1, o2, q0, q1, q2, _, _⟩ := id OB7
      go_wp2
      exact bodyPost_ret (v := .agg #[.bool n, .slice ro (lo VN).length rc, .slice qo (lo 1).length qc]) (by simp [results, Tryz.results52, go_sem, o0, o1, o2]) rfl ⟨ro, rc, qo, qc, rfl, ls_ns (k7.threeB OB7 _ _ _), ls_ns (n7.threeB OB7 _ _ _), below_three hb7 (by omega) _ _ _⟩
    · have hk := c2.out (by omega)
      rw [hk] at cv
      have hN := HN.out (by omega)
      subst hN
      clear HN HD c1 c2 cu hk
      go_upto_region 5 with (go_at_call 86; refine (cv _ _ _ m2).mono ?_; rintro e w6 ⟨ro, rc, rfl, k6, _, b6⟩; have G6 := G.below b6; obtain ⟨y0, y1, y2, h0, h1, h2, _, _⟩ := id G6)
      have hb6 := hb2.trans (b6.mono hb2.size)
      have OB6 := OB2.below b6
      have n1 := m1.below b6
      have G7 := G6.set2 (.slice ro (lo VD).length rc)
      have OB7 := OB6.far (g := g) (by omega) (i := 2) (.slice ro (lo VD).length rc)
      have k7 := (ns_ls k6).boxed G6 2 (.slice ro (lo VD).length rc)
      have n7 := (ns_ls n1).boxed G6 2 (.slice ro (lo VD).length rc)
      have hb7 : Below w.heap.size w (w6.setCell ⟨g, 2, none⟩ (.slice ro (lo VD).length rc)) := hb6.setCell (p := ⟨g, 2, none⟩) (by show w.heap.size ≤ g; omega) _
      generalize w6.setCell ⟨g, 2, none⟩ (.slice ro (lo VD).length rc) = W7 at *
      clear x0 x1 x2 xlt z0 z1 z2 f0 f1 f2 zlt y0 y1 y2 h0 h1 h2 G G6 OB2 OB6 hb2 hb6 b6 m1 m2 n1 k6 XB
      obtain ⟨y0, y1, y2, _, _, _, _, _⟩ := id G7
      obtain ⟨o0, o1, o2, q0, q1, q2, _, _⟩ := id OB7
      go_wp2
      exact bodyPost_ret (v := .agg #[.bool n, .slice po (lo VN).length pc, .slice ro (lo VD).length rc]) (by simp [results, Tryz.results52, go_sem, o0, o1, o2]) rfl ⟨po, pc, ro, rc, rfl, ls_ns (n7.threeB OB7 _ _ _), ls_ns (k7.threeB OB7 _ _ _), below_three hb7 (by omega) _ _ _⟩
set_option maxRecDepth 100000 in
set_option maxHeartbeats 2000000 in
theorem dofd7_any (d : Dy) (ao : Option Addr) (ac : Nat) (w : World) (h : NS w ao ac d.mag) (hL : Lm d.mag) (l : d.mag.length ≤ 300) {rn : Bool} {rN rD : Nat} {er : Int} (ht : toT (odA d) = ((rn, rN, rD), er)) :
    Calls Tryz.prog 18 #[.agg #[.bool d.neg, .slice ao d.mag.length ac, .int .i64 d.exp]] w (GaveV w rn rN rD er) := by
  have AB := (B3q.new w (.bool d.neg) (.slice ao d.mag.length ac) (.int .i64 d.exp) 27).alloc (.cells #[.bool false, .slice none 0 0, .slice none 0 0] 24)
  have OB := B3q.new (w.alloc (.cells #[.bool d.neg, .slice ao d.mag.length ac, .int .i64 d.exp] 27)) (.bool false) (.slice none 0 0) (.slice none 0 0) 24
  have hs1 : (w.alloc (.cells #[.bool d.neg, .slice ao d.mag.length ac, .int .i64 d.exp] 27)).heap.size = w.heap.size + 1 := by simp
  rw [hs1] at OB
  have hb0 : Below w.heap.size w ((w.alloc (.cells #[.bool d.neg, .slice ao d.mag.length ac, .int .i64 d.exp] 27)).alloc (.cells #[.bool false, .slice none 0 0, .slice none 0 0] 24)) := ((Below.refl _ _).alloc (Nat.le_refl _) _).alloc (by rw [hs1]; omega) _
  have A1 := h.below hb0
  have cr := dright_any d ao ac _ A1.1 hL
  have cd := fun W (a : NS W ao ac d.mag) => ddyad_any d ao ac W a hL (by omega)
  have lv := lo_len hL
  cases hr : rightB d
  · rw [hr] at cr
    have e : odA d = (none, 2) := by unfold odA; rw [hr]; rfl
    rw [e] at ht
    unfold toT at ht
    simp only [Prod.mk.injEq] at ht
    obtain ⟨⟨rfl, rfl, rfl⟩, rfl⟩ := ht
    clear e hr cd lv hs1
    obtain ⟨dn, dm, de⟩ := d
    simp only at *
    go_enter Tryz.func18, Tryz.ntmps18
    go_upto_region 1 with fail
    generalize (w.alloc (.cells #[.bool dn, .slice ao dm.length ac, .int .i64 de] 27)).alloc (.cells #[.bool false, .slice none 0 0, .slice none 0 0] 24) = W0 at *
    obtain ⟨x0, x1, x2, _, _, _, _, _⟩ := id AB
    go_wp2_with (go_at_call 57; refine cr.mono ?_; rintro e w1 ⟨rfl, b1⟩; have hb1 := hb0.trans (b1.mono hb0.size); have OB1 := OB.below b1; obtain ⟨o0, o1, o2, q0, q1, q2, _, _⟩ := id OB1)
    exact bodyPost_ret (v := .tuple #[.agg #[.bool false, .slice none 0 0, .slice none 0 0], .int .i64 2]) (by simp [results, Tryz.results18, go_sem, o0, o1, o2]) rfl ⟨none, 0, none, 0, rfl, lsnil _, lsnil _, below_three hb1 (by omega) _ _ _⟩
  · rw [hr] at cr
    obtain ⟨q1, q2, q3⟩ := rightB_bd hr
    have ht2 := (od_like hL hr).trans ht
    have hlN : (lo (vl d.mag * 2 ^ d.exp.toNat)).length ≤ 300 + 2000 := lo_pow_len7 (by omega) (by omega)
    have hlD : (lo (2 ^ (-d.exp).toNat)).length ≤ 1 + 2000 := by
      have := lo_pow_len7 (N := 1) (s := (-d.exp).toNat) (a := 1) (b := 2000) (by rw [lo1]; simp) (by omega)
      rw [Nat.one_mul] at this
      exact this
    have cn := fun W po pc (a : NS W po pc (lo (vl d.mag))) => num7_any d.neg (vl d.mag) d.exp po pc W a (by omega) (by omega) (by omega)
    have cT := fun W po pc qo qc a b => told7V ht2 (Nat.ne_of_gt (Nat.two_pow_pos _)) (by omega) (by omega) po qo pc qc W a b
    clear hr ht ht2 hlN hlD lv hs1 q1 q2 q3
    generalize vl d.mag * 2 ^ d.exp.toNat = VN at *
    generalize 2 ^ (-d.exp).toNat = VD at *
    generalize vl d.mag = V at *
    obtain ⟨dn, dm, de⟩ := d
    simp only at *
    unfold GaveM at cd
    simp only at cd
    go_enter Tryz.func18, Tryz.ntmps18
    go_upto_region 1 with fail
    generalize (w.alloc (.cells #[.bool dn, .slice ao dm.length ac, .int .i64 de] 27)).alloc (.cells #[.bool false, .slice none 0 0, .slice none 0 0] 24) = W0 at *
    obtain ⟨x0, x1, x2, _, _, _, _, _⟩ := id AB
    go_wp2_with (first
      | (go_at_call 57; refine cr.mono ?_; rintro e w1 ⟨rfl, b1⟩; have hb1 := hb0.trans (b1.mono hb0.size); have OB1 := OB.below b1; obtain ⟨y0, y1, y2, _, _, _, _, _⟩ := AB.below b1; have A11 := A1.below b1)
      | (go_at_call 58; refine (cd _ A11).mono ?_; rintro e w2 ⟨po, pc, rfl, k1, _, b2⟩; have hb2 := hb1.trans (b2.mono hb1.size); have OB2 := OB1.below b2)
      | (go_at_call 52; refine (cn _ _ _ k1).mono ?_; rintro e w3 ⟨qo, qc, so, sc, rfl, m1, m2, b3⟩; have hb3 := hb2.trans (b3.mono hb2.size); have OB3 := OB2.below b3)
      | (go_at_call 42; refine (cT _ _ _ _ _ m1 m2).mono ?_; rintro e w4 ⟨vo, vc, uo, uc, rfl, t1, t2, b4⟩; have hb4 := hb3.trans (b4.mono hb3.size); have OB4 := OB3.below b4; obtain ⟨o0, o1, o2, q0, q1, q2, _, _⟩ := id OB4))
    exact bodyPost_ret (v := .tuple #[.agg #[.bool rn, .slice vo (nl rN) vc, .slice uo (nl rD) uc], .int .i64 er]) (by simp [results, Tryz.results18, go_sem, o0, o1, o2]) rfl ⟨vo, vc, uo, uc, rfl, t1.threeB OB4 _ _ _, t2.threeB OB4 _ _ _, below_three hb4 (by omega) _ _ _⟩
set_option maxRecDepth 100000 in
set_option maxHeartbeats 2000000 in
theorem dof7_any (x : Nat) (hx : x < 18446744073709551616) (w : World) {rn : Bool} {rN rD : Nat} {er : Int} (ht : toT (ofR x) = ((rn, rN, rD), er)) :
    Calls Tryz.prog 15 #[.float .f64 x] w (GaveV w rn rN rD er) := by
  have OB := B3q.new w (.bool false) (.slice none 0 0) (.slice none 0 0) 24
  have hb0 : Below w.heap.size w (w.alloc (.cells #[.bool false, .slice none 0 0, .slice none 0 0] 24)) := (Below.refl _ _).alloc (Nat.le_refl _) _
  cases hf : finB x
  · rw [of_bad hf] at ht
    unfold toT at ht
    simp only [Prod.mk.injEq] at ht
    obtain ⟨⟨rfl, rfl, rfl⟩, rfl⟩ := ht
    have hsub := sub_inf hx hf
    clear hf
    go_enter Tryz.func15, Tryz.ntmps15
    go_upto_region 1 with fail
    generalize w.alloc (.cells #[.bool false, .slice none 0 0, .slice none 0 0] 24) = W0 at *
    have hm := run_nan (P := Tryz.prog) .sub (Or.inl rfl) 25 x x hsub
    obtain ⟨h1, h2⟩ := nanW_nan x x W0
    have ho : (FloatKind.f64.format.order (nanW x x W0) 0 != some .eq) = true := by rw [ord_nan h2 (by omega) (Or.inl h1)]; rfl
    have hb1 := hb0.drew
    obtain ⟨o0, o1, o2, q0, q1, q2, _, _⟩ := id OB
    clear h1 h2 hsub
    go_wp2
    exact bodyPost_ret (v := .tuple #[.agg #[.bool false, .slice none 0 0, .slice none 0 0], .int .i64 5]) (by simp [results, Tryz.results15, go_sem, o0, o1, o2]) rfl ⟨none, 0, none, 0, rfl, lsnil _, lsnil _, below_three hb1 (by omega) _ _ _⟩
  · have ht2 := (of_like hf).trans ht
    have hb : -1074 ≤ spE x ∧ spE x ≤ 1023 ∧ spF x < 18446744073709551616 := by
      by_cases h0 : rung x = 0
      · unfold spF spE; rw [if_pos h0, if_pos h0]; omega
      · have := sp_bd hf h0; omega
    have hl1 : (lo (spF x)).length ≤ 1 := by rw [lo_length]; exact nl_le (v := spF x) (n := 1) (by omega)
    have hlN : (lo (spF x * 2 ^ (spE x).toNat)).length ≤ 1 + 2000 := lo_pow_len7 hl1 (by omega)
    have hlD : (lo (2 ^ (-(spE x)).toNat)).length ≤ 1 + 2000 := by
      have := lo_pow_len7 (N := 1) (s := (-(spE x)).toNat) (a := 1) (b := 2000) (by rw [lo1]; simp) (by omega)
      rw [Nat.one_mul] at this
      exact this
    have cf := fun W => nfl7_any x hx hf W
    have cn := fun W po pc (a : NS W po pc (lo (spF x))) => num7_any (sgn x) (spF x) (spE x) po pc W a (by omega) (by omega) (by omega)
    have cT := fun W po pc qo qc a b => told7V ht2 (Nat.ne_of_gt (Nat.two_pow_pos _)) (by omega) (by omega) po qo pc qc W a b
    clear ht ht2 hlN hlD hl1 hb
    generalize spF x * 2 ^ (spE x).toNat = VN at *
    generalize 2 ^ (-(spE x)).toNat = VD at *
    generalize spF x = V at *
    generalize spE x = E at *
    generalize sgn x = s at *
    have hm := fun w => run_float_arith (P := Tryz.prog) w .sub 25 .f64 _ _ _ (sub_self hx hf)
    have ho : (FloatKind.f64.format.order 0 0 != some .eq) = false := by kernel_rfl
    clear hf hx
    go_enter Tryz.func15, Tryz.ntmps15
    go_upto_region 1 with fail
    generalize w.alloc (.cells #[.bool false, .slice none 0 0, .slice none 0 0] 24) = W0 at *
    go_wp2_with (first
      | (go_at_call 53; refine (cf _).mono ?_; rintro e w1 ⟨po, pc, rfl, k1, b1⟩; have hb1 := hb0.trans (b1.mono hb0.size); have OB1 := OB.below b1)
      | (go_at_call 52; refine (cn _ _ _ k1).mono ?_; rintro e w3 ⟨qo, qc, so, sc, rfl, m1, m2, b3⟩; have hb3 := hb1.trans (b3.mono hb1.size); have OB3 := OB1.below b3)
      | (go_at_call 42; refine (cT _ _ _ _ _ m1 m2).mono ?_; rintro e w4 ⟨vo, vc, uo, uc, rfl, t1, t2, b4⟩; have hb4 := hb3.trans (b4.mono hb3.size); have OB4 := OB3.below b4; obtain ⟨o0, o1, o2, q0, q1, q2, _, _⟩ := id OB4))
    exact bodyPost_ret (v := .tuple #[.agg #[.bool rn, .slice vo (nl rN) vc, .slice uo (nl rD) uc], .int .i64 er]) (by simp [results, Tryz.results15, go_sem, o0, o1, o2]) rfl ⟨vo, vc, uo, uc, rfl, t1.threeB OB4 _ _ _, t2.threeB OB4 _ _ _, below_three hb4 (by omega) _ _ _⟩
end Go.Proofs.YtnclddfljghebaaGreatDoor
