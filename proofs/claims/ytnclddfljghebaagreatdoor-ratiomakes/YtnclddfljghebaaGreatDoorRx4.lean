/- RatioReckons: the walk. (Written by mkrx4.py.) -/
import Derived.Test.YtnclddfljghebaaGreatDoorRx3
import Derived.Test.YtnclddfljghebaaGreatDoorRgX
import Derived.Test.YtnclddfljghebaaGreatDoorRv6g
import Derived.Test.YtnclddfljghebaaGreatDoorQ6
namespace Go.Proofs.YtnclddfljghebaaGreatDoor
open Go.RowKit

/-- A lent ratio as a value. -/
def LeP (n : Bool) (xs ys : List Nat) (a : World) (x : Value) : Prop := ∃ g h, x = .agg #[.bool n, .slice (some ⟨g, 0, none⟩) xs.length (xs.length + 12), .slice (some ⟨h, 0, none⟩) ys.length (ys.length + 12)] ∧ Lent a g xs ∧ Lent a h ys
theorem LeP.below {n : Bool} {xs ys : List Nat} {a a' : World} {x : Value} (h : LeP n xs ys a x) (hb : Below a.heap.size a a') : LeP n xs ys a' x := by
  obtain ⟨g, k, e, u, t⟩ := h
  exact ⟨g, k, e, u.below hb, t.below hb⟩
/-- A box for a ratio as a value. -/
def BxP (B : Nat) (a : World) (x : Value) : Prop := ∃ g, x = .pointer (some ⟨g, 0, none⟩) ∧ B3q a g (.bool false) (.slice none 0 0) (.slice none 0 0) ∧ B ≤ g
theorem BxP.below {B : Nat} {a a' : World} {x : Value} (h : BxP B a x) (hb : Below a.heap.size a a') : BxP B a' x := by
  obtain ⟨g, e, u, t⟩ := h
  exact ⟨g, e, u.below hb, t⟩
theorem Lent.apart {w : World} {g c : Nat} {xs : List Nat} (h : Lent w g xs) {x : Bool} {y z : Value} (hB : B3q w c (.bool x) y z) : c ≠ g := by
  rintro rfl
  have h1 := h.cell (j := 0) (by omega)
  rw [hB.c0] at h1
  cases h1
theorem Lent.fill {w : World} {g c : Nat} {xs : List Nat} (h : Lent w g xs) {x : Bool} {y z : Value} (hB : B3q w c (.bool x) y z) (a b d : Value) : Lent (((w.setCell ⟨c, 0, none⟩ a).setCell ⟨c, 1, none⟩ b).setCell ⟨c, 2, none⟩ d) g xs :=
  ((h.setBox (h.apart hB) 0 a).setBox (h.apart hB) 1 b).setBox (h.apart hB) 2 d
theorem RtS.fill {w : World} {ao bo : Option Addr} {ac bc : Nat} {xs ys : List Nat} (h : RtS w ao ac xs bo bc ys) {g : Nat} {x : Bool} {y0 z0 : Option Addr} {y1 y2 z1 z2 : Nat} (hB : B3q w g (.bool x) (.slice y0 y1 y2) (.slice z0 z1 z2)) (a b c : Value) : RtS (((w.setCell ⟨g, 0, none⟩ a).setCell ⟨g, 1, none⟩ b).setCell ⟨g, 2, none⟩ c) ao ac xs bo bc ys := ⟨h.n.threeB hB a b c, h.d.threeB hB a b c⟩
theorem B3q.far3 {w : World} {b g : Nat} {x y z : Value} (h : B3q w b x y z) (hn : b ≠ g) (p q r : Value) : B3q (((w.setCell ⟨g, 0, none⟩ p).setCell ⟨g, 1, none⟩ q).setCell ⟨g, 2, none⟩ r) b x y z := ((h.far hn (i := 0) p).far hn (i := 1) q).far hn (i := 2) r
/-- What stands in memory behind the lending. -/
structure RkS (w W : World) (n1 : Bool) (ao1 : Option Addr) (ac1 : Nat) (xs : List Nat) (bo1 : Option Addr) (bc1 : Nat) (ys : List Nat) (n2 : Bool) (ao2 : Option Addr) (ac2 : Nat) (us : List Nat) (bo2 : Option Addr) (bc2 : Nat) (vs : List Nat) (gx gy g1 h1 g2 h2 K : Nat) : Prop where
  A : B3q W w.heap.size (.bool n1) (.slice ao1 xs.length ac1) (.slice bo1 ys.length bc1)
  B : B3q W (w.heap.size + 1) (.bool n2) (.slice ao2 us.length ac2) (.slice bo2 vs.length bc2)
  X : B3q W gx (.bool n1) (.slice (some ⟨g1, 0, none⟩) xs.length (xs.length + 12)) (.slice (some ⟨h1, 0, none⟩) ys.length (ys.length + 12))
  Y : B3q W gy (.bool n2) (.slice (some ⟨g2, 0, none⟩) us.length (us.length + 12)) (.slice (some ⟨h2, 0, none⟩) vs.length (vs.length + 12))
  l1 : Lent W g1 xs
  l2 : Lent W h1 ys
  l3 : Lent W g2 us
  l4 : Lent W h2 vs
  ra : RtS W ao1 ac1 xs bo1 bc1 ys
  rb : RtS W ao2 ac2 us bo2 bc2 vs
  b : Below w.heap.size w W
  kx : gx < K
  ky : gy < K
  kw : w.heap.size + 1 < K
section
variable {w W W' : World} {n1 : Bool} {ao1 : Option Addr} {ac1 : Nat} {xs : List Nat} {bo1 : Option Addr} {bc1 : Nat} {ys : List Nat} {n2 : Bool} {ao2 : Option Addr} {ac2 : Nat} {us : List Nat} {bo2 : Option Addr} {bc2 : Nat} {vs : List Nat} {gx gy g1 h1 g2 h2 K : Nat}
theorem RkS.below (h : RkS w W n1 ao1 ac1 xs bo1 bc1 ys n2 ao2 ac2 us bo2 bc2 vs gx gy g1 h1 g2 h2 K) (hb : Below W.heap.size W W') : RkS w W' n1 ao1 ac1 xs bo1 bc1 ys n2 ao2 ac2 us bo2 bc2 vs gx gy g1 h1 g2 h2 K :=
  ⟨h.A.below hb, h.B.below hb, h.X.below hb, h.Y.below hb, h.l1.below hb, h.l2.below hb, h.l3.below hb, h.l4.below hb, h.ra.below hb, h.rb.below hb, h.b.trans (hb.mono h.b.size), h.kx, h.ky, h.kw⟩
theorem RkS.fill (h : RkS w W n1 ao1 ac1 xs bo1 bc1 ys n2 ao2 ac2 us bo2 bc2 vs gx gy g1 h1 g2 h2 K) {g : Nat} {x : Bool} {y0 z0 : Option Addr} {y1 y2 z1 z2 : Nat} (hB : B3q W g (.bool x) (.slice y0 y1 y2) (.slice z0 z1 z2)) (hg : K ≤ g) (p q r : Value) : RkS w (((W.setCell ⟨g, 0, none⟩ p).setCell ⟨g, 1, none⟩ q).setCell ⟨g, 2, none⟩ r) n1 ao1 ac1 xs bo1 bc1 ys n2 ao2 ac2 us bo2 bc2 vs gx gy g1 h1 g2 h2 K := by
  have k1 := h.kx
  have k2 := h.ky
  have k3 := h.kw
  exact ⟨h.A.far3 (by omega) _ _ _, h.B.far3 (by omega) _ _ _, h.X.far3 (by omega) _ _ _, h.Y.far3 (by omega) _ _ _, h.l1.fill hB _ _ _, h.l2.fill hB _ _ _, h.l3.fill hB _ _ _, h.l4.fill hB _ _ _, h.ra.fill hB _ _ _, h.rb.fill hB _ _ _, below_three h.b (by omega) _ _ _, k1, k2, k3⟩
theorem RkS.px (h : RkS w W n1 ao1 ac1 xs bo1 bc1 ys n2 ao2 ac2 us bo2 bc2 vs gx gy g1 h1 g2 h2 K) : RtS W (some ⟨g1, 0, none⟩) (xs.length + 12) xs (some ⟨h1, 0, none⟩) (ys.length + 12) ys := ⟨h.l1.ls, h.l2.ls⟩
theorem RkS.py (h : RkS w W n1 ao1 ac1 xs bo1 bc1 ys n2 ao2 ac2 us bo2 bc2 vs gx gy g1 h1 g2 h2 K) : RtS W (some ⟨g2, 0, none⟩) (us.length + 12) us (some ⟨h2, 0, none⟩) (vs.length + 12) vs := ⟨h.l3.ls, h.l4.ls⟩
end
set_option maxRecDepth 100000 in
set_option maxHeartbeats 16000000 in
theorem reckons_law (n1 : Bool) (xs ys : List Nat) (ao1 bo1 : Option Addr) (ac1 bc1 : Nat) (n2 : Bool) (us vs : List Nat) (ao2 bo2 : Option Addr) (ac2 bc2 : Nat) (w : World) (a1 : LS w ao1 ac1 xs) (b1 : LS w bo1 bc1 ys) (hL1 : Lm xs) (hM1 : Lm ys) (a2 : LS w ao2 ac2 us) (b2 : LS w bo2 bc2 vs) (hL2 : Lm us) (hM2 : Lm vs) (hT : TabW w) :
    Calls Tryz.prog 4 #[.agg #[.bool n1, .slice ao1 xs.length ac1, .slice bo1 ys.length bc1], .agg #[.bool n2, .slice ao2 us.length ac2, .slice bo2 vs.length bc2]] w fun e w' => e = .returned (.bool true) ∧ Below w.heap.size w w' := by
  have hs1 : (w.alloc (.cells #[.bool n1, .slice ao1 xs.length ac1, .slice bo1 ys.length bc1] 24)).heap.size = w.heap.size + 1 := by simp
  have AB := (B3q.new w (.bool n1) (.slice ao1 xs.length ac1) (.slice bo1 ys.length bc1) 24).alloc (.cells #[.bool n2, .slice ao2 us.length ac2, .slice bo2 vs.length bc2] 24)
  have BB := B3q.new (w.alloc (.cells #[.bool n1, .slice ao1 xs.length ac1, .slice bo1 ys.length bc1] 24)) (.bool n2) (.slice ao2 us.length ac2) (.slice bo2 vs.length bc2) 24
  rw [hs1] at BB
  have hb0 : Below w.heap.size w ((w.alloc (.cells #[.bool n1, .slice ao1 xs.length ac1, .slice bo1 ys.length bc1] 24)).alloc (.cells #[.bool n2, .slice ao2 us.length ac2, .slice bo2 vs.length bc2] 24)) := ((Below.refl w.heap.size w).alloc (Nat.le_refl _) _).alloc (by rw [hs1]; omega) _
  have ra : RtS ((w.alloc (.cells #[.bool n1, .slice ao1 xs.length ac1, .slice bo1 ys.length bc1] 24)).alloc (.cells #[.bool n2, .slice ao2 us.length ac2, .slice bo2 vs.length bc2] 24)) ao1 ac1 xs bo1 bc1 ys := (RtS.mk a1 b1).below hb0
  have rb : RtS ((w.alloc (.cells #[.bool n1, .slice ao1 xs.length ac1, .slice bo1 ys.length bc1] 24)).alloc (.cells #[.bool n2, .slice ao2 us.length ac2, .slice bo2 vs.length bc2] 24)) ao2 ac2 us bo2 bc2 vs := (RtS.mk a2 b2).below hb0
  have cga := fun W => great7_any n1 xs ys ao1 bo1 ac1 bc1 W
  have cgb := fun W => great7_any n2 us vs ao2 bo2 ac2 bc2 W
  have caw := fun W hW => rawake_any W hW
  clear a1 b1 a2 b2 hs1
  by_cases hga : 300 < xs.length ∨ 300 < ys.length
  · have e : (decide (300 < xs.length) || decide (300 < ys.length)) = true := by simpa using hga
    rw [e] at cga
    clear e hga
    have T0 := tabW_below hT hb0
    go_enter Tryz.func4, Tryz.ntmps4
    go_upto_region 1 with fail
    generalize (w.alloc (.cells #[.bool n1, .slice ao1 xs.length ac1, .slice bo1 ys.length bc1] 24)).alloc (.cells #[.bool n2, .slice ao2 us.length ac2, .slice bo2 vs.length bc2] 24) = W0 at *
    obtain ⟨x0, x1, x2, _, _, _, _, xlt⟩ := id AB
    go_wp2_with (first
      | (go_at_call 5; refine (cga _).mono ?_; rintro e w1 ⟨rfl, b1⟩)
      | (go_at_call 6; refine (caw _ (tabW_below T0 b1)).mono ?_; rintro e w2 ⟨rfl, b2⟩))
    go_ret
    exact ⟨rfl, hb0.trans ((b1.trans (b2.mono b1.size)).mono hb0.size)⟩
  · have e : (decide (300 < xs.length) || decide (300 < ys.length)) = false := by
      rw [Bool.or_eq_false_iff, decide_eq_false_iff_not, decide_eq_false_iff_not]
      omega
    rw [e] at cga
    have l1 : xs.length ≤ 300 := by omega
    have l2 : ys.length ≤ 300 := by omega
    clear e hga
    by_cases hgb : 300 < us.length ∨ 300 < vs.length
    · have e : (decide (300 < us.length) || decide (300 < vs.length)) = true := by simpa using hgb
      rw [e] at cgb
      clear e hgb
      have T0 := tabW_below hT hb0
      go_enter Tryz.func4, Tryz.ntmps4
      go_upto_region 1 with fail
      generalize (w.alloc (.cells #[.bool n1, .slice ao1 xs.length ac1, .slice bo1 ys.length bc1] 24)).alloc (.cells #[.bool n2, .slice ao2 us.length ac2, .slice bo2 vs.length bc2] 24) = W0 at *
      obtain ⟨x0, x1, x2, _, _, _, _, xlt⟩ := id AB
      go_wp2_with (first
        | (go_at_call_of 5 (Value.agg #[Value.bool n1, Value.slice ao1 xs.length ac1, Value.slice bo1 ys.length bc1]); refine (cga _).mono ?_; rintro e w1 ⟨rfl, b1⟩; obtain ⟨y0, y1, y2, _, _, _, _, _⟩ := BB.below b1)
        | (go_at_call_of 5 (Value.agg #[Value.bool n2, Value.slice ao2 us.length ac2, Value.slice bo2 vs.length bc2]); refine (cgb _).mono ?_; rintro e w2 ⟨rfl, b2⟩; have b3 := b1.trans (b2.mono b1.size))
        | (go_at_call 6; refine (caw _ (tabW_below T0 b3)).mono ?_; rintro e w4 ⟨rfl, b4⟩))
      go_ret
      exact ⟨rfl, hb0.trans ((b3.trans (b4.mono b3.size)).mono hb0.size)⟩
    · have e : (decide (300 < us.length) || decide (300 < vs.length)) = false := by
        rw [Bool.or_eq_false_iff, decide_eq_false_iff_not, decide_eq_false_iff_not]
        omega
      rw [e] at cgb
      have l3 : us.length ≤ 300 := by omega
      have l4 : vs.length ≤ 300 := by omega
      clear e hgb
      go_enter Tryz.func4, Tryz.ntmps4
      go_upto_region 1 with fail
      generalize (w.alloc (.cells #[.bool n1, .slice ao1 xs.length ac1, .slice bo1 ys.length bc1] 24)).alloc (.cells #[.bool n2, .slice ao2 us.length ac2, .slice bo2 vs.length bc2] 24) = W0 at *
      obtain ⟨x0, x1, x2, _, _, _, _, xlt⟩ := id AB
      go_upto_region 3 with (first
        | (go_at_call_of 5 (Value.agg #[Value.bool n1, Value.slice ao1 xs.length ac1, Value.slice bo1 ys.length bc1]); refine (cga _).mono ?_; rintro e w1 ⟨rfl, b1⟩; obtain ⟨y0, y1, y2, _, _, _, _, _⟩ := BB.below b1)
        | (go_at_call_of 5 (Value.agg #[Value.bool n2, Value.slice ao2 us.length ac2, Value.slice bo2 vs.length bc2]); refine (cgb _).mono ?_; rintro e w2 ⟨rfl, b2⟩; have b3 := b1.trans (b2.mono b1.size)))
      have hb3 := hb0.trans (b3.mono hb0.size)
      have AB3 := AB.below b3
      have BB3 := BB.below b3
      have ra3 := ra.below b3
      have rb3 := rb.below b3
      clear x0 x1 x2 xlt y0 y1 y2 AB BB ra rb hb0 b1 b2 b3 cga cgb
      obtain ⟨x0, x1, x2, _, _, _, _, xlt⟩ := id AB3
      obtain ⟨y0, y1, y2, _, _, _, _, ylt⟩ := id BB3
      have ca := fun W (h : RtS W ao1 ac1 xs bo1 bc1 ys) => lentR_any n1 xs ys ao1 bo1 ac1 bc1 W h l1 l2
      have cb := fun W (h : RtS W ao2 ac2 us bo2 bc2 vs) => lentR_any n2 us vs ao2 bo2 ac2 bc2 W h l3 l4
      obtain ⟨FL, hFL⟩ : ∃ f : Nat → Lz, f = (fun j => match j with | 0 => .is (.agg #[.bool n1, .slice ao1 xs.length ac1, .slice bo1 ys.length bc1]) | 1 => .gn (LeP n1 xs ys) (fun _ _ _ h hb => h.below hb) | 2 => .is (.agg #[.bool n2, .slice ao2 us.length ac2, .slice bo2 vs.length bc2]) | 3 => .gn (LeP n2 us vs) (fun _ _ _ h hb => h.below hb) | 4 => .gn (BxP w2.heap.size) (fun _ _ _ h hb => h.below hb) | 5 => .gn (BxP w2.heap.size) (fun _ _ _ h hb => h.below hb) | 6 => .tr | 7 => .tr | _ => .tr) := ⟨_, rfl⟩
      have F0 := congrFun hFL 0
      have F1 := congrFun hFL 1
      have F2 := congrFun hFL 2
      have F3 := congrFun hFL 3
      have F4 := congrFun hFL 4
      have F5 := congrFun hFL 5
      have F6 := congrFun hFL 6
      have F7 := congrFun hFL 7
      simp only at F0 F1 F2 F3 F4 F5 F6 F7
      clear hFL
      refine region_rgX (by kernel_rfl) (fun v => ⟨#[Value.agg #[Value.bool n1, Value.slice ao1 xs.length ac1, Value.slice bo1 ys.length bc1], Value.agg #[Value.bool n2, Value.slice ao2 us.length ac2, Value.slice bo2 vs.length bc2], Value.pointer (some { block := w.heap.size, off := 0 }), Value.pointer (some { block := w.heap.size + 1, off := 0 }), Value.bool false, v 4, v 5, undef, undef, undef, undef, undef, undef, undef, undef, undef, undef, undef, undef, undef, undef, undef, undef, Value.agg #[Value.bool n1, Value.slice ao1 xs.length ac1, Value.slice bo1 ys.length bc1], Value.bool false, Value.bool false, Value.agg #[Value.bool n2, Value.slice ao2 us.length ac2, Value.slice bo2 vs.length bc2], Value.bool false, Value.bool false, undef, v 0, v 1, v 2, v 3, undef, undef, undef, undef, undef, undef, undef, undef, undef, undef, undef, undef, undef, undef, undef, undef, undef, undef, undef, undef, undef, undef, undef, undef, undef, undef, undef, undef, undef, undef, undef, undef, undef, undef, undef, undef, undef, undef, undef, undef, undef, undef, undef, undef, undef, undef, undef, undef, undef, undef, undef, undef, undef, undef, undef, undef, undef, undef, undef, undef, undef, undef, undef, undef, undef, undef, undef, undef, undef, undef, undef, undef, undef, undef, undef, undef, undef, undef, undef, undef, undef, undef, undef, undef, undef, undef, undef, undef, undef, undef, undef, undef, undef, undef, undef, undef, undef, undef, undef, undef, undef, undef, undef, undef, undef, undef, undef, undef, undef, undef, undef, undef, undef, undef, undef, undef, undef, undef, undef, undef, undef, undef, undef, undef, undef, undef, undef, undef, undef], []⟩) 6 7 (fun j => decide (j ≠ 6 ∧ j ≠ 7)) (fun j => decide (j = 4 ∨ j = 5)) FL (fun a v => ∃ g1 h1 g2 h2 gx gy, v 4 = .pointer (some ⟨gx, 0, none⟩) ∧ v 5 = .pointer (some ⟨gy, 0, none⟩) ∧ v 3 = .agg #[.bool n2, .slice (some ⟨g2, 0, none⟩) us.length (us.length + 12), .slice (some ⟨h2, 0, none⟩) vs.length (vs.length + 12)] ∧ B3q a gx (.bool n1) (.slice (some ⟨g1, 0, none⟩) xs.length (xs.length + 12)) (.slice (some ⟨h1, 0, none⟩) ys.length (ys.length + 12)) ∧ B3q a gy (.bool false) (.slice none 0 0) (.slice none 0 0) ∧ Lent a g1 xs ∧ Lent a h1 ys ∧ Lent a g2 us ∧ Lent a h2 vs ∧ B3q a w.heap.size (.bool n1) (.slice ao1 xs.length ac1) (.slice bo1 ys.length bc1) ∧ B3q a (w.heap.size + 1) (.bool n2) (.slice ao2 us.length ac2) (.slice bo2 vs.length bc2) ∧ RtS a ao1 ac1 xs bo1 bc1 ys ∧ RtS a ao2 ac2 us bo2 bc2 vs ∧ Below w.heap.size w a ∧ gx ≠ gy ∧ w2.heap.size ≤ gx ∧ w2.heap.size ≤ gy) (fun a v => ∃ g1 h1 g2 h2 gx gy, v 4 = .pointer (some ⟨gx, 0, none⟩) ∧ v 5 = .pointer (some ⟨gy, 0, none⟩) ∧ RkS w a n1 ao1 ac1 xs bo1 bc1 ys n2 ao2 ac2 us bo2 bc2 vs gx gy g1 h1 g2 h2 a.heap.size) (fun j => match j with  | _ => undef) rfl ?_ ?_
      · intro L v w' i hL hS hi
        obtain ⟨h1, h2, h3⟩ := mem_ready hi
        have h1 : i < 8 := h1
        try dsimp only
        have hcs : i = 0 ∨ i = 1 ∨ i = 2 ∨ i = 3 ∨ i = 4 ∨ i = 5 ∨ i = 6 ∨ i = 7 := by omega
        clear h1 h2 h3
        rcases hcs with rfl | rfl | rfl | rfl | rfl | rfl | rfl | rfl
        · have hns := hS.open hL hi rfl
          have hB := hS.a hns
          have rx0 : w'.cell? ⟨w.heap.size, 0, none⟩ = some _ := (hB.cell (p := ⟨w.heap.size, 0, none⟩) xlt).trans x0
          have rx1 : w'.cell? ⟨w.heap.size, 1, none⟩ = some _ := (hB.cell (p := ⟨w.heap.size, 1, none⟩) xlt).trans x1
          have rx2 : w'.cell? ⟨w.heap.size, 2, none⟩ = some _ := (hB.cell (p := ⟨w.heap.size, 2, none⟩) xlt).trans x2
          refine wpOpT_of (fun K hK => ?_)
          unfold wpOp
          go_simp
          refine Or.inl ?_
          exact hK _ _ ⟨putT v 0 (.agg #[.bool n1, .slice ao1 xs.length ac1, .slice bo1 ys.length bc1]), (by simp [putT]), hS.step hL hi rfl (by decide) (by decide) (Below.refl _ _) (fun q => absurd q (by decide)) (Lz.toIs F0)⟩
        · have hns := hS.open hL hi rfl
          have hB := hS.a hns
          have e0 := Lz.ofIs (hS.f hns 0 rfl (ready_dep hi 0 (by kernel_rfl))) F0
          refine wpOpT_of (fun K hK => ?_)
          unfold wpOp
          simp only [e0]
          go_simp
          refine Or.inl ?_
          go_at_call 7
          refine (ca _ (ra3.below hB)).mono ?_
          rintro e w1 ⟨gg, hh, rfl, m1, m2, bc⟩
          exact hK _ _ ⟨putT v 1 (.agg #[.bool n1, .slice (some ⟨gg, 0, none⟩) xs.length (xs.length + 12), .slice (some ⟨hh, 0, none⟩) ys.length (ys.length + 12)]), (by simp [putT, e0]), hS.step hL hi rfl (by decide) (by decide) (bc) (fun q => absurd q (by decide)) (Lz.toGn F1 (⟨_, _, rfl, m1, m2⟩))⟩
        · have hns := hS.open hL hi rfl
          have hB := hS.a hns
          have ry0 : w'.cell? ⟨(w.heap.size + 1), 0, none⟩ = some _ := (hB.cell (p := ⟨(w.heap.size + 1), 0, none⟩) ylt).trans y0
          have ry1 : w'.cell? ⟨(w.heap.size + 1), 1, none⟩ = some _ := (hB.cell (p := ⟨(w.heap.size + 1), 1, none⟩) ylt).trans y1
          have ry2 : w'.cell? ⟨(w.heap.size + 1), 2, none⟩ = some _ := (hB.cell (p := ⟨(w.heap.size + 1), 2, none⟩) ylt).trans y2
          refine wpOpT_of (fun K hK => ?_)
          unfold wpOp
          go_simp
          refine Or.inl ?_
          exact hK _ _ ⟨putT v 2 (.agg #[.bool n2, .slice ao2 us.length ac2, .slice bo2 vs.length bc2]), (by simp [putT]), hS.step hL hi rfl (by decide) (by decide) (Below.refl _ _) (fun q => absurd q (by decide)) (Lz.toIs F2)⟩
        · have hns := hS.open hL hi rfl
          have hB := hS.a hns
          have e2 := Lz.ofIs (hS.f hns 2 rfl (ready_dep hi 2 (by kernel_rfl))) F2
          refine wpOpT_of (fun K hK => ?_)
          unfold wpOp
          simp only [e2]
          go_simp
          refine Or.inl ?_
          go_at_call 7
          refine (cb _ (rb3.below hB)).mono ?_
          rintro e w1 ⟨gg, hh, rfl, m1, m2, bc⟩
          exact hK _ _ ⟨putT v 3 (.agg #[.bool n2, .slice (some ⟨gg, 0, none⟩) us.length (us.length + 12), .slice (some ⟨hh, 0, none⟩) vs.length (vs.length + 12)]), (by simp [putT, e2]), hS.step hL hi rfl (by decide) (by decide) (bc) (fun q => absurd q (by decide)) (Lz.toGn F3 (⟨_, _, rfl, m1, m2⟩))⟩
        · have hns := hS.open hL hi rfl
          have hB := hS.a hns
          refine wpOpT_of (fun K hK => ?_)
          unfold wpOp
          go_simp
          refine Or.inl ?_
          exact hK _ _ ⟨putT v 4 (.pointer (some ⟨w'.heap.size, 0, none⟩)), (by simp [putT]), hS.step hL hi rfl (by decide) (by decide) ((Below.refl _ _).alloc (Nat.le_refl _) _) (fun _ j hj hj2 hj3 => by
            obtain rfl : j = 5 := by simp at hj2; omega
            obtain ⟨gq, eq, uq, _⟩ := Lz.ofGn (hS.f hns 5 rfl hj3) F5
            rw [eq]
            intro hh
            injection hh with hh
            injection hh with hh
            injection hh with hh
            have := uq.lt
            omega) (Lz.toGn F4 (⟨_, rfl, B3q.new w' _ _ _ _, hB.size⟩))⟩
        · have hns := hS.open hL hi rfl
          have hB := hS.a hns
          refine wpOpT_of (fun K hK => ?_)
          unfold wpOp
          go_simp
          refine Or.inl ?_
          exact hK _ _ ⟨putT v 5 (.pointer (some ⟨w'.heap.size, 0, none⟩)), (by simp [putT]), hS.step hL hi rfl (by decide) (by decide) ((Below.refl _ _).alloc (Nat.le_refl _) _) (fun _ j hj hj2 hj3 => by
            obtain rfl : j = 4 := by simp at hj2; omega
            obtain ⟨gq, eq, uq, _⟩ := Lz.ofGn (hS.f hns 4 rfl hj3) F4
            rw [eq]
            intro hh
            injection hh with hh
            injection hh with hh
            injection hh with hh
            have := uq.lt
            omega) (Lz.toGn F5 (⟨_, rfl, B3q.new w' _ _ _ _, hB.size⟩))⟩
        · have hns := fun q => offT_not (by rw [hL]; exact (mem_ready hi).1) (mem_ready hi).2.1 q
          have hB := hS.a hns
          obtain ⟨g1, h1, e1, u1, t1⟩ := Lz.ofGn (hS.f hns 1 rfl (ready_dep hi 1 (by kernel_rfl))) F1
          obtain ⟨g3, h3, e3, u3, t3⟩ := Lz.ofGn (hS.f hns 3 rfl (ready_dep hi 3 (by kernel_rfl))) F3
          obtain ⟨g4, e4, u4, t4⟩ := Lz.ofGn (hS.f hns 4 rfl (ready_dep hi 4 (by kernel_rfl))) F4
          obtain ⟨g5, e5, u5, t5⟩ := Lz.ofGn (hS.f hns 5 rfl (ready_dep hi 5 (by kernel_rfl))) F5
          obtain ⟨p0, p1, p2, s0, s1, s2, _, _⟩ := id u4
          have hne := hS.ds hns 4 5 (by decide) rfl rfl (ready_dep hi 4 (by kernel_rfl)) (ready_dep hi 5 (by kernel_rfl))
          have hne2 : g4 ≠ g5 := fun q => hne (by rw [e4, e5, q])
          have hb8 := hb3.trans (hB.mono hb3.size)
          have kb := hb3.size
          have kx := AB3.lt
          have ky := BB3.lt
          refine wpOpT_of (fun K hK => ?_)
          unfold wpOp
          simp only [e1, e3, e4, e5]
          go_simp
          refine Or.inl ?_
          exact hK _ _ ⟨putT v 6 undef, (by simp [putT, e1, e3, e4, e5]), hS.last1 hL hi (by decide) (by kernel_rfl) (⟨g1, h1, g3, h3, g4, g5, by simp [putT, e4], by simp [putT, e5], by simp [putT, e3], u4.fill _ _ _, u5.far3 (Ne.symm hne2) _ _ _, u1.fill u4 _ _ _, t1.fill u4 _ _ _, u3.fill u4 _ _ _, t3.fill u4 _ _ _, (AB3.below hB).far3 (by omega) _ _ _, (BB3.below hB).far3 (by omega) _ _ _, (ra3.below hB).fill u4 _ _ _, (rb3.below hB).fill u4 _ _ _, below_three hb8 (by omega) _ _ _, hne2, t4, t5⟩)⟩
        · obtain ⟨g1, h1, g2, h2, gx, gy, e4, e5, e3, q1, q2, q3, q4, q5, q6, q7, q8, q9, qa, qb, qc, qd, qe⟩ := hS.z1 (ready_dep hi 6 (by kernel_rfl)) (fun q => offT_not (by rw [hL]; exact (mem_ready hi).1) (mem_ready hi).2.1 q)
          obtain ⟨p0, p1, p2, s0, s1, s2, _, _⟩ := id q2
          have kx := AB3.lt
          have ky := BB3.lt
          have z1 := q1.lt
          have z2 := q2.lt
          have z8 := q8.lt
          refine wpOpT_of (fun K hK => ?_)
          unfold wpOp
          simp only [e3, e4, e5]
          go_simp
          refine Or.inl ?_
          exact hK _ _ ⟨putT v 7 undef, (by simp [putT, e3, e4, e5]), hS.last2 hL hi (by kernel_rfl) (⟨g1, h1, g2, h2, gx, gy, by simp [putT, e4], by simp [putT, e5], q7.far3 (by omega) _ _ _, q8.far3 (by omega) _ _ _, q1.far3 qc _ _ _, q2.fill _ _ _, q3.fill q2 _ _ _, q4.fill q2 _ _ _, q5.fill q2 _ _ _, q6.fill q2 _ _ _, q9.fill q2 _ _ _, qa.fill q2 _ _ _, below_three qb (by omega) _ _ _, by simp [World.setCell]; exact z1, by simp [World.setCell]; exact z2, by simp [World.setCell]; exact z8⟩)⟩
      · intro L v w' hL hS hr
        have on := all_done hL hr (by kernel_rfl)
        obtain ⟨g1, h1, g2, h2, gx, gy, e4, e5, S⟩ := hS.z2 (on 7 (by decide))
        try dsimp only
        rw [e4, e5]
        clear hS on hr e4 e5 ca cb AB3 BB3 ra3 rb3 hb3 x0 x1 x2 xlt y0 y1 y2 ylt F0 F1 F2 F3 F4 F5 F6 F7 hL
        clear FL L
        generalize hK : w'.heap.size = K at S
        have hK' : K ≤ w'.heap.size := Nat.le_of_eq hK.symm
        clear hK
        generalize v 0 = v0 at *
        generalize v 1 = v1 at *
        generalize v 2 = v2 at *
        generalize v 3 = v3 at *
        clear v
        obtain ⟨nA, NA, DA, eA, kaA, kbA, pA, dA⟩ := add_both n1 n2 xs ys us vs hL1 hM1 hL2 hM2 l1 l2 l3 l4 ao1 bo1 ao2 bo2 (some ⟨g1, 0, none⟩) (some ⟨h1, 0, none⟩) (some ⟨g2, 0, none⟩) (some ⟨h2, 0, none⟩) ac1 bc1 ac2 bc2 (xs.length + 12) (ys.length + 12) (us.length + 12) (vs.length + 12)
        obtain ⟨nS, NS, DS, eS, kaS, kbS, pS, dS⟩ := sub_both n1 n2 xs ys us vs hL1 hM1 hL2 hM2 l1 l2 l3 l4 ao1 bo1 ao2 bo2 (some ⟨g1, 0, none⟩) (some ⟨h1, 0, none⟩) (some ⟨g2, 0, none⟩) (some ⟨h2, 0, none⟩) ac1 bc1 ac2 bc2 (xs.length + 12) (ys.length + 12) (us.length + 12) (vs.length + 12)
        obtain ⟨nM, NM, DM, eM, kaM, kbM, pM, dM⟩ := mul_both n1 n2 xs ys us vs hL1 hM1 hL2 hM2 l1 l2 l3 l4 ao1 bo1 ao2 bo2 (some ⟨g1, 0, none⟩) (some ⟨h1, 0, none⟩) (some ⟨g2, 0, none⟩) (some ⟨h2, 0, none⟩) ac1 bc1 ac2 bc2 (xs.length + 12) (ys.length + 12) (us.length + 12) (vs.length + 12)
        obtain ⟨nD, ND, DD, eD, kaD, kbD, pD, dD⟩ := div_both n1 n2 xs ys us vs hL1 hM1 hL2 hM2 l1 l2 l3 l4 ao1 bo1 ao2 bo2 (some ⟨g1, 0, none⟩) (some ⟨h1, 0, none⟩) (some ⟨g2, 0, none⟩) (some ⟨h2, 0, none⟩) ac1 bc1 ac2 bc2 (xs.length + 12) (ys.length + 12) (us.length + 12) (vs.length + 12)
        obtain ⟨cC, eC, pC, dC⟩ := cmp_both n1 n2 xs ys us vs hL1 hM1 hL2 hM2 l1 l2 l3 l4 ao1 bo1 ao2 bo2 (some ⟨g1, 0, none⟩) (some ⟨h1, 0, none⟩) (some ⟨g2, 0, none⟩) (some ⟨h2, 0, none⟩) ac1 bc1 ac2 bc2 (xs.length + 12) (ys.length + 12) (us.length + 12) (vs.length + 12)
        obtain ⟨cG, eG, pG, dG⟩ := sign_both n1 xs ys hL1 hM1 l1 l2 ao1 bo1 (some ⟨g1, 0, none⟩) (some ⟨h1, 0, none⟩) ac1 bc1 (xs.length + 12) (ys.length + 12)
        have isA := fun W ao bo ao' bo' ac bc ac' bc' a b c d => isV_any nA NA DA eA kaA kbA ao bo ao' bo' ac bc ac' bc' W a b c d
        have isS := fun W ao bo ao' bo' ac bc ac' bc' a b c d => isV_any nS NS DS eS kaS kbS ao bo ao' bo' ac bc ac' bc' W a b c d
        have isM := fun W ao bo ao' bo' ac bc ac' bc' a b c d => isV_any nM NM DM eM kaM kbM ao bo ao' bo' ac bc ac' bc' W a b c d
        have isD := fun W ao bo ao' bo' ac bc ac' bc' a b c d => isV_any nD ND DD eD kaD kbD ao bo ao' bo' ac bc ac' bc' W a b c d
        have ckA := fun W a b c => keptR_any n1 xs ys g1 h1 ao1 bo1 ac1 bc1 W a b c l1 l2
        have ckB := fun W a b c => keptR_any n2 us vs g2 h2 ao2 bo2 ac2 bc2 W a b c l3 l4
        clear l1 l2 l3 l4 hL1 hM1 hL2 hM2 kaA kbA kaS kbS kaM kbM kaD kbD
        generalize w' = U0 at *
        have KL : K ≤ U0.heap.size := hK'
        clear hK'
        obtain ⟨x0, x1, x2, _, _, _, _, _⟩ := id S.A
        obtain ⟨y0, y1, y2, _, _, _, _, _⟩ := id S.B
        obtain ⟨u0, u1, u2, _, _, _, _, _⟩ := id S.X
        obtain ⟨t0, t1, t2, _, _, _, _, _⟩ := id S.Y
        go_upto_region 5 with (go_at_call 20; refine (pA _ S.px S.py (tabW_below hT S.b)).mono ?_; rintro e w1 ⟨a1, ac1', b1, bc1', rfl, m1, k1, c1⟩)
        have z1 := (Below.refl w1.heap.size w1).alloc (Nat.le_refl _) (.cells #[.bool nA, .slice a1 (nl NA) ac1', .slice b1 (nl DA) bc1'] 24)
        have cc1 := c1.trans (z1.mono c1.size)
        replace S := S.below cc1
        have G1 := B3q.new w1 (.bool nA) (.slice a1 (nl NA) ac1') (.slice b1 (nl DA) bc1') 24
        replace m1 := m1.below z1
        replace k1 := k1.below z1
        have s1 : K ≤ w1.heap.size := by have := c1.size; omega
        generalize w1.alloc (.cells #[.bool nA, .slice a1 (nl NA) ac1', .slice b1 (nl DA) bc1'] 24) = U1 at *
        generalize w1.heap.size = b0x1 at *
        have L1 := G1.lt
        clear x0 x1 x2 y0 y1 y2 u0 u1 u2 t0 t1 t2 z1 cc1 c1 KL
        obtain ⟨x0, x1, x2, _, _, _, _, _⟩ := id S.A
        obtain ⟨y0, y1, y2, _, _, _, _, _⟩ := id S.B
        obtain ⟨u0, u1, u2, _, _, _, _, _⟩ := id S.X
        obtain ⟨t0, t1, t2, _, _, _, _, _⟩ := id S.Y
        go_upto_region 6 with (go_at_call 21; refine (dA _ S.ra S.rb).mono ?_; rintro e w2 ⟨a2, ac2', b2, bc2', rfl, m2, k2, c2⟩)
        have z2 := (Below.refl w2.heap.size w2).alloc (Nat.le_refl _) (.cells #[.bool nA, .slice a2 (nl NA) ac2', .slice b2 (nl DA) bc2'] 24)
        have cc2 := c2.trans (z2.mono c2.size)
        replace S := S.below cc2
        have G2 := B3q.new w2 (.bool nA) (.slice a2 (nl NA) ac2') (.slice b2 (nl DA) bc2') 24
        replace m2 := m2.below z2
        replace k2 := k2.below z2
        replace G1 := G1.below cc2
        replace m1 := m1.below cc2
        replace k1 := k1.below cc2
        have s2 : b0x1 + 1 ≤ w2.heap.size := by have := c2.size; have := L1; omega
        generalize w2.alloc (.cells #[.bool nA, .slice a2 (nl NA) ac2', .slice b2 (nl DA) bc2'] 24) = U2 at *
        generalize w2.heap.size = b0x2 at *
        have L2 := G2.lt
        clear x0 x1 x2 y0 y1 y2 u0 u1 u2 t0 t1 t2 z2 cc2 c2
        obtain ⟨x0, x1, x2, _, _, _, _, _⟩ := id S.A
        obtain ⟨y0, y1, y2, _, _, _, _, _⟩ := id S.B
        obtain ⟨u0, u1, u2, _, _, _, _, _⟩ := id S.X
        obtain ⟨t0, t1, t2, _, _, _, _, _⟩ := id S.Y
        go_upto_region 7 with (go_at_call 22; refine (pS _ S.px S.py (tabW_below hT S.b)).mono ?_; rintro e w3 ⟨a3, ac3', b3, bc3', rfl, m3, k3, c3⟩)
        have z3 := (Below.refl w3.heap.size w3).alloc (Nat.le_refl _) (.cells #[.bool nS, .slice a3 (nl NS) ac3', .slice b3 (nl DS) bc3'] 24)
        have cc3 := c3.trans (z3.mono c3.size)
        replace S := S.below cc3
        have G3 := B3q.new w3 (.bool nS) (.slice a3 (nl NS) ac3') (.slice b3 (nl DS) bc3') 24
        replace m3 := m3.below z3
        replace k3 := k3.below z3
        replace G1 := G1.below cc3
        replace m1 := m1.below cc3
        replace k1 := k1.below cc3
        replace G2 := G2.below cc3
        replace m2 := m2.below cc3
        replace k2 := k2.below cc3
        have s3 : b0x2 + 1 ≤ w3.heap.size := by have := c3.size; have := L2; omega
        generalize w3.alloc (.cells #[.bool nS, .slice a3 (nl NS) ac3', .slice b3 (nl DS) bc3'] 24) = U3 at *
        generalize w3.heap.size = b0x3 at *
        have L3 := G3.lt
        clear x0 x1 x2 y0 y1 y2 u0 u1 u2 t0 t1 t2 z3 cc3 c3
        obtain ⟨x0, x1, x2, _, _, _, _, _⟩ := id S.A
        obtain ⟨y0, y1, y2, _, _, _, _, _⟩ := id S.B
        obtain ⟨u0, u1, u2, _, _, _, _, _⟩ := id S.X
        obtain ⟨t0, t1, t2, _, _, _, _, _⟩ := id S.Y
        go_upto_region 8 with (go_at_call 23; refine (dS _ S.ra S.rb).mono ?_; rintro e w4 ⟨a4, ac4', b4, bc4', rfl, m4, k4, c4⟩)
        have z4 := (Below.refl w4.heap.size w4).alloc (Nat.le_refl _) (.cells #[.bool nS, .slice a4 (nl NS) ac4', .slice b4 (nl DS) bc4'] 24)
        have cc4 := c4.trans (z4.mono c4.size)
        replace S := S.below cc4
        have G4 := B3q.new w4 (.bool nS) (.slice a4 (nl NS) ac4') (.slice b4 (nl DS) bc4') 24
        replace m4 := m4.below z4
        replace k4 := k4.below z4
        replace G1 := G1.below cc4
        replace m1 := m1.below cc4
        replace k1 := k1.below cc4
        replace G2 := G2.below cc4
        replace m2 := m2.below cc4
        replace k2 := k2.below cc4
        replace G3 := G3.below cc4
        replace m3 := m3.below cc4
        replace k3 := k3.below cc4
        have s4 : b0x3 + 1 ≤ w4.heap.size := by have := c4.size; have := L3; omega
        generalize w4.alloc (.cells #[.bool nS, .slice a4 (nl NS) ac4', .slice b4 (nl DS) bc4'] 24) = U4 at *
        generalize w4.heap.size = b0x4 at *
        have L4 := G4.lt
        clear x0 x1 x2 y0 y1 y2 u0 u1 u2 t0 t1 t2 z4 cc4 c4
        obtain ⟨x0, x1, x2, _, _, _, _, _⟩ := id S.A
        obtain ⟨y0, y1, y2, _, _, _, _, _⟩ := id S.B
        obtain ⟨u0, u1, u2, _, _, _, _, _⟩ := id S.X
        obtain ⟨t0, t1, t2, _, _, _, _, _⟩ := id S.Y
        obtain ⟨v10, v11, v12, f10, f11, f12, _, _⟩ := id G1
        obtain ⟨v20, v21, v22, f20, f21, f22, _, _⟩ := id G2
        obtain ⟨v30, v31, v32, f30, f31, f32, _, _⟩ := id G3
        obtain ⟨v40, v41, v42, f40, f41, f42, _, _⟩ := id G4
        go_upto_region 10 with (first
          | (go_at_call_of 10 (Value.int IntKind.i64 eS); refine (isS _ _ _ _ _ _ _ _ _ (m3.below i1).1 (k3.below i1).1 (m4.below i1).1 (k4.below i1).1).mono ?_; rintro e wj1 ⟨rfl, j1⟩)
          | (go_at_call_of 10 (Value.int IntKind.i64 eA); refine (isA _ _ _ _ _ _ _ _ _ m1.1 k1.1 m2.1 k2.1).mono ?_; rintro e wi1 ⟨rfl, i1⟩; obtain ⟨vv30, vv31, vv32, _, _, _, _, _⟩ := G3.below i1; obtain ⟨vv40, vv41, vv42, _, _, _, _, _⟩ := G4.below i1))
        have ij1 := i1.trans (j1.mono i1.size)
        replace S := S.below ij1
        replace G1 := G1.below ij1
        replace m1 := m1.below ij1
        replace k1 := k1.below ij1
        replace G2 := G2.below ij1
        replace m2 := m2.below ij1
        replace k2 := k2.below ij1
        replace G3 := G3.below ij1
        replace m3 := m3.below ij1
        replace k3 := k3.below ij1
        replace G4 := G4.below ij1
        replace m4 := m4.below ij1
        replace k4 := k4.below ij1
        clear x0 x1 x2 y0 y1 y2 u0 u1 u2 t0 t1 t2 v10 v11 v12 f10 f11 f12 v20 v21 v22 f20 f21 f22 v30 v31 v32 f30 f31 f32 v40 v41 v42 f40 f41 f42 vv30 vv31 vv32 vv40 vv41 vv42 i1 j1 ij1
        obtain ⟨x0, x1, x2, _, _, _, _, _⟩ := id S.A
        obtain ⟨y0, y1, y2, _, _, _, _, _⟩ := id S.B
        obtain ⟨u0, u1, u2, _, _, _, _, _⟩ := id S.X
        obtain ⟨t0, t1, t2, _, _, _, _, _⟩ := id S.Y
        obtain ⟨v10, v11, v12, f10, f11, f12, _, _⟩ := id G1
        obtain ⟨v20, v21, v22, f20, f21, f22, _, _⟩ := id G2
        obtain ⟨v30, v31, v32, f30, f31, f32, _, _⟩ := id G3
        obtain ⟨v40, v41, v42, f40, f41, f42, _, _⟩ := id G4
        go_upto_region 11 with (go_at_call 24; refine (pM _ S.px S.py (tabW_below hT S.b)).mono ?_; rintro e y1w ⟨a1q, ac1q, b1q, bc1q, rfl, mm1, kk1, cq1⟩; obtain ⟨q0, q1, q2, o0, o1, o2, _, _⟩ := G1.below cq1)
        have S2 := S.below cq1
        have H1 := G1.below cq1
        replace S := S2.fill H1 (by omega) (.bool nM) (.slice a1q (nl NM) ac1q) (.slice b1q (nl DM) bc1q)
        clear S2
        replace G2 := (G2.below cq1).far3 (g := b0x1) (by omega) (.bool nM) (.slice a1q (nl NM) ac1q) (.slice b1q (nl DM) bc1q)
        replace m2 := (m2.below cq1).threeB H1 (.bool nM) (.slice a1q (nl NM) ac1q) (.slice b1q (nl DM) bc1q)
        replace k2 := (k2.below cq1).threeB H1 (.bool nM) (.slice a1q (nl NM) ac1q) (.slice b1q (nl DM) bc1q)
        replace G3 := (G3.below cq1).far3 (g := b0x1) (by omega) (.bool nM) (.slice a1q (nl NM) ac1q) (.slice b1q (nl DM) bc1q)
        replace m3 := (m3.below cq1).threeB H1 (.bool nM) (.slice a1q (nl NM) ac1q) (.slice b1q (nl DM) bc1q)
        replace k3 := (k3.below cq1).threeB H1 (.bool nM) (.slice a1q (nl NM) ac1q) (.slice b1q (nl DM) bc1q)
        replace G4 := (G4.below cq1).far3 (g := b0x1) (by omega) (.bool nM) (.slice a1q (nl NM) ac1q) (.slice b1q (nl DM) bc1q)
        replace m4 := (m4.below cq1).threeB H1 (.bool nM) (.slice a1q (nl NM) ac1q) (.slice b1q (nl DM) bc1q)
        replace k4 := (k4.below cq1).threeB H1 (.bool nM) (.slice a1q (nl NM) ac1q) (.slice b1q (nl DM) bc1q)
        replace G1 := H1.fill (.bool nM) (.slice a1q (nl NM) ac1q) (.slice b1q (nl DM) bc1q)
        replace m1 := mm1.threeB H1 (.bool nM) (.slice a1q (nl NM) ac1q) (.slice b1q (nl DM) bc1q)
        replace k1 := kk1.threeB H1 (.bool nM) (.slice a1q (nl NM) ac1q) (.slice b1q (nl DM) bc1q)
        clear H1 mm1 kk1 q0 q1 q2 o0 o1 o2
        generalize ((y1w.setCell ⟨b0x1, 0, none⟩ (.bool nM)).setCell ⟨b0x1, 1, none⟩ (.slice a1q (nl NM) ac1q)).setCell ⟨b0x1, 2, none⟩ (.slice b1q (nl DM) bc1q) = V1 at *
        clear x0 x1 x2 y0 y1 y2 u0 u1 u2 t0 t1 t2 v10 v11 v12 f10 f11 f12 v20 v21 v22 f20 f21 f22 v30 v31 v32 f30 f31 f32 v40 v41 v42 f40 f41 f42 cq1
        obtain ⟨x0, x1, x2, _, _, _, _, _⟩ := id S.A
        obtain ⟨y0, y1, y2, _, _, _, _, _⟩ := id S.B
        obtain ⟨u0, u1, u2, _, _, _, _, _⟩ := id S.X
        obtain ⟨t0, t1, t2, _, _, _, _, _⟩ := id S.Y
        obtain ⟨v10, v11, v12, f10, f11, f12, _, _⟩ := id G1
        obtain ⟨v20, v21, v22, f20, f21, f22, _, _⟩ := id G2
        obtain ⟨v30, v31, v32, f30, f31, f32, _, _⟩ := id G3
        obtain ⟨v40, v41, v42, f40, f41, f42, _, _⟩ := id G4
        go_upto_region 12 with (go_at_call 25; refine (dM _ S.ra S.rb).mono ?_; rintro e y2w ⟨a2q, ac2q, b2q, bc2q, rfl, mm2, kk2, cq2⟩; obtain ⟨q0, q1, q2, o0, o1, o2, _, _⟩ := G2.below cq2)
        have S2 := S.below cq2
        have H2 := G2.below cq2
        replace S := S2.fill H2 (by omega) (.bool nM) (.slice a2q (nl NM) ac2q) (.slice b2q (nl DM) bc2q)
        clear S2
        replace G1 := (G1.below cq2).far3 (g := b0x2) (by omega) (.bool nM) (.slice a2q (nl NM) ac2q) (.slice b2q (nl DM) bc2q)
        replace m1 := (m1.below cq2).threeB H2 (.bool nM) (.slice a2q (nl NM) ac2q) (.slice b2q (nl DM) bc2q)
        replace k1 := (k1.below cq2).threeB H2 (.bool nM) (.slice a2q (nl NM) ac2q) (.slice b2q (nl DM) bc2q)
        replace G3 := (G3.below cq2).far3 (g := b0x2) (by omega) (.bool nM) (.slice a2q (nl NM) ac2q) (.slice b2q (nl DM) bc2q)
        replace m3 := (m3.below cq2).threeB H2 (.bool nM) (.slice a2q (nl NM) ac2q) (.slice b2q (nl DM) bc2q)
        replace k3 := (k3.below cq2).threeB H2 (.bool nM) (.slice a2q (nl NM) ac2q) (.slice b2q (nl DM) bc2q)
        replace G4 := (G4.below cq2).far3 (g := b0x2) (by omega) (.bool nM) (.slice a2q (nl NM) ac2q) (.slice b2q (nl DM) bc2q)
        replace m4 := (m4.below cq2).threeB H2 (.bool nM) (.slice a2q (nl NM) ac2q) (.slice b2q (nl DM) bc2q)
        replace k4 := (k4.below cq2).threeB H2 (.bool nM) (.slice a2q (nl NM) ac2q) (.slice b2q (nl DM) bc2q)
        replace G2 := H2.fill (.bool nM) (.slice a2q (nl NM) ac2q) (.slice b2q (nl DM) bc2q)
        replace m2 := mm2.threeB H2 (.bool nM) (.slice a2q (nl NM) ac2q) (.slice b2q (nl DM) bc2q)
        replace k2 := kk2.threeB H2 (.bool nM) (.slice a2q (nl NM) ac2q) (.slice b2q (nl DM) bc2q)
        clear H2 mm2 kk2 q0 q1 q2 o0 o1 o2
        generalize ((y2w.setCell ⟨b0x2, 0, none⟩ (.bool nM)).setCell ⟨b0x2, 1, none⟩ (.slice a2q (nl NM) ac2q)).setCell ⟨b0x2, 2, none⟩ (.slice b2q (nl DM) bc2q) = V2 at *
        clear x0 x1 x2 y0 y1 y2 u0 u1 u2 t0 t1 t2 v10 v11 v12 f10 f11 f12 v20 v21 v22 f20 f21 f22 v30 v31 v32 f30 f31 f32 v40 v41 v42 f40 f41 f42 cq2
        obtain ⟨x0, x1, x2, _, _, _, _, _⟩ := id S.A
        obtain ⟨y0, y1, y2, _, _, _, _, _⟩ := id S.B
        obtain ⟨u0, u1, u2, _, _, _, _, _⟩ := id S.X
        obtain ⟨t0, t1, t2, _, _, _, _, _⟩ := id S.Y
        obtain ⟨v10, v11, v12, f10, f11, f12, _, _⟩ := id G1
        obtain ⟨v20, v21, v22, f20, f21, f22, _, _⟩ := id G2
        obtain ⟨v30, v31, v32, f30, f31, f32, _, _⟩ := id G3
        obtain ⟨v40, v41, v42, f40, f41, f42, _, _⟩ := id G4
        go_upto_region 13 with (go_at_call 26; refine (pD _ S.px S.py (tabW_below hT S.b)).mono ?_; rintro e y3w ⟨a3q, ac3q, b3q, bc3q, rfl, mm3, kk3, cq3⟩; obtain ⟨q0, q1, q2, o0, o1, o2, _, _⟩ := G3.below cq3)
        have S2 := S.below cq3
        have H3 := G3.below cq3
        replace S := S2.fill H3 (by omega) (.bool nD) (.slice a3q (nl ND) ac3q) (.slice b3q (nl DD) bc3q)
        clear S2
        replace G1 := (G1.below cq3).far3 (g := b0x3) (by omega) (.bool nD) (.slice a3q (nl ND) ac3q) (.slice b3q (nl DD) bc3q)
        replace m1 := (m1.below cq3).threeB H3 (.bool nD) (.slice a3q (nl ND) ac3q) (.slice b3q (nl DD) bc3q)
        replace k1 := (k1.below cq3).threeB H3 (.bool nD) (.slice a3q (nl ND) ac3q) (.slice b3q (nl DD) bc3q)
        replace G2 := (G2.below cq3).far3 (g := b0x3) (by omega) (.bool nD) (.slice a3q (nl ND) ac3q) (.slice b3q (nl DD) bc3q)
        replace m2 := (m2.below cq3).threeB H3 (.bool nD) (.slice a3q (nl ND) ac3q) (.slice b3q (nl DD) bc3q)
        replace k2 := (k2.below cq3).threeB H3 (.bool nD) (.slice a3q (nl ND) ac3q) (.slice b3q (nl DD) bc3q)
        replace G4 := (G4.below cq3).far3 (g := b0x3) (by omega) (.bool nD) (.slice a3q (nl ND) ac3q) (.slice b3q (nl DD) bc3q)
        replace m4 := (m4.below cq3).threeB H3 (.bool nD) (.slice a3q (nl ND) ac3q) (.slice b3q (nl DD) bc3q)
        replace k4 := (k4.below cq3).threeB H3 (.bool nD) (.slice a3q (nl ND) ac3q) (.slice b3q (nl DD) bc3q)
        replace G3 := H3.fill (.bool nD) (.slice a3q (nl ND) ac3q) (.slice b3q (nl DD) bc3q)
        replace m3 := mm3.threeB H3 (.bool nD) (.slice a3q (nl ND) ac3q) (.slice b3q (nl DD) bc3q)
        replace k3 := kk3.threeB H3 (.bool nD) (.slice a3q (nl ND) ac3q) (.slice b3q (nl DD) bc3q)
        clear H3 mm3 kk3 q0 q1 q2 o0 o1 o2
        generalize ((y3w.setCell ⟨b0x3, 0, none⟩ (.bool nD)).setCell ⟨b0x3, 1, none⟩ (.slice a3q (nl ND) ac3q)).setCell ⟨b0x3, 2, none⟩ (.slice b3q (nl DD) bc3q) = V3 at *
        clear x0 x1 x2 y0 y1 y2 u0 u1 u2 t0 t1 t2 v10 v11 v12 f10 f11 f12 v20 v21 v22 f20 f21 f22 v30 v31 v32 f30 f31 f32 v40 v41 v42 f40 f41 f42 cq3
        obtain ⟨x0, x1, x2, _, _, _, _, _⟩ := id S.A
        obtain ⟨y0, y1, y2, _, _, _, _, _⟩ := id S.B
        obtain ⟨u0, u1, u2, _, _, _, _, _⟩ := id S.X
        obtain ⟨t0, t1, t2, _, _, _, _, _⟩ := id S.Y
        obtain ⟨v10, v11, v12, f10, f11, f12, _, _⟩ := id G1
        obtain ⟨v20, v21, v22, f20, f21, f22, _, _⟩ := id G2
        obtain ⟨v30, v31, v32, f30, f31, f32, _, _⟩ := id G3
        obtain ⟨v40, v41, v42, f40, f41, f42, _, _⟩ := id G4
        go_upto_region 14 with (go_at_call 27; refine (dD _ S.ra S.rb).mono ?_; rintro e y4w ⟨a4q, ac4q, b4q, bc4q, rfl, mm4, kk4, cq4⟩; obtain ⟨q0, q1, q2, o0, o1, o2, _, _⟩ := G4.below cq4)
        have S2 := S.below cq4
        have H4 := G4.below cq4
        replace S := S2.fill H4 (by omega) (.bool nD) (.slice a4q (nl ND) ac4q) (.slice b4q (nl DD) bc4q)
        clear S2
        replace G1 := (G1.below cq4).far3 (g := b0x4) (by omega) (.bool nD) (.slice a4q (nl ND) ac4q) (.slice b4q (nl DD) bc4q)
        replace m1 := (m1.below cq4).threeB H4 (.bool nD) (.slice a4q (nl ND) ac4q) (.slice b4q (nl DD) bc4q)
        replace k1 := (k1.below cq4).threeB H4 (.bool nD) (.slice a4q (nl ND) ac4q) (.slice b4q (nl DD) bc4q)
        replace G2 := (G2.below cq4).far3 (g := b0x4) (by omega) (.bool nD) (.slice a4q (nl ND) ac4q) (.slice b4q (nl DD) bc4q)
        replace m2 := (m2.below cq4).threeB H4 (.bool nD) (.slice a4q (nl ND) ac4q) (.slice b4q (nl DD) bc4q)
        replace k2 := (k2.below cq4).threeB H4 (.bool nD) (.slice a4q (nl ND) ac4q) (.slice b4q (nl DD) bc4q)
        replace G3 := (G3.below cq4).far3 (g := b0x4) (by omega) (.bool nD) (.slice a4q (nl ND) ac4q) (.slice b4q (nl DD) bc4q)
        replace m3 := (m3.below cq4).threeB H4 (.bool nD) (.slice a4q (nl ND) ac4q) (.slice b4q (nl DD) bc4q)
        replace k3 := (k3.below cq4).threeB H4 (.bool nD) (.slice a4q (nl ND) ac4q) (.slice b4q (nl DD) bc4q)
        replace G4 := H4.fill (.bool nD) (.slice a4q (nl ND) ac4q) (.slice b4q (nl DD) bc4q)
        replace m4 := mm4.threeB H4 (.bool nD) (.slice a4q (nl ND) ac4q) (.slice b4q (nl DD) bc4q)
        replace k4 := kk4.threeB H4 (.bool nD) (.slice a4q (nl ND) ac4q) (.slice b4q (nl DD) bc4q)
        clear H4 mm4 kk4 q0 q1 q2 o0 o1 o2
        generalize ((y4w.setCell ⟨b0x4, 0, none⟩ (.bool nD)).setCell ⟨b0x4, 1, none⟩ (.slice a4q (nl ND) ac4q)).setCell ⟨b0x4, 2, none⟩ (.slice b4q (nl DD) bc4q) = V4 at *
        clear x0 x1 x2 y0 y1 y2 u0 u1 u2 t0 t1 t2 v10 v11 v12 f10 f11 f12 v20 v21 v22 f20 f21 f22 v30 v31 v32 f30 f31 f32 v40 v41 v42 f40 f41 f42 cq4
        obtain ⟨x0, x1, x2, _, _, _, _, _⟩ := id S.A
        obtain ⟨y0, y1, y2, _, _, _, _, _⟩ := id S.B
        obtain ⟨u0, u1, u2, _, _, _, _, _⟩ := id S.X
        obtain ⟨t0, t1, t2, _, _, _, _, _⟩ := id S.Y
        obtain ⟨v10, v11, v12, f10, f11, f12, _, _⟩ := id G1
        obtain ⟨v20, v21, v22, f20, f21, f22, _, _⟩ := id G2
        obtain ⟨v30, v31, v32, f30, f31, f32, _, _⟩ := id G3
        obtain ⟨v40, v41, v42, f40, f41, f42, _, _⟩ := id G4
        go_upto_region 16 with (first
          | (go_at_call_of 10 (Value.int IntKind.i64 eD); refine (isD _ _ _ _ _ _ _ _ _ (m3.below i2).1 (k3.below i2).1 (m4.below i2).1 (k4.below i2).1).mono ?_; rintro e wj2 ⟨rfl, j2⟩)
          | (go_at_call_of 10 (Value.int IntKind.i64 eM); refine (isM _ _ _ _ _ _ _ _ _ m1.1 k1.1 m2.1 k2.1).mono ?_; rintro e wi2 ⟨rfl, i2⟩; obtain ⟨vv30, vv31, vv32, _, _, _, _, _⟩ := G3.below i2; obtain ⟨vv40, vv41, vv42, _, _, _, _, _⟩ := G4.below i2))
        have ij2 := i2.trans (j2.mono i2.size)
        replace S := S.below ij2
        replace G1 := G1.below ij2
        replace m1 := m1.below ij2
        replace k1 := k1.below ij2
        replace G2 := G2.below ij2
        replace m2 := m2.below ij2
        replace k2 := k2.below ij2
        replace G3 := G3.below ij2
        replace m3 := m3.below ij2
        replace k3 := k3.below ij2
        replace G4 := G4.below ij2
        replace m4 := m4.below ij2
        replace k4 := k4.below ij2
        clear x0 x1 x2 y0 y1 y2 u0 u1 u2 t0 t1 t2 v10 v11 v12 f10 f11 f12 v20 v21 v22 f20 f21 f22 v30 v31 v32 f30 f31 f32 v40 v41 v42 f40 f41 f42 vv30 vv31 vv32 vv40 vv41 vv42 i2 j2 ij2
        obtain ⟨x0, x1, x2, _, _, _, _, _⟩ := id S.A
        obtain ⟨y0, y1, y2, _, _, _, _, _⟩ := id S.B
        obtain ⟨u0, u1, u2, _, _, _, _, _⟩ := id S.X
        obtain ⟨t0, t1, t2, _, _, _, _, _⟩ := id S.Y
        obtain ⟨v10, v11, v12, f10, f11, f12, _, _⟩ := id G1
        obtain ⟨v20, v21, v22, f20, f21, f22, _, _⟩ := id G2
        obtain ⟨v30, v31, v32, f30, f31, f32, _, _⟩ := id G3
        obtain ⟨v40, v41, v42, f40, f41, f42, _, _⟩ := id G4
        clear G1 G2 G3 G4 m1 m2 m3 m4 k1 k2 k3 k4 v10 v11 v12 f10 f11 f12 v20 v21 v22 f20 f21 f22 v30 v31 v32 f30 f31 f32 v40 v41 v42 f40 f41 f42
        go_upto_region 20 with (first
          | (go_at_call 28; refine (pC _ S.px S.py (tabW_below hT S.b)).mono ?_; rintro e w5 ⟨rfl, c5⟩; have S5 := S.below c5; obtain ⟨xa0, xa1, xa2, _, _, _, _, _⟩ := id S5.A; obtain ⟨ya0, ya1, ya2, _, _, _, _, _⟩ := id S5.B)
          | (go_at_call 29; refine (dC _ S5.ra S5.rb).mono ?_; rintro e w6 ⟨rfl, c6⟩; have S6 := S5.below c6; obtain ⟨ua0, ua1, ua2, _, _, _, _, _⟩ := id S6.X)
          | (go_at_call 30; refine (pG _ S6.px (tabW_below hT S6.b)).mono ?_; rintro e w7 ⟨rfl, c7⟩; have S7 := S6.below c7; obtain ⟨xb0, xb1, xb2, _, _, _, _, _⟩ := id S7.A)
          | (go_at_call 31; refine (dG _ S7.ra).mono ?_; rintro e w8 ⟨rfl, c8⟩; have S8 := S7.below c8))
        clear x0 x1 x2 y0 y1 y2 u0 u1 u2 t0 t1 t2 xa0 xa1 xa2 ya0 ya1 ya2 ua0 ua1 ua2 xb0 xb1 xb2 S S5 S6 S7 c5 c6 c7 c8
        obtain ⟨x0, x1, x2, _, _, _, _, _⟩ := id S8.A
        obtain ⟨y0, y1, y2, _, _, _, _, _⟩ := id S8.B
        obtain ⟨u0, u1, u2, _, _, _, _, _⟩ := id S8.X
        obtain ⟨t0, t1, t2, _, _, _, _, _⟩ := id S8.Y
        have i0 : (cC == cC) = true := beq_self_eq_true _
        have i1 : (eC == eC) = true := beq_self_eq_true _
        have i2 : (cG == cG) = true := beq_self_eq_true _
        have i3 : (eG == eG) = true := beq_self_eq_true _
        go_wp2_with (first
          | (go_at_call_of 13 (Value.agg #[Value.bool n1, Value.slice ao1 xs.length ac1, Value.slice bo1 ys.length bc1]); refine (ckA _ S8.l1 S8.l2 S8.ra).mono ?_; rintro e w9 ⟨rfl, c9⟩; have S9 := S8.below c9; obtain ⟨ya0, ya1, ya2, _, _, _, _, _⟩ := id S9.B; obtain ⟨ta0, ta1, ta2, _, _, _, _, _⟩ := id S9.Y)
          | (go_at_call_of 13 (Value.agg #[Value.bool n2, Value.slice ao2 us.length ac2, Value.slice bo2 vs.length bc2]); refine (ckB _ S9.l3 S9.l4 S9.rb).mono ?_; rintro e w10 ⟨rfl, c10⟩; have S10 := S9.below c10)
          | (go_at_call 6; refine (caw _ (tabW_below hT S10.b)).mono ?_; rintro e w11 ⟨rfl, c11⟩; have S11 := S10.below c11))
        go_ret
        exact ⟨rfl, S11.b⟩
end Go.Proofs.YtnclddfljghebaaGreatDoor
