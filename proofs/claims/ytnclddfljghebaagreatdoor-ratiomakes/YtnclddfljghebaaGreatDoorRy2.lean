/- RatioMakes: the walk. (Written by mkry2.py.) -/
import Derived.Test.YtnclddfljghebaaGreatDoorRy1
import Derived.Test.YtnclddfljghebaaGreatDoorRx4
import Derived.Test.YtnclddfljghebaaGreatDoorMf
namespace Go.Proofs.YtnclddfljghebaaGreatDoor
open Go.RowKit

theorem od_len {d : Dy} {n : Bool} {N D : Nat} {er : Int} (hL : Lm d.mag) (hq : toT (odA d) = ((n, N, D), er)) : nl N ≤ 256 ∧ nl D ≤ 256 := by
  cases hr : rightB d
  · have e : odA d = (none, 2) := by unfold odA; rw [hr]; rfl
    rw [e] at hq
    exact toT_len hq (fun r h => by cases h)
  · exact nm_len ((od_like hL hr).trans hq)
theorem of_len {x : Nat} {n : Bool} {N D : Nat} {er : Int} (hq : toT (ofR x) = ((n, N, D), er)) : nl N ≤ 256 ∧ nl D ≤ 256 := by
  cases hf : finB x
  · rw [of_bad hf] at hq
    exact toT_len hq (fun r h => by cases h)
  · exact nm_len ((of_like hf).trans hq)
set_option maxRecDepth 100000 in
set_option maxHeartbeats 1000000 in
theorem rofdw7_any (neg : Bool) (xs : List Nat) (ex : Int) (ao : Option Addr) (cap : Nat) (w : World) (h : LRow w ao xs) (hL : Lm xs) (hr : rightB ⟨neg, xs, ex⟩ = false) :
    Calls Tryz.prog 17 #[.agg #[.bool neg, .slice ao xs.length cap, .int .i64 ex]] w (GaveR w none 2) := by
  have AB := (B3q.new w (.bool neg) (.slice ao xs.length cap) (.int .i64 ex) 27).alloc (.cells #[.bool false, .slice none 0 0, .slice none 0 0] 24)
  have OB := B3q.new (w.alloc (.cells #[.bool neg, .slice ao xs.length cap, .int .i64 ex] 27)) (.bool false) (.slice none 0 0) (.slice none 0 0) 24
  have hs1 : (w.alloc (.cells #[.bool neg, .slice ao xs.length cap, .int .i64 ex] 27)).heap.size = w.heap.size + 1 := by simp
  rw [hs1] at OB
  have hb0 : Below w.heap.size w ((w.alloc (.cells #[.bool neg, .slice ao xs.length cap, .int .i64 ex] 27)).alloc (.cells #[.bool false, .slice none 0 0, .slice none 0 0] 24)) := ((Below.refl _ _).alloc (Nat.le_refl _) _).alloc (by rw [hs1]; omega) _
  have cr := right_any ⟨neg, xs, ex⟩ ao cap _ (h.below hb0) hL
  rw [hr] at cr
  simp only at cr
  clear hs1 hr
  go_enter Tryz.func17, Tryz.ntmps17
  go_upto_region 1 with fail
  generalize (w.alloc (.cells #[.bool neg, .slice ao xs.length cap, .int .i64 ex] 27)).alloc (.cells #[.bool false, .slice none 0 0, .slice none 0 0] 24) = W0 at *
  obtain ⟨x0, x1, x2, _, _, _, _, xlt⟩ := id AB
  go_wp2_with (go_at_call 54; refine cr.mono ?_; rintro e w1 ⟨rfl, b1⟩; have OB1 := OB.below b1; obtain ⟨o0, o1, o2, q0, q1, q2, _, _⟩ := id OB1)
  exact bodyPost_ret (v := .tuple #[.agg #[.bool false, .slice none 0 0, .slice none 0 0], .int .i64 2]) (by simp [results, Tryz.results17, go_sem, o0, o1, o2]) rfl ⟨rfl, below_three (hb0.trans (b1.mono hb0.size)) (by omega) _ _ _⟩
theorem ofd_prog (d : Dy) (hL : Lm d.mag) (he : d.exp ≤ 9223372036854775807) {n : Bool} {N D : Nat} {er : Int} (hq : toT (odA d) = ((n, N, D), er)) (ao : Option Addr) (cap : Nat) (w : World) (h : LRow w ao d.mag) :
    Calls Tryz.prog 17 #[.agg #[.bool d.neg, .slice ao d.mag.length cap, .int .i64 d.exp]] w (GaveV w n N D er) := by
  cases hr : rightB d
  · have e : odA d = (none, 2) := by unfold odA; rw [hr]; rfl
    rw [e] at hq
    exact (rofdw7_any d.neg d.mag d.exp ao cap w h hL hr).mono fun _ _ k => gaveV_of hq k
  · obtain ⟨_, q2, _⟩ := rightB_bd hr
    exact (rofd_any d.neg d.mag d.exp ao cap w h hL ⟨by omega, he⟩).mono fun _ _ k => gaveV_of hq k
/-- What stands in memory behind the first lending. -/
structure MkS (w W : World) (n : Bool) (ao : Option Addr) (ac : Nat) (xs : List Nat) (bo : Option Addr) (bc : Nat) (ys : List Nat) (dn : Bool) (eo : Option Addr) (dc : Nat) (dm : List Nat) (de : Int) (gx g1 h1 K : Nat) : Prop where
  A : B3q W w.heap.size (.bool n) (.slice ao xs.length ac) (.slice bo ys.length bc)
  D : B3q W (w.heap.size + 1) (.bool dn) (.slice eo dm.length dc) (.int .i64 de)
  X : B3q W gx (.bool n) (.slice (some ⟨g1, 0, none⟩) xs.length (xs.length + 12)) (.slice (some ⟨h1, 0, none⟩) ys.length (ys.length + 12))
  l1 : Lent W g1 xs
  l2 : Lent W h1 ys
  ra : RtS W ao ac xs bo bc ys
  rd : LS W eo dc dm
  b : Below w.heap.size w W
  kx : gx < K
  kw : w.heap.size + 1 < K
section
variable {w W W' : World} {n : Bool} {ao : Option Addr} {ac : Nat} {xs : List Nat} {bo : Option Addr} {bc : Nat} {ys : List Nat} {dn : Bool} {eo : Option Addr} {dc : Nat} {dm : List Nat} {de : Int} {gx g1 h1 K : Nat}
theorem MkS.below (h : MkS w W n ao ac xs bo bc ys dn eo dc dm de gx g1 h1 K) (hb : Below W.heap.size W W') : MkS w W' n ao ac xs bo bc ys dn eo dc dm de gx g1 h1 K :=
  ⟨h.A.below hb, h.D.below hb, h.X.below hb, h.l1.below hb, h.l2.below hb, h.ra.below hb, h.rd.below hb, h.b.trans (hb.mono h.b.size), h.kx, h.kw⟩
theorem MkS.fill (h : MkS w W n ao ac xs bo bc ys dn eo dc dm de gx g1 h1 K) {g : Nat} {x : Bool} {y0 z0 : Option Addr} {y1 y2 z1 z2 : Nat} (hB : B3q W g (.bool x) (.slice y0 y1 y2) (.slice z0 z1 z2)) (hg : K ≤ g) (p q r : Value) : MkS w (((W.setCell ⟨g, 0, none⟩ p).setCell ⟨g, 1, none⟩ q).setCell ⟨g, 2, none⟩ r) n ao ac xs bo bc ys dn eo dc dm de gx g1 h1 K := by
  have k1 := h.kx
  have k3 := h.kw
  exact ⟨h.A.far3 (by omega) _ _ _, h.D.far3 (by omega) _ _ _, h.X.far3 (by omega) _ _ _, h.l1.fill hB _ _ _, h.l2.fill hB _ _ _, h.ra.fill hB _ _ _, h.rd.threeB hB _ _ _, below_three h.b (by omega) _ _ _, k1, k3⟩
theorem MkS.px (h : MkS w W n ao ac xs bo bc ys dn eo dc dm de gx g1 h1 K) : RtS W (some ⟨g1, 0, none⟩) (xs.length + 12) xs (some ⟨h1, 0, none⟩) (ys.length + 12) ys := ⟨h.l1.ls, h.l2.ls⟩
end
set_option maxRecDepth 100000 in
set_option maxHeartbeats 16000000 in
theorem makes_law (n : Bool) (xs ys : List Nat) (ao bo : Option Addr) (ac bc : Nat) (x : Nat) (d : Dy) (eo : Option Addr) (dc : Nat) (w : World) (a1 : LS w ao ac xs) (b1 : LS w bo bc ys) (hL : Lm xs) (hM : Lm ys) (hx : x < 18446744073709551616) (d1 : LS w eo dc d.mag) (hD : Lm d.mag) (he2 : d.exp ≤ 9223372036854775807) (hT : TabW w) :
    Calls Tryz.prog 3 #[.agg #[.bool n, .slice ao xs.length ac, .slice bo ys.length bc], .float .f64 x, .agg #[.bool d.neg, .slice eo d.mag.length dc, .int .i64 d.exp]] w fun e w' => e = .returned (.bool true) ∧ Below w.heap.size w w' := by
  obtain ⟨dn, dm, de⟩ := d
  simp only at *
  have hs1 : (w.alloc (.cells #[.bool n, .slice ao xs.length ac, .slice bo ys.length bc] 24)).heap.size = w.heap.size + 1 := by simp
  have AB := (B3q.new w (.bool n) (.slice ao xs.length ac) (.slice bo ys.length bc) 24).alloc (.cells #[.bool dn, .slice eo dm.length dc, .int .i64 de] 27)
  have DB := B3q.new (w.alloc (.cells #[.bool n, .slice ao xs.length ac, .slice bo ys.length bc] 24)) (.bool dn) (.slice eo dm.length dc) (.int .i64 de) 27
  rw [hs1] at DB
  have hb0 : Below w.heap.size w ((w.alloc (.cells #[.bool n, .slice ao xs.length ac, .slice bo ys.length bc] 24)).alloc (.cells #[.bool dn, .slice eo dm.length dc, .int .i64 de] 27)) := ((Below.refl w.heap.size w).alloc (Nat.le_refl _) _).alloc (by rw [hs1]; omega) _
  have ra : RtS ((w.alloc (.cells #[.bool n, .slice ao xs.length ac, .slice bo ys.length bc] 24)).alloc (.cells #[.bool dn, .slice eo dm.length dc, .int .i64 de] 27)) ao ac xs bo bc ys := (RtS.mk a1 b1).below hb0
  have rd : LS ((w.alloc (.cells #[.bool n, .slice ao xs.length ac, .slice bo ys.length bc] 24)).alloc (.cells #[.bool dn, .slice eo dm.length dc, .int .i64 de] 27)) eo dc dm := d1.below hb0
  have cg := fun W => great7_any n xs ys ao bo ac bc W
  have caw := fun W hW => rawake_any W hW
  clear a1 b1 d1 hs1
  by_cases hg : 300 < xs.length ∨ 300 < ys.length
  · have e : (decide (300 < xs.length) || decide (300 < ys.length)) = true := by simpa using hg
    rw [e] at cg
    clear e hg
    have T0 := tabW_below hT hb0
    go_enter Tryz.func3, Tryz.ntmps3
    go_upto_region 1 with fail
    generalize (w.alloc (.cells #[.bool n, .slice ao xs.length ac, .slice bo ys.length bc] 24)).alloc (.cells #[.bool dn, .slice eo dm.length dc, .int .i64 de] 27) = W0 at *
    obtain ⟨x0, x1, x2, _, _, _, _, xlt⟩ := id AB
    go_wp2_with (first
      | (go_at_call 5; refine (cg _).mono ?_; rintro e w1 ⟨rfl, b1⟩)
      | (go_at_call 6; refine (caw _ (tabW_below T0 b1)).mono ?_; rintro e w2 ⟨rfl, b2⟩))
    go_ret
    exact ⟨rfl, hb0.trans ((b1.trans (b2.mono b1.size)).mono hb0.size)⟩
  · have e : (decide (300 < xs.length) || decide (300 < ys.length)) = false := by
      rw [Bool.or_eq_false_iff, decide_eq_false_iff_not, decide_eq_false_iff_not]
      omega
    rw [e] at cg
    have l1 : xs.length ≤ 300 := by omega
    have l2 : ys.length ≤ 300 := by omega
    clear e hg
    by_cases hgd : 300 < dm.length
    · have i0 : (300 : Int) < (dm.length : Int) := by omega
      have T0 := tabW_below hT hb0
      clear hgd
      go_enter Tryz.func3, Tryz.ntmps3
      go_upto_region 1 with fail
      generalize (w.alloc (.cells #[.bool n, .slice ao xs.length ac, .slice bo ys.length bc] 24)).alloc (.cells #[.bool dn, .slice eo dm.length dc, .int .i64 de] 27) = W0 at *
      obtain ⟨x0, x1, x2, _, _, _, _, xlt⟩ := id AB
      go_wp2_with (first
        | (go_at_call 5; refine (cg _).mono ?_; rintro e w1 ⟨rfl, b1⟩; obtain ⟨y0, y1, y2, _, _, _, _, _⟩ := DB.below b1)
        | (go_at_call 6; refine (caw _ (tabW_below T0 b1)).mono ?_; rintro e w2 ⟨rfl, b2⟩))
      go_ret
      exact ⟨rfl, hb0.trans ((b1.trans (b2.mono b1.size)).mono hb0.size)⟩
    · have i0 : ¬ (300 : Int) < (dm.length : Int) := by omega
      have l3 : dm.length ≤ 300 := by omega
      clear hgd
      have ca := fun W (h : RtS W ao ac xs bo bc ys) => lentR_any n xs ys ao bo ac bc W h l1 l2
      obtain ⟨nN, NN, DN, eN, tN⟩ := toT_eq (nmA n (vl xs) (vl ys))
      obtain ⟨ka1, kb1⟩ := nm_len tN
      have pN := fun W po pc qo qc (h : RtS W po pc xs qo qc ys) hW => (rnorm_any n xs ys po qo pc qc W h.n h.d hL hM (by omega) (by omega) hW).mono fun _ _ k => gaveV_of tN k
      have dN := fun W (h : RtS W ao ac xs bo bc ys) => dnorm7_any n xs ys ao bo ac bc W (ls_ns h.n) (ls_ns h.d) hL hM (by omega) (by omega) tN
      obtain ⟨nF, NF, DF, eF, tF⟩ := toT_eq (ofR x)
      obtain ⟨ka2, kb2⟩ := of_len tF
      have pF := fun W hW => (rof_any x hx W hW).mono fun _ _ k => gaveV_of tF k
      have dF := fun W => dof7_any x hx W tF
      obtain ⟨nD, ND, DD, eD, tD⟩ := toT_eq (odA ⟨dn, dm, de⟩)
      obtain ⟨ka3, kb3⟩ := od_len hD tD
      have pD := fun W po pc (h : LRow W po dm) => ofd_prog ⟨dn, dm, de⟩ hD he2 tD po pc W h
      have dD := fun W (h : LS W eo dc dm) => dofd7_any ⟨dn, dm, de⟩ eo dc W (ls_ns h) hD l3 tD
      simp only at pD dD
      have pR := fun W po pc qo qc (h : RtS W po pc xs qo qc ys) hW => rright_any n xs ys po qo pc qc W h.n.1 h.d.1 hL hM hW
      have dR := fun W (h : RtS W ao ac xs bo bc ys) => dright7_any n xs ys ao bo ac bc W (ls_ns h.n) (ls_ns h.d) hL hM (by omega) (by omega)
      have isN := fun W ao bo ao' bo' ac bc ac' bc' a b c d => isV_any nN NN DN eN ka1 kb1 ao bo ao' bo' ac bc ac' bc' W a b c d
      have isF := fun W ao bo ao' bo' ac bc ac' bc' a b c d => isV_any nF NF DF eF ka2 kb2 ao bo ao' bo' ac bc ac' bc' W a b c d
      have isD := fun W ao bo ao' bo' ac bc ac' bc' a b c d => isV_any nD ND DD eD ka3 kb3 ao bo ao' bo' ac bc ac' bc' W a b c d
      have ckA := fun W g h (a : Lent W g xs) (b : Lent W h ys) c => keptR_any n xs ys g h ao bo ac bc W a b c l1 l2
      have cld := fun W (h : LS W eo dc dm) => lentDyad_any ⟨dn, dm, de⟩ eo dc W h.1 (ls_ns h).2.1 (by simp only; omega)
      have ckd := fun W g (h : LS W eo dc dm) (a : Lent W g dm) => keptDyad_any ⟨dn, dm, de⟩ eo dc g W h.1 a (by simp only; omega)
      simp only at cld ckd
      generalize rtB n xs ys = rb at *
      clear ka1 kb1 ka2 kb2 ka3 kb3 tN tF tD l1 l2 l3 hL hM hD he2 hx
      go_enter Tryz.func3, Tryz.ntmps3
      go_upto_region 1 with fail
      generalize (w.alloc (.cells #[.bool n, .slice ao xs.length ac, .slice bo ys.length bc] 24)).alloc (.cells #[.bool dn, .slice eo dm.length dc, .int .i64 de] 27) = W0 at *
      obtain ⟨x0, x1, x2, _, _, _, _, xlt⟩ := id AB
      go_upto_region 4 with (first
        | (go_at_call 5; refine (cg _).mono ?_; rintro e w1 ⟨rfl, b1⟩; obtain ⟨y0, y1, y2, _, _, _, _, _⟩ := DB.below b1; obtain ⟨x0', x1', x2', _, _, _, _, _⟩ := AB.below b1)
        | (go_at_call 7; refine (ca _ (ra.below b1)).mono ?_; rintro e w2 ⟨g1, h1, rfl, m1, m2, b2⟩))
      have b3 := (Below.refl w2.heap.size w2).alloc (Nat.le_refl _) (.cells #[.bool n, .slice (some ⟨g1, 0, none⟩) xs.length (xs.length + 12), .slice (some ⟨h1, 0, none⟩) ys.length (ys.length + 12)] 24)
      have b12 := b1.trans (b2.mono b1.size)
      have b13 := b12.trans (b3.mono b12.size)
      have XB := B3q.new w2 (.bool n) (.slice (some ⟨g1, 0, none⟩) xs.length (xs.length + 12)) (.slice (some ⟨h1, 0, none⟩) ys.length (ys.length + 12)) 24
      have S : MkS w (w2.alloc (.cells #[.bool n, .slice (some ⟨g1, 0, none⟩) xs.length (xs.length + 12), .slice (some ⟨h1, 0, none⟩) ys.length (ys.length + 12)] 24)) n ao ac xs bo bc ys dn eo dc dm de w2.heap.size g1 h1 (w2.alloc (.cells #[.bool n, .slice (some ⟨g1, 0, none⟩) xs.length (xs.length + 12), .slice (some ⟨h1, 0, none⟩) ys.length (ys.length + 12)] 24)).heap.size :=
        ⟨AB.below b13, DB.below b13, XB, m1.below b3, m2.below b3, ra.below b13, rd.below b13, hb0.trans (b13.mono hb0.size), XB.lt, (DB.below b13).lt⟩
      have hK : Hid ((w2.alloc (.cells #[.bool n, .slice (some ⟨g1, 0, none⟩) xs.length (xs.length + 12), .slice (some ⟨h1, 0, none⟩) ys.length (ys.length + 12)] 24)).heap.size = (w2.alloc (.cells #[.bool n, .slice (some ⟨g1, 0, none⟩) xs.length (xs.length + 12), .slice (some ⟨h1, 0, none⟩) ys.length (ys.length + 12)] 24)).heap.size) := (show _ = _ by rfl)
      generalize hKe : (w2.alloc (.cells #[.bool n, .slice (some ⟨g1, 0, none⟩) xs.length (xs.length + 12), .slice (some ⟨h1, 0, none⟩) ys.length (ys.length + 12)] 24)).heap.size = K at S
      have KL : K ≤ (w2.alloc (.cells #[.bool n, .slice (some ⟨g1, 0, none⟩) xs.length (xs.length + 12), .slice (some ⟨h1, 0, none⟩) ys.length (ys.length + 12)] 24)).heap.size := Nat.le_of_eq hKe.symm
      clear hK hKe
      generalize w2.alloc (.cells #[.bool n, .slice (some ⟨g1, 0, none⟩) xs.length (xs.length + 12), .slice (some ⟨h1, 0, none⟩) ys.length (ys.length + 12)] 24) = U0 at *
      generalize w2.heap.size = gx at *
      clear x0 x1 x2 xlt y0 y1 y2 x0' x1' x2' AB DB XB ra rd hb0 b1 b2 b3 b12 b13 m1 m2 ca cg i0
      obtain ⟨x0, x1, x2, _, _, _, _, _⟩ := id S.A
      obtain ⟨u0, u1, u2, _, _, _, _, _⟩ := id S.X
      go_upto_region 5 with (go_at_call 8; refine (pN _ _ _ _ _ S.px (tabW_below hT S.b)).mono ?_; rintro e w1 ⟨a1, ac1', b1, bc1', rfl, m1, k1, c1⟩)
      have z1 := (Below.refl w1.heap.size w1).alloc (Nat.le_refl _) (.cells #[.bool nN, .slice a1 (nl NN) ac1', .slice b1 (nl DN) bc1'] 24)
      have cc1 := c1.trans (z1.mono c1.size)
      replace S := S.below cc1
      have G1 := B3q.new w1 (.bool nN) (.slice a1 (nl NN) ac1') (.slice b1 (nl DN) bc1') 24
      replace m1 := m1.below z1
      replace k1 := k1.below z1
      have s1 : K ≤ w1.heap.size := by have := c1.size; omega
      generalize w1.alloc (.cells #[.bool nN, .slice a1 (nl NN) ac1', .slice b1 (nl DN) bc1'] 24) = U1 at *
      generalize w1.heap.size = q0x1 at *
      have L1 := G1.lt
      clear x0 x1 x2 u0 u1 u2 z1 cc1 c1 KL
      obtain ⟨x0, x1, x2, _, _, _, _, xlt⟩ := id S.A
      obtain ⟨u0, u1, u2, _, _, _, _, ult⟩ := id S.X
      go_upto_region 6 with (go_at_call 9; refine (dN _ S.ra).mono ?_; rintro e w2 ⟨a2, ac2', b2, bc2', rfl, m2, k2, c2⟩)
      have z2 := (Below.refl w2.heap.size w2).alloc (Nat.le_refl _) (.cells #[.bool nN, .slice a2 (nl NN) ac2', .slice b2 (nl DN) bc2'] 24)
      have cc2 := c2.trans (z2.mono c2.size)
      replace S := S.below cc2
      have G2 := B3q.new w2 (.bool nN) (.slice a2 (nl NN) ac2') (.slice b2 (nl DN) bc2') 24
      replace m2 := m2.below z2
      replace k2 := k2.below z2
      replace G1 := G1.below cc2
      replace m1 := m1.below cc2
      replace k1 := k1.below cc2
      have s2 : q0x1 + 1 ≤ w2.heap.size := by have := c2.size; have := L1; omega
      generalize w2.alloc (.cells #[.bool nN, .slice a2 (nl NN) ac2', .slice b2 (nl DN) bc2'] 24) = U2 at *
      generalize w2.heap.size = q0x2 at *
      have L2 := G2.lt
      clear x0 x1 x2 u0 u1 u2 z2 cc2 c2
      obtain ⟨x0, x1, x2, _, _, _, _, xlt⟩ := id S.A
      obtain ⟨u0, u1, u2, _, _, _, _, ult⟩ := id S.X
      obtain ⟨v10, v11, v12, f10, f11, f12, _, v1lt⟩ := id G1
      obtain ⟨v20, v21, v22, f20, f21, f22, _, v2lt⟩ := id G2
      have i0 : (rb != rb) = false := by cases rb <;> rfl
      obtain ⟨FL, hFL⟩ : ∃ f : Nat → Lz, f = (fun j => match j with | 0 => .is (.agg #[.bool nN, .slice a1 (nl NN) ac1', .slice b1 (nl DN) bc1']) | 1 => .is (.int .i64 eN) | 2 => .is (.agg #[.bool nN, .slice a2 (nl NN) ac2', .slice b2 (nl DN) bc2']) | 3 => .is (.int .i64 eN) | 4 => .is (.bool true) | 5 => .is (.bool false) | 6 => .is (.bool false) | 7 => .is (.agg #[.bool n, .slice (some ⟨g1, 0, none⟩) xs.length (xs.length + 12), .slice (some ⟨h1, 0, none⟩) ys.length (ys.length + 12)]) | 8 => .is (.bool rb) | 9 => .is (.agg #[.bool n, .slice ao xs.length ac, .slice bo ys.length bc]) | 10 => .is (.bool rb) | 11 => .is (.bool false) | 12 => .is (.bool false) | 13 => .is (.bool false) | 14 => .is (.agg #[.bool n, .slice (some ⟨g1, 0, none⟩) xs.length (xs.length + 12), .slice (some ⟨h1, 0, none⟩) ys.length (ys.length + 12)]) | 15 => .is (.agg #[.bool n, .slice ao xs.length ac, .slice bo ys.length bc]) | 16 => .is (.bool true) | 17 => .is (.bool false) | 18 => .is (.bool false) | _ => .tr) := ⟨_, rfl⟩
      have F0 := congrFun hFL 0
      have F1 := congrFun hFL 1
      have F2 := congrFun hFL 2
      have F3 := congrFun hFL 3
      have F4 := congrFun hFL 4
      have F5 := congrFun hFL 5
      have F6 := congrFun hFL 6
      have F7 := congrFun hFL 7
      have F8 := congrFun hFL 8
      have F9 := congrFun hFL 9
      have F10 := congrFun hFL 10
      have F11 := congrFun hFL 11
      have F12 := congrFun hFL 12
      have F13 := congrFun hFL 13
      have F14 := congrFun hFL 14
      have F15 := congrFun hFL 15
      have F16 := congrFun hFL 16
      have F17 := congrFun hFL 17
      have F18 := congrFun hFL 18
      simp only at F0 F1 F2 F3 F4 F5 F6 F7 F8 F9 F10 F11 F12 F13 F14 F15 F16 F17 F18
      clear hFL
      refine region_rgU (by kernel_rfl) (fun v => ⟨#[Value.agg #[Value.bool n, Value.slice ao xs.length ac, Value.slice bo ys.length bc], Value.float FloatKind.f64 x, Value.agg #[Value.bool dn, Value.slice eo dm.length dc, Value.int IntKind.i64 de], Value.pointer (some { block := w.heap.size, off := 0 }), undef, Value.pointer (some { block := w.heap.size + 1, off := 0 }), Value.bool false, Value.pointer (some { block := gx, off := 0 }), Value.pointer (some { block := q0x1, off := 0 }), Value.int IntKind.i64 eN, Value.pointer (some { block := q0x2, off := 0 }), Value.int IntKind.i64 eN, undef, Value.agg #[Value.bool n, Value.slice ao xs.length ac, Value.slice bo ys.length bc], Value.bool false, Value.bool false, Value.pointer (some { block := w.heap.size + 1, off := 1 }), Value.slice eo dm.length dc, Value.int IntKind.i64 ↑dm.length, .bool (decide ((300 : Int) < (dm.length : Int))), .bool (decide ((300 : Int) < (dm.length : Int))), undef, Value.agg #[Value.bool n, Value.slice ao xs.length ac, Value.slice bo ys.length bc], Value.agg #[Value.bool n, Value.slice (some { block := g1, off := 0 }) xs.length (xs.length + 12), Value.slice (some { block := h1, off := 0 }) ys.length (ys.length + 12)], Value.tuple #[Value.agg #[Value.bool nN, Value.slice a1 (nl NN) ac1', Value.slice b1 (nl DN) bc1'], Value.int IntKind.i64 eN], Value.agg #[Value.bool n, Value.slice (some { block := g1, off := 0 }) xs.length (xs.length + 12), Value.slice (some { block := h1, off := 0 }) ys.length (ys.length + 12)], Value.tuple #[Value.agg #[Value.bool nN, Value.slice a1 (nl NN) ac1', Value.slice b1 (nl DN) bc1'], Value.int IntKind.i64 eN], Value.agg #[Value.bool nN, Value.slice a1 (nl NN) ac1', Value.slice b1 (nl DN) bc1'], Value.int IntKind.i64 eN, Value.tuple #[Value.agg #[Value.bool nN, Value.slice a2 (nl NN) ac2', Value.slice b2 (nl DN) bc2'], Value.int IntKind.i64 eN], Value.agg #[Value.bool n, Value.slice ao xs.length ac, Value.slice bo ys.length bc], Value.tuple #[Value.agg #[Value.bool nN, Value.slice a2 (nl NN) ac2', Value.slice b2 (nl DN) bc2'], Value.int IntKind.i64 eN], Value.agg #[Value.bool nN, Value.slice a2 (nl NN) ac2', Value.slice b2 (nl DN) bc2'], Value.int IntKind.i64 eN, v 0, v 1, v 2, v 3, v 4, v 5, v 6, v 7, v 8, v 9, v 10, v 11, v 12, v 13, v 14, v 15, v 16, v 17, v 18, undef, undef, undef, undef, undef, undef, undef, undef, undef, undef, undef, undef, undef, undef, undef, undef, undef, undef, undef, undef, undef, undef, undef, undef, undef, undef, undef, undef, undef, undef, undef, undef, undef, undef, undef, undef, undef, undef, undef, undef, undef], []⟩) 1019 (fun j => true) FL (fun _ => True) (fun j => match j with  | _ => undef) rfl ?_ ?_
      · intro L v w' i hL hS hi
        obtain ⟨hr1, hr2, hr3⟩ := mem_ready hi
        have hr1 : i < 19 := hr1
        try dsimp only
        have hcs : i = 0 ∨ i = 1 ∨ i = 2 ∨ i = 3 ∨ i = 4 ∨ i = 5 ∨ i = 6 ∨ i = 7 ∨ i = 8 ∨ i = 9 ∨ i = 10 ∨ i = 11 ∨ i = 12 ∨ i = 13 ∨ i = 14 ∨ i = 15 ∨ i = 16 ∨ i = 17 ∨ i = 18 := by omega
        clear hr1 hr2 hr3
        rcases hcs with rfl | rfl | rfl | rfl | rfl | rfl | rfl | rfl | rfl | rfl | rfl | rfl | rfl | rfl | rfl | rfl | rfl | rfl | rfl
        · have hns := hS.open hL hi rfl
          have hB := hS.a hns
          have rv10 : w'.cell? ⟨q0x1, 0, none⟩ = some _ := (hB.cell (p := ⟨q0x1, 0, none⟩) v1lt).trans v10
          have rv11 : w'.cell? ⟨q0x1, 1, none⟩ = some _ := (hB.cell (p := ⟨q0x1, 1, none⟩) v1lt).trans v11
          have rv12 : w'.cell? ⟨q0x1, 2, none⟩ = some _ := (hB.cell (p := ⟨q0x1, 2, none⟩) v1lt).trans v12
          refine wpOpT_of (fun K hK => ?_)
          unfold wpOp
          go_simp
          refine Or.inl ?_
          exact hK _ _ ⟨putT v 0 (.agg #[.bool nN, .slice a1 (nl NN) ac1', .slice b1 (nl DN) bc1']), (by simp [putT]), hS.step hL hi rfl (by decide) (Below.refl _ _) (Lz.toIs F0)⟩
        · have hns := hS.open hL hi rfl
          have hB := hS.a hns
          refine wpOpT_of (fun K hK => ?_)
          unfold wpOp
          go_simp
          refine Or.inl ?_
          exact hK _ _ ⟨putT v 1 (.int .i64 eN), (by simp [putT]), hS.step hL hi rfl (by decide) (Below.refl _ _) (Lz.toIs F1)⟩
        · have hns := hS.open hL hi rfl
          have hB := hS.a hns
          have rv20 : w'.cell? ⟨q0x2, 0, none⟩ = some _ := (hB.cell (p := ⟨q0x2, 0, none⟩) v2lt).trans v20
          have rv21 : w'.cell? ⟨q0x2, 1, none⟩ = some _ := (hB.cell (p := ⟨q0x2, 1, none⟩) v2lt).trans v21
          have rv22 : w'.cell? ⟨q0x2, 2, none⟩ = some _ := (hB.cell (p := ⟨q0x2, 2, none⟩) v2lt).trans v22
          refine wpOpT_of (fun K hK => ?_)
          unfold wpOp
          go_simp
          refine Or.inl ?_
          exact hK _ _ ⟨putT v 2 (.agg #[.bool nN, .slice a2 (nl NN) ac2', .slice b2 (nl DN) bc2']), (by simp [putT]), hS.step hL hi rfl (by decide) (Below.refl _ _) (Lz.toIs F2)⟩
        · have hns := hS.open hL hi rfl
          have hB := hS.a hns
          refine wpOpT_of (fun K hK => ?_)
          unfold wpOp
          go_simp
          refine Or.inl ?_
          exact hK _ _ ⟨putT v 3 (.int .i64 eN), (by simp [putT]), hS.step hL hi rfl (by decide) (Below.refl _ _) (Lz.toIs F3)⟩
        · have hns := hS.open hL hi rfl
          have hB := hS.a hns
          have e0 := Lz.ofIs (hS.f hns 0 rfl (ready_dep hi 0 (by kernel_rfl))) F0
          have e1 := Lz.ofIs (hS.f hns 1 rfl (ready_dep hi 1 (by kernel_rfl))) F1
          have e2 := Lz.ofIs (hS.f hns 2 rfl (ready_dep hi 2 (by kernel_rfl))) F2
          have e3 := Lz.ofIs (hS.f hns 3 rfl (ready_dep hi 3 (by kernel_rfl))) F3
          refine wpOpT_of (fun K hK => ?_)
          unfold wpOp
          simp only [e0, e1, e2, e3]
          go_simp
          refine Or.inl ?_
          go_at_call 10
          refine (isN _ _ _ _ _ _ _ _ _ (m1.below hB).1 (k1.below hB).1 (m2.below hB).1 (k2.below hB).1).mono ?_
          rintro e w1 ⟨rfl, bc⟩
          exact hK _ _ ⟨putT v 4 (.bool true), (by simp [putT, e0, e1, e2, e3]), hS.step hL hi rfl (by decide) (bc) (Lz.toIs F4)⟩
        · have hns := hS.open hL hi rfl
          have hB := hS.a hns
          have e4 := Lz.ofIs (hS.f hns 4 rfl (ready_dep hi 4 (by kernel_rfl))) F4
          refine wpOpT_of (fun K hK => ?_)
          unfold wpOp
          simp only [e4]
          go_simp
          refine Or.inl ?_
          exact hK _ _ ⟨putT v 5 (.bool false), (by simp [putT, e4]), hS.step hL hi rfl (by decide) (Below.refl _ _) (Lz.toIs F5)⟩
        · have hns := hS.open hL hi rfl
          have hB := hS.a hns
          have e5 := Lz.ofIs (hS.f hns 5 rfl (ready_dep hi 5 (by kernel_rfl))) F5
          refine wpOpT_of (fun K hK => ?_)
          unfold wpOp
          simp only [e5]
          go_simp
          refine Or.inl ?_
          exact hK _ _ ⟨putT v 6 (.bool false), (by simp [putT, e5]), hS.step hL hi rfl (by decide) (Below.refl _ _) (Lz.toIs F6)⟩
        · have hns := hS.open hL hi rfl
          have hB := hS.a hns
          have e6 := Lz.ofIs (hS.f hns 6 rfl (ready_dep hi 6 (by kernel_rfl))) F6
          have ru0 : w'.cell? ⟨gx, 0, none⟩ = some _ := (hB.cell (p := ⟨gx, 0, none⟩) ult).trans u0
          have ru1 : w'.cell? ⟨gx, 1, none⟩ = some _ := (hB.cell (p := ⟨gx, 1, none⟩) ult).trans u1
          have ru2 : w'.cell? ⟨gx, 2, none⟩ = some _ := (hB.cell (p := ⟨gx, 2, none⟩) ult).trans u2
          refine wpOpT_of (fun K hK => ?_)
          unfold wpOp
          simp only [e6]
          go_simp
          refine Or.inl ?_
          exact hK _ _ ⟨putT v 7 (.agg #[.bool n, .slice (some ⟨g1, 0, none⟩) xs.length (xs.length + 12), .slice (some ⟨h1, 0, none⟩) ys.length (ys.length + 12)]), (by simp [putT, e6]), hS.step hL hi rfl (by decide) (Below.refl _ _) (Lz.toIs F7)⟩
        · have hns := hS.open hL hi rfl
          have hB := hS.a hns
          have e6 := Lz.ofIs (hS.f hns 6 rfl (ready_dep hi 6 (by kernel_rfl))) F6
          have e7 := Lz.ofIs (hS.f hns 7 rfl (ready_dep hi 7 (by kernel_rfl))) F7
          refine wpOpT_of (fun K hK => ?_)
          unfold wpOp
          simp only [e6, e7]
          go_simp
          refine Or.inl ?_
          go_at_call 11
          refine (pR _ _ _ _ _ (S.px.below hB) (tabW_below hT (S.below hB).b)).mono ?_
          rintro e w1 ⟨rfl, bc⟩
          exact hK _ _ ⟨putT v 8 (.bool rb), (by simp [putT, e6, e7]), hS.step hL hi rfl (by decide) (bc) (Lz.toIs F8)⟩
        · have hns := hS.open hL hi rfl
          have hB := hS.a hns
          have e6 := Lz.ofIs (hS.f hns 6 rfl (ready_dep hi 6 (by kernel_rfl))) F6
          have rx0 : w'.cell? ⟨w.heap.size, 0, none⟩ = some _ := (hB.cell (p := ⟨w.heap.size, 0, none⟩) xlt).trans x0
          have rx1 : w'.cell? ⟨w.heap.size, 1, none⟩ = some _ := (hB.cell (p := ⟨w.heap.size, 1, none⟩) xlt).trans x1
          have rx2 : w'.cell? ⟨w.heap.size, 2, none⟩ = some _ := (hB.cell (p := ⟨w.heap.size, 2, none⟩) xlt).trans x2
          refine wpOpT_of (fun K hK => ?_)
          unfold wpOp
          simp only [e6]
          go_simp
          refine Or.inl ?_
          exact hK _ _ ⟨putT v 9 (.agg #[.bool n, .slice ao xs.length ac, .slice bo ys.length bc]), (by simp [putT, e6]), hS.step hL hi rfl (by decide) (Below.refl _ _) (Lz.toIs F9)⟩
        · have hns := hS.open hL hi rfl
          have hB := hS.a hns
          have e6 := Lz.ofIs (hS.f hns 6 rfl (ready_dep hi 6 (by kernel_rfl))) F6
          have e9 := Lz.ofIs (hS.f hns 9 rfl (ready_dep hi 9 (by kernel_rfl))) F9
          refine wpOpT_of (fun K hK => ?_)
          unfold wpOp
          simp only [e6, e9]
          go_simp
          refine Or.inl ?_
          go_at_call 12
          refine (dR _ (S.ra.below hB)).mono ?_
          rintro e w1 ⟨rfl, bc⟩
          exact hK _ _ ⟨putT v 10 (.bool rb), (by simp [putT, e6, e9]), hS.step hL hi rfl (by decide) (bc) (Lz.toIs F10)⟩
        · have hns := hS.open hL hi rfl
          have hB := hS.a hns
          have e6 := Lz.ofIs (hS.f hns 6 rfl (ready_dep hi 6 (by kernel_rfl))) F6
          have e8 := Lz.ofIs (hS.f hns 8 rfl (ready_dep hi 8 (by kernel_rfl))) F8
          have e10 := Lz.ofIs (hS.f hns 10 rfl (ready_dep hi 10 (by kernel_rfl))) F10
          refine wpOpT_of (fun K hK => ?_)
          unfold wpOp
          simp only [e6, e8, e10]
          go_simp
          refine Or.inl ?_
          exact hK _ _ ⟨putT v 11 (.bool false), (by simp [putT, e6, e8, e10]), hS.step hL hi rfl (by decide) (Below.refl _ _) (Lz.toIs F11)⟩
        · have hns := hS.open hL hi rfl
          have hB := hS.a hns
          have e6 := Lz.ofIs (hS.f hns 6 rfl (ready_dep hi 6 (by kernel_rfl))) F6
          have e11 := Lz.ofIs (hS.f hns 11 rfl (ready_dep hi 11 (by kernel_rfl))) F11
          refine wpOpT_of (fun K hK => ?_)
          unfold wpOp
          simp only [e6, e11]
          go_simp
          refine Or.inl ?_
          exact hK _ _ ⟨putT v 12 (.bool false), (by simp [putT, e6, e11]), hS.step hL hi rfl (by decide) (Below.refl _ _) (Lz.toIs F12)⟩
        · have hns := hS.open hL hi rfl
          have hB := hS.a hns
          have e12 := Lz.ofIs (hS.f hns 12 rfl (ready_dep hi 12 (by kernel_rfl))) F12
          refine wpOpT_of (fun K hK => ?_)
          unfold wpOp
          simp only [e12]
          go_simp
          refine Or.inl ?_
          exact hK _ _ ⟨putT v 13 (.bool false), (by simp [putT, e12]), hS.step hL hi rfl (by decide) (Below.refl _ _) (Lz.toIs F13)⟩
        · have hns := hS.open hL hi rfl
          have hB := hS.a hns
          have e13 := Lz.ofIs (hS.f hns 13 rfl (ready_dep hi 13 (by kernel_rfl))) F13
          have ru0 : w'.cell? ⟨gx, 0, none⟩ = some _ := (hB.cell (p := ⟨gx, 0, none⟩) ult).trans u0
          have ru1 : w'.cell? ⟨gx, 1, none⟩ = some _ := (hB.cell (p := ⟨gx, 1, none⟩) ult).trans u1
          have ru2 : w'.cell? ⟨gx, 2, none⟩ = some _ := (hB.cell (p := ⟨gx, 2, none⟩) ult).trans u2
          refine wpOpT_of (fun K hK => ?_)
          unfold wpOp
          simp only [e13]
          go_simp
          refine Or.inl ?_
          exact hK _ _ ⟨putT v 14 (.agg #[.bool n, .slice (some ⟨g1, 0, none⟩) xs.length (xs.length + 12), .slice (some ⟨h1, 0, none⟩) ys.length (ys.length + 12)]), (by simp [putT, e13]), hS.step hL hi rfl (by decide) (Below.refl _ _) (Lz.toIs F14)⟩
        · have hns := hS.open hL hi rfl
          have hB := hS.a hns
          have e13 := Lz.ofIs (hS.f hns 13 rfl (ready_dep hi 13 (by kernel_rfl))) F13
          have rx0 : w'.cell? ⟨w.heap.size, 0, none⟩ = some _ := (hB.cell (p := ⟨w.heap.size, 0, none⟩) xlt).trans x0
          have rx1 : w'.cell? ⟨w.heap.size, 1, none⟩ = some _ := (hB.cell (p := ⟨w.heap.size, 1, none⟩) xlt).trans x1
          have rx2 : w'.cell? ⟨w.heap.size, 2, none⟩ = some _ := (hB.cell (p := ⟨w.heap.size, 2, none⟩) xlt).trans x2
          refine wpOpT_of (fun K hK => ?_)
          unfold wpOp
          simp only [e13]
          go_simp
          refine Or.inl ?_
          exact hK _ _ ⟨putT v 15 (.agg #[.bool n, .slice ao xs.length ac, .slice bo ys.length bc]), (by simp [putT, e13]), hS.step hL hi rfl (by decide) (Below.refl _ _) (Lz.toIs F15)⟩
        · have hns := hS.open hL hi rfl
          have hB := hS.a hns
          have e13 := Lz.ofIs (hS.f hns 13 rfl (ready_dep hi 13 (by kernel_rfl))) F13
          have e14 := Lz.ofIs (hS.f hns 14 rfl (ready_dep hi 14 (by kernel_rfl))) F14
          have e15 := Lz.ofIs (hS.f hns 15 rfl (ready_dep hi 15 (by kernel_rfl))) F15
          refine wpOpT_of (fun K hK => ?_)
          unfold wpOp
          simp only [e13, e14, e15]
          go_simp
          refine Or.inl ?_
          go_at_call 13
          refine (ckA _ _ _ (S.l1.below hB) (S.l2.below hB) (S.ra.below hB)).mono ?_
          rintro e w1 ⟨rfl, bc⟩
          exact hK _ _ ⟨putT v 16 (.bool true), (by simp [putT, e13, e14, e15]), hS.step hL hi rfl (by decide) (bc) (Lz.toIs F16)⟩
        · have hns := hS.open hL hi rfl
          have hB := hS.a hns
          have e13 := Lz.ofIs (hS.f hns 13 rfl (ready_dep hi 13 (by kernel_rfl))) F13
          have e16 := Lz.ofIs (hS.f hns 16 rfl (ready_dep hi 16 (by kernel_rfl))) F16
          refine wpOpT_of (fun K hK => ?_)
          unfold wpOp
          simp only [e13, e16]
          go_simp
          refine Or.inl ?_
          exact hK _ _ ⟨putT v 17 (.bool false), (by simp [putT, e13, e16]), hS.step hL hi rfl (by decide) (Below.refl _ _) (Lz.toIs F17)⟩
        · have hns := hS.open hL hi rfl
          have hB := hS.a hns
          have e13 := Lz.ofIs (hS.f hns 13 rfl (ready_dep hi 13 (by kernel_rfl))) F13
          have e17 := Lz.ofIs (hS.f hns 17 rfl (ready_dep hi 17 (by kernel_rfl))) F17
          refine wpOpT_of (fun K hK => ?_)
          unfold wpOp
          simp only [e13, e17]
          go_simp
          refine Or.inl ?_
          exact hK _ _ ⟨putT v 18 (.bool false), (by simp [putT, e13, e17]), hS.step hL hi rfl (by decide) (Below.refl _ _) (Lz.toIs F18)⟩
      · intro L v w' hL hS hr
        have on := all_done hL hr (by kernel_rfl)
        have hns : ¬ On L 1019 := onT_over (by rw [hL]; exact Nat.le_of_ble_eq_true (by kernel_rfl))
        have hB := hS.a hns
        have e18 := Lz.ofIs (hS.f hns 18 rfl (on 18 (by decide))) F18
        try dsimp only
        rw [e18]
        clear hS on hr hns e18
        replace S := S.below hB
        replace G1 := G1.below hB
        replace m1 := m1.below hB
        replace k1 := k1.below hB
        replace G2 := G2.below hB
        replace m2 := m2.below hB
        replace k2 := k2.below hB
        generalize v 0 = vv0 at *
        generalize v 1 = vv1 at *
        generalize v 2 = vv2 at *
        generalize v 3 = vv3 at *
        generalize v 4 = vv4 at *
        generalize v 5 = vv5 at *
        generalize v 6 = vv6 at *
        generalize v 7 = vv7 at *
        generalize v 8 = vv8 at *
        generalize v 9 = vv9 at *
        generalize v 10 = vv10 at *
        generalize v 11 = vv11 at *
        generalize v 12 = vv12 at *
        generalize v 13 = vv13 at *
        generalize v 14 = vv14 at *
        generalize v 15 = vv15 at *
        generalize v 16 = vv16 at *
        generalize v 17 = vv17 at *
        clear v
        generalize w' = U5 at *
        clear hB F0 F1 F2 F3 F4 F5 F6 F7 F8 F9 F10 F11 F12 F13 F14 F15 F16 F17 F18 FL hL L x0 x1 x2 xlt u0 u1 u2 ult v10 v11 v12 f10 f11 f12 v1lt v20 v21 v22 f20 f21 f22 v2lt i0
        obtain ⟨x0, x1, x2, _, _, _, _, _⟩ := id S.A
        obtain ⟨t0, t1, t2, _, _, _, _, _⟩ := id S.D
        obtain ⟨v10, v11, v12, f10, f11, f12, _, _⟩ := id G1
        obtain ⟨v20, v21, v22, f20, f21, f22, _, _⟩ := id G2
        go_upto_region 9 with (go_at_call 14; refine (pF _ (tabW_below hT S.b)).mono ?_; rintro e y1w ⟨a1q, ac1q, b1q, bc1q, rfl, mm1, kk1, cq1⟩; obtain ⟨q0, q1, q2, o0, o1, o2, _, _⟩ := G1.below cq1)
        have S2 := S.below cq1
        have H1 := G1.below cq1
        replace S := S2.fill H1 (by omega) (.bool nF) (.slice a1q (nl NF) ac1q) (.slice b1q (nl DF) bc1q)
        clear S2
        replace G2 := (G2.below cq1).far3 (g := q0x1) (by omega) (.bool nF) (.slice a1q (nl NF) ac1q) (.slice b1q (nl DF) bc1q)
        replace m2 := (m2.below cq1).threeB H1 (.bool nF) (.slice a1q (nl NF) ac1q) (.slice b1q (nl DF) bc1q)
        replace k2 := (k2.below cq1).threeB H1 (.bool nF) (.slice a1q (nl NF) ac1q) (.slice b1q (nl DF) bc1q)
        replace G1 := H1.fill (.bool nF) (.slice a1q (nl NF) ac1q) (.slice b1q (nl DF) bc1q)
        replace m1 := mm1.threeB H1 (.bool nF) (.slice a1q (nl NF) ac1q) (.slice b1q (nl DF) bc1q)
        replace k1 := kk1.threeB H1 (.bool nF) (.slice a1q (nl NF) ac1q) (.slice b1q (nl DF) bc1q)
        clear H1 mm1 kk1 q0 q1 q2 o0 o1 o2
        generalize ((y1w.setCell ⟨q0x1, 0, none⟩ (.bool nF)).setCell ⟨q0x1, 1, none⟩ (.slice a1q (nl NF) ac1q)).setCell ⟨q0x1, 2, none⟩ (.slice b1q (nl DF) bc1q) = V1F at *
        clear x0 x1 x2 t0 t1 t2 v10 v11 v12 f10 f11 f12 v20 v21 v22 f20 f21 f22 cq1
        obtain ⟨x0, x1, x2, _, _, _, _, _⟩ := id S.A
        obtain ⟨t0, t1, t2, _, _, _, _, _⟩ := id S.D
        obtain ⟨v10, v11, v12, f10, f11, f12, _, _⟩ := id G1
        obtain ⟨v20, v21, v22, f20, f21, f22, _, _⟩ := id G2
        go_upto_region 10 with (go_at_call 15; refine (dF _).mono ?_; rintro e y2w ⟨a2q, ac2q, b2q, bc2q, rfl, mm2, kk2, cq2⟩; obtain ⟨q0, q1, q2, o0, o1, o2, _, _⟩ := G2.below cq2)
        have S2 := S.below cq2
        have H2 := G2.below cq2
        replace S := S2.fill H2 (by omega) (.bool nF) (.slice a2q (nl NF) ac2q) (.slice b2q (nl DF) bc2q)
        clear S2
        replace G1 := (G1.below cq2).far3 (g := q0x2) (by omega) (.bool nF) (.slice a2q (nl NF) ac2q) (.slice b2q (nl DF) bc2q)
        replace m1 := (m1.below cq2).threeB H2 (.bool nF) (.slice a2q (nl NF) ac2q) (.slice b2q (nl DF) bc2q)
        replace k1 := (k1.below cq2).threeB H2 (.bool nF) (.slice a2q (nl NF) ac2q) (.slice b2q (nl DF) bc2q)
        replace G2 := H2.fill (.bool nF) (.slice a2q (nl NF) ac2q) (.slice b2q (nl DF) bc2q)
        replace m2 := mm2.threeB H2 (.bool nF) (.slice a2q (nl NF) ac2q) (.slice b2q (nl DF) bc2q)
        replace k2 := kk2.threeB H2 (.bool nF) (.slice a2q (nl NF) ac2q) (.slice b2q (nl DF) bc2q)
        clear H2 mm2 kk2 q0 q1 q2 o0 o1 o2
        generalize ((y2w.setCell ⟨q0x2, 0, none⟩ (.bool nF)).setCell ⟨q0x2, 1, none⟩ (.slice a2q (nl NF) ac2q)).setCell ⟨q0x2, 2, none⟩ (.slice b2q (nl DF) bc2q) = V2F at *
        clear x0 x1 x2 t0 t1 t2 v10 v11 v12 f10 f11 f12 v20 v21 v22 f20 f21 f22 cq2
        obtain ⟨x0, x1, x2, _, _, _, _, _⟩ := id S.A
        obtain ⟨t0, t1, t2, _, _, _, _, _⟩ := id S.D
        obtain ⟨v10, v11, v12, f10, f11, f12, _, _⟩ := id G1
        obtain ⟨v20, v21, v22, f20, f21, f22, _, _⟩ := id G2
        go_upto_region 12 with (go_at_call 10; refine (isF _ _ _ _ _ _ _ _ _ m1.1 k1.1 m2.1 k2.1).mono ?_; rintro e w5 ⟨rfl, c5⟩; obtain ⟨ta0, ta1, ta2, _, _, _, _, _⟩ := S.D.below c5)
        replace S := S.below c5
        replace G1 := G1.below c5
        replace m1 := m1.below c5
        replace k1 := k1.below c5
        replace G2 := G2.below c5
        replace m2 := m2.below c5
        replace k2 := k2.below c5
        clear x0 x1 x2 t0 t1 t2 v10 v11 v12 f10 f11 f12 v20 v21 v22 f20 f21 f22 ta0 ta1 ta2 c5
        obtain ⟨x0, x1, x2, _, _, _, _, _⟩ := id S.A
        obtain ⟨t0, t1, t2, _, _, _, _, _⟩ := id S.D
        obtain ⟨v10, v11, v12, f10, f11, f12, _, _⟩ := id G1
        obtain ⟨v20, v21, v22, f20, f21, f22, _, _⟩ := id G2
        have L6a := G1.lt
        have L6b := G2.lt
        go_upto_region 13 with (go_at_call 16; refine (cld _ S.rd).mono ?_; rintro e w6 ⟨g3, rfl, l3, _, c6⟩)
        have z6 := (Below.refl w6.heap.size w6).alloc (Nat.le_refl _) (.cells #[.bool dn, .slice (some ⟨g3, 0, none⟩) dm.length (dm.length + 12), .int .i64 de] 27)
        have cc6 := c6.trans (z6.mono c6.size)
        replace S := S.below cc6
        have KB := B3q.new w6 (.bool dn) (.slice (some ⟨g3, 0, none⟩) dm.length (dm.length + 12)) (.int .i64 de) 27
        replace l3 := l3.below z6
        replace G1 := G1.below cc6
        replace m1 := m1.below cc6
        replace k1 := k1.below cc6
        replace G2 := G2.below cc6
        replace m2 := m2.below cc6
        replace k2 := k2.below cc6
        have s6 : q0x2 + 1 ≤ w6.heap.size ∧ q0x1 + 1 ≤ w6.heap.size := by have := c6.size; have := L6a; have := L6b; omega
        generalize w6.alloc (.cells #[.bool dn, .slice (some ⟨g3, 0, none⟩) dm.length (dm.length + 12), .int .i64 de] 27) = U6 at *
        generalize w6.heap.size = gk at *
        clear x0 x1 x2 t0 t1 t2 v10 v11 v12 f10 f11 f12 v20 v21 v22 f20 f21 f22 z6 cc6 c6
        obtain ⟨x0, x1, x2, _, _, _, _, _⟩ := id S.A
        obtain ⟨t0, t1, t2, _, _, _, _, _⟩ := id S.D
        obtain ⟨v10, v11, v12, f10, f11, f12, _, _⟩ := id G1
        obtain ⟨v20, v21, v22, f20, f21, f22, _, _⟩ := id G2
        obtain ⟨kb0, kb1, kb2, _, _, _, _, _⟩ := id KB
        go_upto_region 14 with (go_at_call 17; refine (pD _ _ _ l3.lrow).mono ?_; rintro e y1w ⟨a1q, ac1q, b1q, bc1q, rfl, mm1, kk1, cq1⟩; obtain ⟨q0, q1, q2, o0, o1, o2, _, _⟩ := G1.below cq1)
        have S2 := S.below cq1
        have H1 := G1.below cq1
        replace S := S2.fill H1 (by omega) (.bool nD) (.slice a1q (nl ND) ac1q) (.slice b1q (nl DD) bc1q)
        clear S2
        replace G2 := (G2.below cq1).far3 (g := q0x1) (by omega) (.bool nD) (.slice a1q (nl ND) ac1q) (.slice b1q (nl DD) bc1q)
        replace m2 := (m2.below cq1).threeB H1 (.bool nD) (.slice a1q (nl ND) ac1q) (.slice b1q (nl DD) bc1q)
        replace k2 := (k2.below cq1).threeB H1 (.bool nD) (.slice a1q (nl ND) ac1q) (.slice b1q (nl DD) bc1q)
        replace KB := (KB.below cq1).far3 (g := q0x1) (by omega) (.bool nD) (.slice a1q (nl ND) ac1q) (.slice b1q (nl DD) bc1q)
        replace l3 := (l3.below cq1).fill H1 (.bool nD) (.slice a1q (nl ND) ac1q) (.slice b1q (nl DD) bc1q)
        replace G1 := H1.fill (.bool nD) (.slice a1q (nl ND) ac1q) (.slice b1q (nl DD) bc1q)
        replace m1 := mm1.threeB H1 (.bool nD) (.slice a1q (nl ND) ac1q) (.slice b1q (nl DD) bc1q)
        replace k1 := kk1.threeB H1 (.bool nD) (.slice a1q (nl ND) ac1q) (.slice b1q (nl DD) bc1q)
        clear H1 mm1 kk1 q0 q1 q2 o0 o1 o2
        generalize ((y1w.setCell ⟨q0x1, 0, none⟩ (.bool nD)).setCell ⟨q0x1, 1, none⟩ (.slice a1q (nl ND) ac1q)).setCell ⟨q0x1, 2, none⟩ (.slice b1q (nl DD) bc1q) = V1D at *
        clear x0 x1 x2 t0 t1 t2 v10 v11 v12 f10 f11 f12 v20 v21 v22 f20 f21 f22 kb0 kb1 kb2 cq1
        obtain ⟨x0, x1, x2, _, _, _, _, _⟩ := id S.A
        obtain ⟨t0, t1, t2, _, _, _, _, _⟩ := id S.D
        obtain ⟨v10, v11, v12, f10, f11, f12, _, _⟩ := id G1
        obtain ⟨v20, v21, v22, f20, f21, f22, _, _⟩ := id G2
        obtain ⟨kb0, kb1, kb2, _, _, _, _, _⟩ := id KB
        go_upto_region 15 with (go_at_call 18; refine (dD _ S.rd).mono ?_; rintro e y2w ⟨a2q, ac2q, b2q, bc2q, rfl, mm2, kk2, cq2⟩; obtain ⟨q0, q1, q2, o0, o1, o2, _, _⟩ := G2.below cq2)
        have S2 := S.below cq2
        have H2 := G2.below cq2
        replace S := S2.fill H2 (by omega) (.bool nD) (.slice a2q (nl ND) ac2q) (.slice b2q (nl DD) bc2q)
        clear S2
        replace G1 := (G1.below cq2).far3 (g := q0x2) (by omega) (.bool nD) (.slice a2q (nl ND) ac2q) (.slice b2q (nl DD) bc2q)
        replace m1 := (m1.below cq2).threeB H2 (.bool nD) (.slice a2q (nl ND) ac2q) (.slice b2q (nl DD) bc2q)
        replace k1 := (k1.below cq2).threeB H2 (.bool nD) (.slice a2q (nl ND) ac2q) (.slice b2q (nl DD) bc2q)
        replace KB := (KB.below cq2).far3 (g := q0x2) (by omega) (.bool nD) (.slice a2q (nl ND) ac2q) (.slice b2q (nl DD) bc2q)
        replace l3 := (l3.below cq2).fill H2 (.bool nD) (.slice a2q (nl ND) ac2q) (.slice b2q (nl DD) bc2q)
        replace G2 := H2.fill (.bool nD) (.slice a2q (nl ND) ac2q) (.slice b2q (nl DD) bc2q)
        replace m2 := mm2.threeB H2 (.bool nD) (.slice a2q (nl ND) ac2q) (.slice b2q (nl DD) bc2q)
        replace k2 := kk2.threeB H2 (.bool nD) (.slice a2q (nl ND) ac2q) (.slice b2q (nl DD) bc2q)
        clear H2 mm2 kk2 q0 q1 q2 o0 o1 o2
        generalize ((y2w.setCell ⟨q0x2, 0, none⟩ (.bool nD)).setCell ⟨q0x2, 1, none⟩ (.slice a2q (nl ND) ac2q)).setCell ⟨q0x2, 2, none⟩ (.slice b2q (nl DD) bc2q) = V2D at *
        clear x0 x1 x2 t0 t1 t2 v10 v11 v12 f10 f11 f12 v20 v21 v22 f20 f21 f22 kb0 kb1 kb2 cq2
        obtain ⟨x0, x1, x2, _, _, _, _, _⟩ := id S.A
        obtain ⟨t0, t1, t2, _, _, _, _, _⟩ := id S.D
        obtain ⟨v10, v11, v12, f10, f11, f12, _, _⟩ := id G1
        obtain ⟨v20, v21, v22, f20, f21, f22, _, _⟩ := id G2
        obtain ⟨kb0, kb1, kb2, _, _, _, _, _⟩ := id KB
        go_wp2_with (first
      | (go_at_call 10; refine (isD _ _ _ _ _ _ _ _ _ m1.1 k1.1 m2.1 k2.1).mono ?_; rintro e w7 ⟨rfl, c7⟩; have S7 := S.below c7; obtain ⟨ta0, ta1, ta2, _, _, _, _, _⟩ := id S7.D; obtain ⟨kc0, kc1, kc2, _, _, _, _, _⟩ := KB.below c7; have l37 := l3.below c7)
      | (go_at_call 19; refine (ckd _ _ S7.rd l37).mono ?_; rintro e w8 ⟨rfl, c8⟩; have S8 := S7.below c8)
      | (go_at_call 6; refine (caw _ (tabW_below hT S8.b)).mono ?_; rintro e w9 ⟨rfl, c9⟩; have S9 := S8.below c9))
        go_ret
        exact ⟨rfl, S9.b⟩
end Go.Proofs.YtnclddfljghebaaGreatDoor
