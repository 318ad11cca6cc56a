/- The document's Norm, Sign, Cmp, Add, Sub, Mul, Div of ratios. (Written by mkrx2.py.) -/
import Derived.Test.YtnclddfljghebaaGreatDoorRx1
import Derived.Test.YtnclddfljghebaaGreatDoorRv6r
namespace Go.Proofs.YtnclddfljghebaaGreatDoor
open Go.RowKit

/-- What is told, none as the empty ratio. -/
def toT (q : Option (Bool × Nat × Nat) × Int) : (Bool × Nat × Nat) × Int := match q.1 with | some r => (r, 0) | none => ((false, 0, 0), q.2)
/-- A ratio and an error handed back. -/
def GaveV (w : World) (n : Bool) (N D : Nat) (er : Int) (e : Ending) (w' : World) : Prop :=
  ∃ ao cap bo bcap, e = .returned (.tuple #[.agg #[.bool n, .slice ao (nl N) cap, .slice bo (nl D) bcap], .int .i64 er]) ∧ LS w' ao cap (lo N) ∧ LS w' bo bcap (lo D) ∧ Below w.heap.size w w'
theorem lsnil (w : World) : LS w none 0 (lo 0) := ⟨Or.inl rfl, Nat.le_refl _, fun _ => rfl⟩
theorem gaveV_of {w : World} {q : Option (Bool × Nat × Nat) × Int} {n : Bool} {N D : Nat} {er : Int} (hq : toT q = ((n, N, D), er)) {e : Ending} {w' : World} (h : GaveR w q.1 q.2 e w') : GaveV w n N D er e w' := by
  obtain ⟨o, k⟩ := q
  cases o with
  | none =>
    unfold toT at hq
    simp only [Prod.mk.injEq] at hq
    obtain ⟨⟨rfl, rfl, rfl⟩, rfl⟩ := hq
    obtain ⟨h1, h2⟩ := h
    exact ⟨none, 0, none, 0, h1, lsnil _, lsnil _, h2⟩
  | some r =>
    obtain ⟨a, b, c⟩ := r
    unfold toT at hq
    simp only [Prod.mk.injEq] at hq
    obtain ⟨⟨rfl, rfl, rfl⟩, rfl⟩ := hq
    exact h
/-- A ratio and an error as a value. -/
def RtP (n : Bool) (N D : Nat) (er : Int) (a : World) (x : Value) : Prop := ∃ ao ac bo bc, x = .tuple #[.agg #[.bool n, .slice ao (nl N) ac, .slice bo (nl D) bc], .int .i64 er] ∧ LS a ao ac (lo N) ∧ LS a bo bc (lo D)
theorem RtP.below {n : Bool} {N D : Nat} {er : Int} {a a' : World} {x : Value} (h : RtP n N D er a x) (hb : Below a.heap.size a a') : RtP n N D er a' x := by
  obtain ⟨ao, ac, bo, bc, e, u, t⟩ := h
  exact ⟨ao, ac, bo, bc, e, u.below hb, t.below hb⟩
def RaP (n : Bool) (N D : Nat) (a : World) (x : Value) : Prop := ∃ ao ac bo bc, x = .agg #[.bool n, .slice ao (nl N) ac, .slice bo (nl D) bc] ∧ LS a ao ac (lo N) ∧ LS a bo bc (lo D)
theorem RaP.below {n : Bool} {N D : Nat} {a a' : World} {x : Value} (h : RaP n N D a x) (hb : Below a.heap.size a a') : RaP n N D a' x := by
  obtain ⟨ao, ac, bo, bc, e, u, t⟩ := h
  exact ⟨ao, ac, bo, bc, e, u.below hb, t.below hb⟩
theorem told7V {n rn : Bool} {N D rN rD : Nat} {er : Int} (ht : toT (nmA n N D) = ((rn, rN, rD), er)) (hD0 : D ≠ 0) (hN : (lo N).length ≤ 1099511627776) (hD : (lo D).length ≤ 1099511627776) (ao bo : Option Addr) (cap bcap : Nat) (w : World) (h1 : NS w ao cap (lo N)) (h2 : NS w bo bcap (lo D)) :
    Calls Tryz.prog 42 #[.agg #[.bool n, .slice ao (lo N).length cap, .slice bo (lo D).length bcap]] w (GaveV w rn rN rD er) :=
  (told7_any n N D ao bo cap bcap w h1 h2 hN hD hD0).mono fun _ _ h => gaveV_of ht h
set_option maxRecDepth 100000 in
set_option maxHeartbeats 1000000 in
theorem dnorm7_any (n : Bool) (xs ys : List Nat) (ao bo : Option Addr) (ac bc : Nat) (w : World) (h1 : NS w ao ac xs) (h2 : NS w bo bc ys) (hL : Lm xs) (hM : Lm ys) (l1 : xs.length ≤ 1000) (l2 : ys.length ≤ 1000) {rn : Bool} {rN rD : Nat} {er : Int} (ht : toT (nmA n (vl xs) (vl ys)) = ((rn, rN, rD), er)) :
    Calls Tryz.prog 9 #[.agg #[.bool n, .slice ao xs.length ac, .slice bo ys.length bc]] w (GaveV w rn rN rD er) := by
  have AB := (B3q.new w (.bool n) (.slice ao xs.length ac) (.slice bo ys.length bc) 24).alloc (.cells #[.bool false, .slice none 0 0, .slice none 0 0] 24)
  have OB := B3q.new (w.alloc (.cells #[.bool n, .slice ao xs.length ac, .slice bo ys.length bc] 24)) (.bool false) (.slice none 0 0) (.slice none 0 0) 24
  have hs1 : (w.alloc (.cells #[.bool n, .slice ao xs.length ac, .slice bo ys.length bc] 24)).heap.size = w.heap.size + 1 := by simp
  rw [hs1] at OB
  have hb0 : Below w.heap.size w ((w.alloc (.cells #[.bool n, .slice ao xs.length ac, .slice bo ys.length bc] 24)).alloc (.cells #[.bool false, .slice none 0 0, .slice none 0 0] 24)) := ((Below.refl _ _).alloc (Nat.le_refl _) _).alloc (by rw [hs1]; omega) _
  have A1 := h1.below hb0
  have A2 := h2.below hb0
  have ct := fun W (a : NS W bo bc ys) => natTrim_any ys bo bc W a hM (by omega)
  have cv := fun W a b => value7_any n xs ys ao bo ac bc W a b hL hM (by omega) (by omega)
  have lx := lo_len hL
  have ly := lo_len hM
  by_cases h0 : vl ys = 0
  · have e : nmA n (vl xs) (vl ys) = (none, 7) := by unfold nmA; rw [if_pos h0]
    rw [e] at ht
    unfold toT at ht
    simp only [Prod.mk.injEq] at ht
    obtain ⟨⟨rfl, rfl, rfl⟩, rfl⟩ := ht
    have i0 : (((lo (vl ys)).length : Int) == 0) = true := by rw [h0]; rfl
    clear e h0 cv lx ly hs1
    go_enter Tryz.func9, Tryz.ntmps9
    go_upto_region 1 with fail
    generalize (w.alloc (.cells #[.bool n, .slice ao xs.length ac, .slice bo ys.length bc] 24)).alloc (.cells #[.bool false, .slice none 0 0, .slice none 0 0] 24) = W0 at *
    obtain ⟨x0, x1, x2, _, _, _, _, _⟩ := id AB
    go_wp2_with (go_at_call 41; refine (ct _ A2).mono ?_; rintro e w1 ⟨po, pc, rfl, k1, _, b1⟩; have hb1 := hb0.trans (b1.mono hb0.size); have OB1 := OB.below b1; obtain ⟨o0, o1, o2, q0, q1, q2, _, _⟩ := id OB1)
    exact bodyPost_ret (v := .tuple #[.agg #[.bool false, .slice none 0 0, .slice none 0 0], .int .i64 7]) (by simp [results, Tryz.results9, go_sem, o0, o1, o2]) rfl ⟨none, 0, none, 0, rfl, lsnil _, lsnil _, below_three hb1 (by omega) _ _ _⟩
  · have i0 : (((lo (vl ys)).length : Int) == 0) = false := by rw [beq_eq_false_iff_ne]; have := lo_pos h0; omega
    have cT := fun W po pc qo qc a b => told7V (n := n) ht h0 (by omega) (by omega) po qo pc qc W a b
    clear h0 lx ly ht hs1
    go_enter Tryz.func9, Tryz.ntmps9
    go_upto_region 1 with fail
    generalize (w.alloc (.cells #[.bool n, .slice ao xs.length ac, .slice bo ys.length bc] 24)).alloc (.cells #[.bool false, .slice none 0 0, .slice none 0 0] 24) = W0 at *
    obtain ⟨x0, x1, x2, _, _, _, _, _⟩ := id AB
    go_wp2_with (first
      | (go_at_call 41; refine (ct _ A2).mono ?_; rintro e w1 ⟨po, pc, rfl, _, _, b1⟩; have hb1 := hb0.trans (b1.mono hb0.size); have OB1 := OB.below b1; obtain ⟨y0, y1, y2, _, _, _, _, _⟩ := AB.below b1; have A11 := A1.below b1; have A21 := A2.below b1)
      | (go_at_call 43; refine (cv _ A11 A21).mono ?_; rintro e w2 ⟨qo, qc, so, sc, rfl, k1, k2, b2⟩; have hb2 := hb1.trans (b2.mono hb1.size); have OB2 := OB1.below b2)
      | (go_at_call 42; refine (cT _ _ _ _ _ k1 k2).mono ?_; rintro e w3 ⟨vo, tc, uo, uc, rfl, m1, m2, b3⟩; have hb3 := hb2.trans (b3.mono hb2.size); have OB3 := OB2.below b3; obtain ⟨o0, o1, o2, q0, q1, q2, _, _⟩ := id OB3))
    exact bodyPost_ret (v := .tuple #[.agg #[.bool rn, .slice vo (nl rN) tc, .slice uo (nl rD) uc], .int .i64 er]) (by simp [results, Tryz.results9, go_sem, o0, o1, o2]) rfl ⟨vo, tc, uo, uc, rfl, m1.threeB OB3 _ _ _, m2.threeB OB3 _ _ _, below_three hb3 (by omega) _ _ _⟩
set_option maxRecDepth 100000 in
set_option maxHeartbeats 1000000 in
theorem dsign7_any (n : Bool) (xs ys : List Nat) (ao bo : Option Addr) (ac bc : Nat) (w : World) (h1 : NS w ao ac xs) (h2 : NS w bo bc ys) (hL : Lm xs) (hM : Lm ys) (l1 : xs.length ≤ 1000) (l2 : ys.length ≤ 1000) :
    Calls Tryz.prog 31 #[.agg #[.bool n, .slice ao xs.length ac, .slice bo ys.length bc]] w fun e w' => e = .returned (.tuple #[.int .i64 (if rtB n xs ys then sgR n (vl xs) else 0), .int .i64 (if rtB n xs ys then 0 else 2)]) ∧ Below w.heap.size w w' := by
  have AB := B3q.new w (.bool n) (.slice ao xs.length ac) (.slice bo ys.length bc) 24
  have hb0 : Below w.heap.size w (w.alloc (.cells #[.bool n, .slice ao xs.length ac, .slice bo ys.length bc] 24)) := (Below.refl _ _).alloc (Nat.le_refl _) _
  have A1 := h1.below hb0
  have A2 := h2.below hb0
  have r1 := dright7_any n xs ys ao bo ac bc _ A1 A2 hL hM (by omega) (by omega)
  have rv := fun W (a : NS W ao ac xs) (b : NS W bo bc ys) => value7_any n xs ys ao bo ac bc W a b hL hM (by omega) (by omega)
  have lx := lo_len hL
  have cs := fun W po pc qo qc dl (a : NS W po pc (lo (vl xs))) => fsign_any n (vl xs) po qo pc dl qc W a (by omega)
  cases hR : rtB n xs ys
  · rw [hR] at r1
    simp only [Bool.false_eq_true, if_false]
    clear hR rv cs
    go_enter Tryz.func31, Tryz.ntmps31
    go_upto_region 1 with fail
    generalize w.alloc (.cells #[.bool n, .slice ao xs.length ac, .slice bo ys.length bc] 24) = W0 at *
    obtain ⟨x0, x1, x2, _, _, _, _, xlt⟩ := id AB
    go_wp2_with (go_at_call 12; refine r1.mono ?_; rintro e w3 ⟨rfl, b3⟩)
    exact bodyPost_ret (v := .tuple #[.int .i64 0, .int .i64 2]) (by simp [results, Tryz.results31, go_sem]) rfl ⟨rfl, hb0.trans (b3.mono hb0.size)⟩
  · rw [hR] at r1
    rw [if_pos rfl, if_pos rfl]
    clear hR
    obtain ⟨sg, hsg⟩ : ∃ s, sgR n (vl xs) = s := ⟨_, rfl⟩
    rw [hsg] at cs ⊢
    clear hsg
    go_enter Tryz.func31, Tryz.ntmps31
    go_upto_region 1 with fail
    generalize w.alloc (.cells #[.bool n, .slice ao xs.length ac, .slice bo ys.length bc] 24) = W0 at *
    obtain ⟨x0, x1, x2, _, _, _, _, xlt⟩ := id AB
    go_wp2_with (first
      | (go_at_call 12; refine r1.mono ?_; rintro e w3 ⟨rfl, b3⟩; have hb3 := hb0.trans (b3.mono hb0.size); obtain ⟨y0, y1, y2, _, _, _, _, _⟩ := AB.below b3; have A13 := A1.below b3; have A23 := A2.below b3)
      | (go_at_call 43; refine (rv _ A13 A23).mono ?_; rintro e w4 ⟨po, pc, qo, qc, rfl, k1, k2, b4⟩; have hb4 := hb3.trans (b4.mono hb3.size))
      | (go_at_call 71; refine (cs _ _ _ _ _ _ k1).mono ?_; rintro e w5 ⟨rfl, b5⟩))
    exact bodyPost_ret (v := .tuple #[.int .i64 sg, .int .i64 0]) (by simp [results, Tryz.results31, go_sem]) rfl ⟨rfl, hb4.trans (b5.mono hb4.size)⟩
set_option maxRecDepth 100000 in
set_option maxHeartbeats 4000000 in
theorem daddw7_any (n1 n2 : Bool) (xs ys us vs : List Nat) (ao1 bo1 ao2 bo2 : Option Addr) (ac1 bc1 ac2 bc2 : Nat) (w : World) (a1 : NS w ao1 ac1 xs) (b1 : NS w bo1 bc1 ys) (a2 : NS w ao2 ac2 us) (b2 : NS w bo2 bc2 vs) (hL1 : Lm xs) (hM1 : Lm ys) (_hL2 : Lm us) (_hM2 : Lm vs) (l1 : xs.length ≤ 300) (l2 : ys.length ≤ 300) (_l3 : us.length ≤ 300) (_l4 : vs.length ≤ 300) (hR : rtB n1 xs ys = false) :
    Calls Tryz.prog 21 #[.agg #[.bool n1, .slice ao1 xs.length ac1, .slice bo1 ys.length bc1], .agg #[.bool n2, .slice ao2 us.length ac2, .slice bo2 vs.length bc2]] w (GaveV w false 0 0 2) := by
  have hs1 : (w.alloc (.cells #[.bool n1, .slice ao1 xs.length ac1, .slice bo1 ys.length bc1] 24)).heap.size = w.heap.size + 1 := by simp
  have hs2 : ((w.alloc (.cells #[.bool n1, .slice ao1 xs.length ac1, .slice bo1 ys.length bc1] 24)).alloc (.cells #[.bool n2, .slice ao2 us.length ac2, .slice bo2 vs.length bc2] 24)).heap.size = w.heap.size + 1 + 1 := by simp
  have XB := ((B3q.new w (.bool n1) (.slice ao1 xs.length ac1) (.slice bo1 ys.length bc1) 24).alloc (.cells #[.bool n2, .slice ao2 us.length ac2, .slice bo2 vs.length bc2] 24)).alloc (.cells #[.bool false, .slice none 0 0, .slice none 0 0] 24)
  have YB := (B3q.new (w.alloc (.cells #[.bool n1, .slice ao1 xs.length ac1, .slice bo1 ys.length bc1] 24)) (.bool n2) (.slice ao2 us.length ac2) (.slice bo2 vs.length bc2) 24).alloc (.cells #[.bool false, .slice none 0 0, .slice none 0 0] 24)
  rw [hs1] at YB
  have OB := B3q.new ((w.alloc (.cells #[.bool n1, .slice ao1 xs.length ac1, .slice bo1 ys.length bc1] 24)).alloc (.cells #[.bool n2, .slice ao2 us.length ac2, .slice bo2 vs.length bc2] 24)) (.bool false) (.slice none 0 0) (.slice none 0 0) 24
  rw [hs2] at OB
  have hb0 : Below w.heap.size w (((w.alloc (.cells #[.bool n1, .slice ao1 xs.length ac1, .slice bo1 ys.length bc1] 24)).alloc (.cells #[.bool n2, .slice ao2 us.length ac2, .slice bo2 vs.length bc2] 24)).alloc (.cells #[.bool false, .slice none 0 0, .slice none 0 0] 24)) := (((Below.refl w.heap.size w).alloc (Nat.le_refl _) _).alloc (by rw [hs1]; omega) _).alloc (by rw [hs2]; omega) _
  have A1 := a1.below hb0
  have B1 := b1.below hb0
  have A2 := a2.below hb0
  have B2 := b2.below hb0
  have r1 := dright7_any n1 xs ys ao1 bo1 ac1 bc1 _ A1 B1 hL1 hM1 (by omega) (by omega)
  rw [hR] at r1
  clear hR hs1 hs2 a1 b1 a2 b2
  go_enter Tryz.func21, Tryz.ntmps21
  go_upto_region 1 with fail
  generalize ((w.alloc (.cells #[.bool n1, .slice ao1 xs.length ac1, .slice bo1 ys.length bc1] 24)).alloc (.cells #[.bool n2, .slice ao2 us.length ac2, .slice bo2 vs.length bc2] 24)).alloc (.cells #[.bool false, .slice none 0 0, .slice none 0 0] 24) = W0 at *
  obtain ⟨x0, x1, x2, _, _, _, _, xlt⟩ := id XB
  go_wp2_with (go_at_call_of 12 (Value.agg #[Value.bool n1, Value.slice ao1 xs.length ac1, Value.slice bo1 ys.length bc1]); refine r1.mono ?_; rintro e w3 ⟨rfl, b3⟩; have hb3 := hb0.trans (b3.mono hb0.size); have XB3 := XB.below b3; have YB3 := YB.below b3; have A13 := A1.below b3; have B13 := B1.below b3; have A23 := A2.below b3; have B23 := B2.below b3; have OB3 := OB.below b3; obtain ⟨yy0, yy1, yy2, _, _, _, _, _⟩ := id YB3; obtain ⟨p0, p1, p2, s0, s1, s2, _, _⟩ := id OB3)
  exact bodyPost_ret (v := .tuple #[.agg #[.bool false, .slice none 0 0, .slice none 0 0], .int .i64 2]) (by simp [results, Tryz.results21, go_sem, p0, p1, p2]) rfl ⟨none, 0, none, 0, rfl, lsnil _, lsnil _, below_three hb3 (by omega) _ _ _⟩
set_option maxRecDepth 100000 in
set_option maxHeartbeats 4000000 in
theorem daddx7_any (n1 n2 : Bool) (xs ys us vs : List Nat) (ao1 bo1 ao2 bo2 : Option Addr) (ac1 bc1 ac2 bc2 : Nat) (w : World) (a1 : NS w ao1 ac1 xs) (b1 : NS w bo1 bc1 ys) (a2 : NS w ao2 ac2 us) (b2 : NS w bo2 bc2 vs) (hL1 : Lm xs) (hM1 : Lm ys) (hL2 : Lm us) (hM2 : Lm vs) (l1 : xs.length ≤ 300) (l2 : ys.length ≤ 300) (l3 : us.length ≤ 300) (l4 : vs.length ≤ 300) (hR : rtB n1 xs ys = true) (hQ : rtB n2 us vs = false) :
    Calls Tryz.prog 21 #[.agg #[.bool n1, .slice ao1 xs.length ac1, .slice bo1 ys.length bc1], .agg #[.bool n2, .slice ao2 us.length ac2, .slice bo2 vs.length bc2]] w (GaveV w false 0 0 2) := by
  have hs1 : (w.alloc (.cells #[.bool n1, .slice ao1 xs.length ac1, .slice bo1 ys.length bc1] 24)).heap.size = w.heap.size + 1 := by simp
  have hs2 : ((w.alloc (.cells #[.bool n1, .slice ao1 xs.length ac1, .slice bo1 ys.length bc1] 24)).alloc (.cells #[.bool n2, .slice ao2 us.length ac2, .slice bo2 vs.length bc2] 24)).heap.size = w.heap.size + 1 + 1 := by simp
  have XB := ((B3q.new w (.bool n1) (.slice ao1 xs.length ac1) (.slice bo1 ys.length bc1) 24).alloc (.cells #[.bool n2, .slice ao2 us.length ac2, .slice bo2 vs.length bc2] 24)).alloc (.cells #[.bool false, .slice none 0 0, .slice none 0 0] 24)
  have YB := (B3q.new (w.alloc (.cells #[.bool n1, .slice ao1 xs.length ac1, .slice bo1 ys.length bc1] 24)) (.bool n2) (.slice ao2 us.length ac2) (.slice bo2 vs.length bc2) 24).alloc (.cells #[.bool false, .slice none 0 0, .slice none 0 0] 24)
  rw [hs1] at YB
  have OB := B3q.new ((w.alloc (.cells #[.bool n1, .slice ao1 xs.length ac1, .slice bo1 ys.length bc1] 24)).alloc (.cells #[.bool n2, .slice ao2 us.length ac2, .slice bo2 vs.length bc2] 24)) (.bool false) (.slice none 0 0) (.slice none 0 0) 24
  rw [hs2] at OB
  have hb0 : Below w.heap.size w (((w.alloc (.cells #[.bool n1, .slice ao1 xs.length ac1, .slice bo1 ys.length bc1] 24)).alloc (.cells #[.bool n2, .slice ao2 us.length ac2, .slice bo2 vs.length bc2] 24)).alloc (.cells #[.bool false, .slice none 0 0, .slice none 0 0] 24)) := (((Below.refl w.heap.size w).alloc (Nat.le_refl _) _).alloc (by rw [hs1]; omega) _).alloc (by rw [hs2]; omega) _
  have A1 := a1.below hb0
  have B1 := b1.below hb0
  have A2 := a2.below hb0
  have B2 := b2.below hb0
  have r1 := dright7_any n1 xs ys ao1 bo1 ac1 bc1 _ A1 B1 hL1 hM1 (by omega) (by omega)
  rw [hR] at r1
  have r2 := fun W (a : NS W ao2 ac2 us) (b : NS W bo2 bc2 vs) => dright7_any n2 us vs ao2 bo2 ac2 bc2 W a b hL2 hM2 (by omega) (by omega)
  simp only [hQ] at r2
  clear hR hQ hs1 hs2 a1 b1 a2 b2
  go_enter Tryz.func21, Tryz.ntmps21
  go_upto_region 1 with fail
  generalize ((w.alloc (.cells #[.bool n1, .slice ao1 xs.length ac1, .slice bo1 ys.length bc1] 24)).alloc (.cells #[.bool n2, .slice ao2 us.length ac2, .slice bo2 vs.length bc2] 24)).alloc (.cells #[.bool false, .slice none 0 0, .slice none 0 0] 24) = W0 at *
  obtain ⟨x0, x1, x2, _, _, _, _, xlt⟩ := id XB
  obtain ⟨y0, y1, y2, _, _, _, _, ylt⟩ := id YB
  go_wp2_with (first
    | (go_at_call_of 12 (Value.agg #[Value.bool n1, Value.slice ao1 xs.length ac1, Value.slice bo1 ys.length bc1]); refine r1.mono ?_; rintro e w3 ⟨rfl, b3⟩; have hb3 := hb0.trans (b3.mono hb0.size); have XB3 := XB.below b3; have YB3 := YB.below b3; have A13 := A1.below b3; have B13 := B1.below b3; have A23 := A2.below b3; have B23 := B2.below b3; have OB3 := OB.below b3; obtain ⟨yy0, yy1, yy2, _, _, _, _, _⟩ := id YB3)
    | (go_at_call_of 12 (Value.agg #[Value.bool n2, Value.slice ao2 us.length ac2, Value.slice bo2 vs.length bc2]); refine (r2 _ A23 B23).mono ?_; rintro e w4 ⟨rfl, b4⟩; have hb4 := hb3.trans (b4.mono hb3.size); have XB4 := XB3.below b4; have YB4 := YB3.below b4; have A14 := A13.below b4; have B14 := B13.below b4; have A24 := A23.below b4; have B24 := B23.below b4; have OB4 := OB3.below b4; obtain ⟨xx0, xx1, xx2, _, _, _, _, _⟩ := id XB4; obtain ⟨zz0, zz1, zz2, _, _, _, _, _⟩ := id YB4; obtain ⟨p0, p1, p2, s0, s1, s2, _, _⟩ := id OB4))
  exact bodyPost_ret (v := .tuple #[.agg #[.bool false, .slice none 0 0, .slice none 0 0], .int .i64 2]) (by simp [results, Tryz.results21, go_sem, p0, p1, p2]) rfl ⟨none, 0, none, 0, rfl, lsnil _, lsnil _, below_three hb4 (by omega) _ _ _⟩
set_option maxRecDepth 100000 in
set_option maxHeartbeats 4000000 in
theorem daddy7_any (n1 n2 : Bool) (xs ys us vs : List Nat) (ao1 bo1 ao2 bo2 : Option Addr) (ac1 bc1 ac2 bc2 : Nat) (w : World) (a1 : NS w ao1 ac1 xs) (b1 : NS w bo1 bc1 ys) (a2 : NS w ao2 ac2 us) (b2 : NS w bo2 bc2 vs) (hL1 : Lm xs) (hM1 : Lm ys) (hL2 : Lm us) (hM2 : Lm vs) (l1 : xs.length ≤ 300) (l2 : ys.length ≤ 300) (l3 : us.length ≤ 300) (l4 : vs.length ≤ 300) (hR : rtB n1 xs ys = true) (hQ : rtB n2 us vs = true) {rn : Bool} {rN rD : Nat} {er : Int} (ht : toT (nmA (smQ n1 n2 (vl xs * vl vs) (vl us * vl ys)).1 (smQ n1 n2 (vl xs * vl vs) (vl us * vl ys)).2 (vl ys * vl vs)) = ((rn, rN, rD), er)) :
    Calls Tryz.prog 21 #[.agg #[.bool n1, .slice ao1 xs.length ac1, .slice bo1 ys.length bc1], .agg #[.bool n2, .slice ao2 us.length ac2, .slice bo2 vs.length bc2]] w (GaveV w rn rN rD er) := by
  have hs1 : (w.alloc (.cells #[.bool n1, .slice ao1 xs.length ac1, .slice bo1 ys.length bc1] 24)).heap.size = w.heap.size + 1 := by simp
  have hs2 : ((w.alloc (.cells #[.bool n1, .slice ao1 xs.length ac1, .slice bo1 ys.length bc1] 24)).alloc (.cells #[.bool n2, .slice ao2 us.length ac2, .slice bo2 vs.length bc2] 24)).heap.size = w.heap.size + 1 + 1 := by simp
  have XB := ((B3q.new w (.bool n1) (.slice ao1 xs.length ac1) (.slice bo1 ys.length bc1) 24).alloc (.cells #[.bool n2, .slice ao2 us.length ac2, .slice bo2 vs.length bc2] 24)).alloc (.cells #[.bool false, .slice none 0 0, .slice none 0 0] 24)
  have YB := (B3q.new (w.alloc (.cells #[.bool n1, .slice ao1 xs.length ac1, .slice bo1 ys.length bc1] 24)) (.bool n2) (.slice ao2 us.length ac2) (.slice bo2 vs.length bc2) 24).alloc (.cells #[.bool false, .slice none 0 0, .slice none 0 0] 24)
  rw [hs1] at YB
  have OB := B3q.new ((w.alloc (.cells #[.bool n1, .slice ao1 xs.length ac1, .slice bo1 ys.length bc1] 24)).alloc (.cells #[.bool n2, .slice ao2 us.length ac2, .slice bo2 vs.length bc2] 24)) (.bool false) (.slice none 0 0) (.slice none 0 0) 24
  rw [hs2] at OB
  have hb0 : Below w.heap.size w (((w.alloc (.cells #[.bool n1, .slice ao1 xs.length ac1, .slice bo1 ys.length bc1] 24)).alloc (.cells #[.bool n2, .slice ao2 us.length ac2, .slice bo2 vs.length bc2] 24)).alloc (.cells #[.bool false, .slice none 0 0, .slice none 0 0] 24)) := (((Below.refl w.heap.size w).alloc (Nat.le_refl _) _).alloc (by rw [hs1]; omega) _).alloc (by rw [hs2]; omega) _
  have A1 := a1.below hb0
  have B1 := b1.below hb0
  have A2 := a2.below hb0
  have B2 := b2.below hb0
  have r1 := dright7_any n1 xs ys ao1 bo1 ac1 bc1 _ A1 B1 hL1 hM1 (by omega) (by omega)
  rw [hR] at r1
  have r2 := fun W (a : NS W ao2 ac2 us) (b : NS W bo2 bc2 vs) => dright7_any n2 us vs ao2 bo2 ac2 bc2 W a b hL2 hM2 (by omega) (by omega)
  simp only [hQ] at r2
  have R1 := (rt_right hL1 hM1 hR).2.2
  have R2 := (rt_right hL2 hM2 hQ).2.2
  have m1 : (lo (vl xs)).length ≤ 256 := by rw [lo_length]; exact R1.n
  have m2 : (lo (vl ys)).length ≤ 256 := by rw [lo_length]; exact R1.d
  have m3 : (lo (vl us)).length ≤ 256 := by rw [lo_length]; exact R2.n
  have m4 : (lo (vl vs)).length ≤ 256 := by rw [lo_length]; exact R2.d
  have v1 := fun W a b => value7_any n1 xs ys ao1 bo1 ac1 bc1 W a b hL1 hM1 (by omega) (by omega)
  have v2 := fun W a b => value7_any n2 us vs ao2 bo2 ac2 bc2 W a b hL2 hM2 (by omega) (by omega)
  have z1 := R1.d0
  have z3 := R2.d0
  clear R1 R2
  obtain ⟨N1, eN1⟩ : ∃ q, vl xs = q := ⟨_, rfl⟩
  obtain ⟨D1, eD1⟩ : ∃ q, vl ys = q := ⟨_, rfl⟩
  obtain ⟨N2, eN2⟩ : ∃ q, vl us = q := ⟨_, rfl⟩
  obtain ⟨D2, eD2⟩ : ∃ q, vl vs = q := ⟨_, rfl⟩
  rw [eN1, eD1] at v1
  rw [eN2, eD2] at v2
  rw [eN1] at m1
  rw [eD1] at m2 z1
  rw [eN2] at m3
  rw [eD2] at m4 z3
  rw [eN1, eD1, eN2, eD2] at ht
  clear eN1 eD1 eN2 eD2
  have cp := fun W po1 pc1 qo1 qc1 po2 pc2 qo2 qc2 a b c d => plus7_any n1 n2 N1 D1 N2 D2 po1 qo1 po2 qo2 pc1 qc1 pc2 qc2 W a b c d (by omega) (by omega) (by omega) (by omega)
  have lS : (lo (smQ n1 n2 (N1 * D2) (N2 * D1)).2).length ≤ 1099511627776 := sm_len (by omega) (by omega) (by omega) (by omega)
  have lP : (lo (D1 * D2)).length ≤ 1099511627776 := Nat.le_trans lo_mul_len (by omega)
  obtain ⟨sn, sz, hq⟩ : ∃ a b, smQ n1 n2 (N1 * D2) (N2 * D1) = (a, b) := ⟨_, _, rfl⟩
  rw [hq] at cp lS ht
  simp only at cp lS ht
  clear hq
  have zP : D1 * D2 ≠ 0 := Nat.mul_ne_zero z1 z3
  generalize D1 * D2 = PD at *
  have ct := fun W po pc qo qc a b => told7V (n := sn) ht zP lS lP po qo pc qc W a b
  clear ht zP lS lP m1 m2 m3 m4
  clear z1 z3
  clear hR hQ hs1 hs2 a1 b1 a2 b2
  go_enter Tryz.func21, Tryz.ntmps21
  go_upto_region 1 with fail
  generalize ((w.alloc (.cells #[.bool n1, .slice ao1 xs.length ac1, .slice bo1 ys.length bc1] 24)).alloc (.cells #[.bool n2, .slice ao2 us.length ac2, .slice bo2 vs.length bc2] 24)).alloc (.cells #[.bool false, .slice none 0 0, .slice none 0 0] 24) = W0 at *
  obtain ⟨x0, x1, x2, _, _, _, _, xlt⟩ := id XB
  obtain ⟨y0, y1, y2, _, _, _, _, ylt⟩ := id YB
  go_upto_region 3 with (first
    | (go_at_call_of 12 (Value.agg #[Value.bool n1, Value.slice ao1 xs.length ac1, Value.slice bo1 ys.length bc1]); refine r1.mono ?_; rintro e w3 ⟨rfl, b3⟩; have hb3 := hb0.trans (b3.mono hb0.size); have XB3 := XB.below b3; have YB3 := YB.below b3; have A13 := A1.below b3; have B13 := B1.below b3; have A23 := A2.below b3; have B23 := B2.below b3; have OB3 := OB.below b3; obtain ⟨yy0, yy1, yy2, _, _, _, _, _⟩ := id YB3)
    | (go_at_call_of 12 (Value.agg #[Value.bool n2, Value.slice ao2 us.length ac2, Value.slice bo2 vs.length bc2]); refine (r2 _ A23 B23).mono ?_; rintro e w4 ⟨rfl, b4⟩; have hb4 := hb3.trans (b4.mono hb3.size); have XB4 := XB3.below b4; have YB4 := YB3.below b4; have A14 := A13.below b4; have B14 := B13.below b4; have A24 := A23.below b4; have B24 := B23.below b4; have OB4 := OB3.below b4; obtain ⟨xx0, xx1, xx2, _, _, _, _, _⟩ := id XB4; obtain ⟨zz0, zz1, zz2, _, _, _, _, _⟩ := id YB4))
  clear x0 x1 x2 xlt y0 y1 y2 ylt XB YB XB3 YB3 A1 B1 A2 B2 A13 B13 A23 B23 r1 r2 hb0 hb3 b3 b4 OB OB3
  obtain ⟨x0, x1, x2, _, _, _, _, xlt⟩ := id XB4
  obtain ⟨y0, y1, y2, _, _, _, _, ylt⟩ := id YB4
  obtain ⟨FL, hFL⟩ : ∃ f : Nat → Lz, f = (fun j => match j with | 0 => .is (.agg #[.bool n1, .slice ao1 xs.length ac1, .slice bo1 ys.length bc1]) | 1 => .gn (FrP (n1) N1 D1) (fun _ _ _ h hb => h.below hb) | 2 => .is (.agg #[.bool n2, .slice ao2 us.length ac2, .slice bo2 vs.length bc2]) | 3 => .gn (FrP (n2) N2 D2) (fun _ _ _ h hb => h.below hb) | 4 => .gn (FrP (sn) sz PD) (fun _ _ _ h hb => h.below hb) | 5 => .gn (RtP rn rN rD er) (fun _ _ _ h hb => h.below hb) | 6 => .gn (RaP rn rN rD) (fun _ _ _ h hb => h.below hb) | 7 => .is (.int .i64 er) | 8 => .tr | 9 => .is (.int .i64 er) | _ => .tr) := ⟨_, rfl⟩
  have F0 := congrFun hFL 0
  have F1 := congrFun hFL 1
  have F2 := congrFun hFL 2
  have F3 := congrFun hFL 3
  have F4 := congrFun hFL 4
  have F5 := congrFun hFL 5
  have F6 := congrFun hFL 6
  have F7 := congrFun hFL 7
  have F8 := congrFun hFL 8
  have F9 := congrFun hFL 9
  simp only at F0 F1 F2 F3 F4 F5 F6 F7 F8 F9
  clear hFL
  refine region_rgU (by kernel_rfl) (fun v => ⟨#[Value.agg #[Value.bool n1, Value.slice ao1 xs.length ac1, Value.slice bo1 ys.length bc1], Value.agg #[Value.bool n2, Value.slice ao2 us.length ac2, Value.slice bo2 vs.length bc2], Value.pointer (some { block := w.heap.size, off := 0 }), Value.pointer (some { block := w.heap.size + 1, off := 0 }), Value.pointer (some { block := w.heap.size + 1 + 1, off := 0 }), v 9, Value.agg #[Value.bool n1, Value.slice ao1 xs.length ac1, Value.slice bo1 ys.length bc1], Value.bool true, Value.bool false, Value.bool false, Value.agg #[Value.bool n2, Value.slice ao2 us.length ac2, Value.slice bo2 vs.length bc2], Value.bool true, Value.bool false, Value.bool false, undef, v 0, v 1, v 2, v 3, v 4, v 5, v 6, v 7], []⟩) 8 (fun j => decide (j ≠ 8 ∧ j ≠ 9)) FL (fun a => ∃ ro rc so sc, B3q a (w.heap.size + 1 + 1) (.bool rn) (.slice ro (nl rN) rc) (.slice so (nl rD) sc) ∧ LS a ro rc (lo rN) ∧ LS a so sc (lo rD) ∧ Below w.heap.size w a) (fun j => match j with | 9 => Value.int IntKind.i64 0 | _ => undef) rfl ?_ ?_
  · intro L v w' i hL hS hi
    obtain ⟨h1, h2, h3⟩ := mem_ready hi
    have h1 : i < 10 := h1
    try dsimp only
    have hcs : i = 0 ∨ i = 1 ∨ i = 2 ∨ i = 3 ∨ i = 4 ∨ i = 5 ∨ i = 6 ∨ i = 7 ∨ i = 8 ∨ i = 9 := by omega
    clear h1 h2 h3
    rcases hcs with rfl | rfl | rfl | rfl | rfl | rfl | rfl | rfl | rfl | rfl
    · have hns := hS.open hL hi rfl
      have hB := hS.a hns
      have rx0 : w'.cell? ⟨w.heap.size, 0, none⟩ = some _ := (hB.cell (p := ⟨w.heap.size, 0, none⟩) xlt).trans x0
      have rx1 : w'.cell? ⟨w.heap.size, 1, none⟩ = some _ := (hB.cell (p := ⟨w.heap.size, 1, none⟩) xlt).trans x1
      have rx2 : w'.cell? ⟨w.heap.size, 2, none⟩ = some _ := (hB.cell (p := ⟨w.heap.size, 2, none⟩) xlt).trans x2
      refine wpOpT_of (fun K hK => ?_)
      unfold wpOp
      go_simp
      refine Or.inl ?_
      exact hK _ _ ⟨putT v 0 (.agg #[.bool n1, .slice ao1 xs.length ac1, .slice bo1 ys.length bc1]), (by simp [putT]), hS.step hL hi rfl (by decide) (Below.refl _ _) (Lz.toIs F0)⟩
    · have hns := hS.open hL hi rfl
      have hB := hS.a hns
      have e0 := Lz.ofIs (hS.f hns 0 rfl (ready_dep hi 0 (by kernel_rfl))) F0
      refine wpOpT_of (fun K hK => ?_)
      unfold wpOp
      simp only [e0]
      go_simp
      refine Or.inl ?_
      go_at_call 43
      refine (v1 _ (A14.below hB) (B14.below hB)).mono ?_
      rintro e w1 ⟨po, pc, qo, qc, rfl, m1, m2, bc⟩
      exact hK _ _ ⟨putT v 1 (.agg #[.bool (n1), .slice po (lo N1).length pc, .slice qo (lo D1).length qc]), (by simp [putT, e0]), hS.step hL hi rfl (by decide) (bc) (Lz.toGn F1 (⟨_, _, _, _, rfl, m1, m2⟩))⟩
    · have hns := hS.open hL hi rfl
      have hB := hS.a hns
      have ry0 : w'.cell? ⟨(w.heap.size + 1), 0, none⟩ = some _ := (hB.cell (p := ⟨(w.heap.size + 1), 0, none⟩) ylt).trans y0
      have ry1 : w'.cell? ⟨(w.heap.size + 1), 1, none⟩ = some _ := (hB.cell (p := ⟨(w.heap.size + 1), 1, none⟩) ylt).trans y1
      have ry2 : w'.cell? ⟨(w.heap.size + 1), 2, none⟩ = some _ := (hB.cell (p := ⟨(w.heap.size + 1), 2, none⟩) ylt).trans y2
      refine wpOpT_of (fun K hK => ?_)
      unfold wpOp
      go_simp
      refine Or.inl ?_
      exact hK _ _ ⟨putT v 2 (.agg #[.bool n2, .slice ao2 us.length ac2, .slice bo2 vs.length bc2]), (by simp [putT]), hS.step hL hi rfl (by decide) (Below.refl _ _) (Lz.toIs F2)⟩
    · have hns := hS.open hL hi rfl
      have hB := hS.a hns
      have e2 := Lz.ofIs (hS.f hns 2 rfl (ready_dep hi 2 (by kernel_rfl))) F2
      refine wpOpT_of (fun K hK => ?_)
      unfold wpOp
      simp only [e2]
      go_simp
      refine Or.inl ?_
      go_at_call 43
      refine (v2 _ (A24.below hB) (B24.below hB)).mono ?_
      rintro e w1 ⟨po, pc, qo, qc, rfl, m1, m2, bc⟩
      exact hK _ _ ⟨putT v 3 (.agg #[.bool (n2), .slice po (lo N2).length pc, .slice qo (lo D2).length qc]), (by simp [putT, e2]), hS.step hL hi rfl (by decide) (bc) (Lz.toGn F3 (⟨_, _, _, _, rfl, m1, m2⟩))⟩
    · have hns := hS.open hL hi rfl
      have hB := hS.a hns
      obtain ⟨ao_1, ac_1, bo_1, bc_1, e1, u1, t1⟩ := Lz.ofGn (hS.f hns 1 rfl (ready_dep hi 1 (by kernel_rfl))) F1
      obtain ⟨ao_3, ac_3, bo_3, bc_3, e3, u3, t3⟩ := Lz.ofGn (hS.f hns 3 rfl (ready_dep hi 3 (by kernel_rfl))) F3
      refine wpOpT_of (fun K hK => ?_)
      unfold wpOp
      simp only [e1, e3]
      go_simp
      refine Or.inl ?_
      go_at_call 61
      refine (cp _ _ _ _ _ _ _ _ _ u1 t1 u3 t3).mono ?_
      rintro e w1 ⟨po, pc, qo, qc, rfl, m1, m2, bc⟩
      exact hK _ _ ⟨putT v 4 (.agg #[.bool (sn), .slice po (lo sz).length pc, .slice qo (lo PD).length qc]), (by simp [putT, e1, e3]), hS.step hL hi rfl (by decide) (bc) (Lz.toGn F4 (⟨_, _, _, _, rfl, m1, m2⟩))⟩
    · have hns := hS.open hL hi rfl
      have hB := hS.a hns
      obtain ⟨ao_4, ac_4, bo_4, bc_4, e4, u4, t4⟩ := Lz.ofGn (hS.f hns 4 rfl (ready_dep hi 4 (by kernel_rfl))) F4
      refine wpOpT_of (fun K hK => ?_)
      unfold wpOp
      simp only [e4]
      go_simp
      refine Or.inl ?_
      go_at_call 42
      refine (ct _ _ _ _ _ u4 t4).mono ?_
      rintro e w1 ⟨po, pc, qo, qc, rfl, m1, m2, bc⟩
      exact hK _ _ ⟨putT v 5 (.tuple #[.agg #[.bool rn, .slice po (nl rN) pc, .slice qo (nl rD) qc], .int .i64 er]), (by simp [putT, e4]), hS.step hL hi rfl (by decide) (bc) (Lz.toGn F5 (⟨_, _, _, _, rfl, m1, m2⟩))⟩
    · have hns := hS.open hL hi rfl
      have hB := hS.a hns
      obtain ⟨ao_t, ac_t, bo_t, bc_t, e5, u5, t5⟩ := Lz.ofGn (hS.f hns 5 rfl (ready_dep hi 5 (by kernel_rfl))) F5
      refine wpOpT_of (fun K hK => ?_)
      unfold wpOp
      simp only [e5]
      go_simp
      refine Or.inl ?_
      exact hK _ _ ⟨putT v 6 (.agg #[.bool rn, .slice ao_t (nl rN) ac_t, .slice bo_t (nl rD) bc_t]), (by simp [putT, e5]), hS.step hL hi rfl (by decide) (Below.refl _ _) (Lz.toGn F6 (⟨_, _, _, _, rfl, u5, t5⟩))⟩
    · have hns := hS.open hL hi rfl
      have hB := hS.a hns
      obtain ⟨ao_t, ac_t, bo_t, bc_t, e5, u5, t5⟩ := Lz.ofGn (hS.f hns 5 rfl (ready_dep hi 5 (by kernel_rfl))) F5
      refine wpOpT_of (fun K hK => ?_)
      unfold wpOp
      simp only [e5]
      go_simp
      refine Or.inl ?_
      exact hK _ _ ⟨putT v 7 (.int .i64 er), (by simp [putT, e5]), hS.step hL hi rfl (by decide) (Below.refl _ _) (Lz.toIs F7)⟩
    · have hns := fun q => offT_not (by rw [hL]; exact (mem_ready hi).1) (mem_ready hi).2.1 q
      have hB := hS.a hns
      obtain ⟨ao_r, ac_r, bo_r, bc_r, e6, u6, t6⟩ := Lz.ofGn (hS.f hns 6 rfl (ready_dep hi 6 (by kernel_rfl))) F6
      have OB9 := OB4.below hB
      obtain ⟨p0, p1, p2, s0, s1, s2, _, _⟩ := id OB9
      have hb9 := hb4.trans (hB.mono hb4.size)
      refine wpOpT_of (fun K hK => ?_)
      unfold wpOp
      simp only [e6]
      go_simp
      refine Or.inl ?_
      exact hK _ _ ⟨putT v 8 undef, (by simp [putT, e6]), hS.last hL hi (by kernel_rfl) (⟨_, _, _, _, OB9.fill _ _ _, u6.threeB OB9 _ _ _, t6.threeB OB9 _ _ _, below_three hb9 (by omega) _ _ _⟩)⟩
    · have e7 := Lz.ofFree (hS.k 7 (by decide) (ready_dep hi 7 (by kernel_rfl))) F7
      refine wpOpT_of (fun K hK => ?_)
      unfold wpOp
      simp only [e7]
      go_simp
      refine Or.inl ?_
      exact hK _ _ ⟨putT v 9 (.int .i64 er), (by simp [putT, e7]), hS.late hL hi rfl (by decide) (Lz.toFree F9)⟩
  · intro L v w' hL hS hr
    have on := all_done hL hr (by kernel_rfl)
    obtain ⟨ro, rc, so, sc, G, G1, G2, hb8⟩ := hS.z (on 8 (by decide))
    have e9 := Lz.ofFree (hS.k 9 (by decide) (on 9 (by decide))) F9
    try dsimp only
    rw [e9]
    clear hS on hr
    obtain ⟨z0, z1, z2, _, _, _, _, _⟩ := id G
    go_wp2
    exact bodyPost_ret (v := .tuple #[.agg #[.bool rn, .slice ro (nl rN) rc, .slice so (nl rD) sc], .int .i64 er]) (by simp [results, Tryz.results21, go_sem, z0, z1, z2]) rfl ⟨ro, rc, so, sc, rfl, G1, G2, hb8⟩
set_option maxRecDepth 100000 in
set_option maxHeartbeats 4000000 in
theorem dsubw7_any (n1 n2 : Bool) (xs ys us vs : List Nat) (ao1 bo1 ao2 bo2 : Option Addr) (ac1 bc1 ac2 bc2 : Nat) (w : World) (a1 : NS w ao1 ac1 xs) (b1 : NS w bo1 bc1 ys) (a2 : NS w ao2 ac2 us) (b2 : NS w bo2 bc2 vs) (hL1 : Lm xs) (hM1 : Lm ys) (_hL2 : Lm us) (_hM2 : Lm vs) (l1 : xs.length ≤ 300) (l2 : ys.length ≤ 300) (_l3 : us.length ≤ 300) (_l4 : vs.length ≤ 300) (hR : rtB n1 xs ys = false) :
    Calls Tryz.prog 23 #[.agg #[.bool n1, .slice ao1 xs.length ac1, .slice bo1 ys.length bc1], .agg #[.bool n2, .slice ao2 us.length ac2, .slice bo2 vs.length bc2]] w (GaveV w false 0 0 2) := by
  have hs1 : (w.alloc (.cells #[.bool n1, .slice ao1 xs.length ac1, .slice bo1 ys.length bc1] 24)).heap.size = w.heap.size + 1 := by simp
  have hs2 : ((w.alloc (.cells #[.bool n1, .slice ao1 xs.length ac1, .slice bo1 ys.length bc1] 24)).alloc (.cells #[.bool n2, .slice ao2 us.length ac2, .slice bo2 vs.length bc2] 24)).heap.size = w.heap.size + 1 + 1 := by simp
  have XB := ((B3q.new w (.bool n1) (.slice ao1 xs.length ac1) (.slice bo1 ys.length bc1) 24).alloc (.cells #[.bool n2, .slice ao2 us.length ac2, .slice bo2 vs.length bc2] 24)).alloc (.cells #[.bool false, .slice none 0 0, .slice none 0 0] 24)
  have YB := (B3q.new (w.alloc (.cells #[.bool n1, .slice ao1 xs.length ac1, .slice bo1 ys.length bc1] 24)) (.bool n2) (.slice ao2 us.length ac2) (.slice bo2 vs.length bc2) 24).alloc (.cells #[.bool false, .slice none 0 0, .slice none 0 0] 24)
  rw [hs1] at YB
  have OB := B3q.new ((w.alloc (.cells #[.bool n1, .slice ao1 xs.length ac1, .slice bo1 ys.length bc1] 24)).alloc (.cells #[.bool n2, .slice ao2 us.length ac2, .slice bo2 vs.length bc2] 24)) (.bool false) (.slice none 0 0) (.slice none 0 0) 24
  rw [hs2] at OB
  have hb0 : Below w.heap.size w (((w.alloc (.cells #[.bool n1, .slice ao1 xs.length ac1, .slice bo1 ys.length bc1] 24)).alloc (.cells #[.bool n2, .slice ao2 us.length ac2, .slice bo2 vs.length bc2] 24)).alloc (.cells #[.bool false, .slice none 0 0, .slice none 0 0] 24)) := (((Below.refl w.heap.size w).alloc (Nat.le_refl _) _).alloc (by rw [hs1]; omega) _).alloc (by rw [hs2]; omega) _
  have A1 := a1.below hb0
  have B1 := b1.below hb0
  have A2 := a2.below hb0
  have B2 := b2.below hb0
  have r1 := dright7_any n1 xs ys ao1 bo1 ac1 bc1 _ A1 B1 hL1 hM1 (by omega) (by omega)
  rw [hR] at r1
  clear hR hs1 hs2 a1 b1 a2 b2
  go_enter Tryz.func23, Tryz.ntmps23
  go_upto_region 1 with fail
  generalize ((w.alloc (.cells #[.bool n1, .slice ao1 xs.length ac1, .slice bo1 ys.length bc1] 24)).alloc (.cells #[.bool n2, .slice ao2 us.length ac2, .slice bo2 vs.length bc2] 24)).alloc (.cells #[.bool false, .slice none 0 0, .slice none 0 0] 24) = W0 at *
  obtain ⟨x0, x1, x2, _, _, _, _, xlt⟩ := id XB
  go_wp2_with (go_at_call_of 12 (Value.agg #[Value.bool n1, Value.slice ao1 xs.length ac1, Value.slice bo1 ys.length bc1]); refine r1.mono ?_; rintro e w3 ⟨rfl, b3⟩; have hb3 := hb0.trans (b3.mono hb0.size); have XB3 := XB.below b3; have YB3 := YB.below b3; have A13 := A1.below b3; have B13 := B1.below b3; have A23 := A2.below b3; have B23 := B2.below b3; have OB3 := OB.below b3; obtain ⟨yy0, yy1, yy2, _, _, _, _, _⟩ := id YB3; obtain ⟨p0, p1, p2, s0, s1, s2, _, _⟩ := id OB3)
  exact bodyPost_ret (v := .tuple #[.agg #[.bool false, .slice none 0 0, .slice none 0 0], .int .i64 2]) (by simp [results, Tryz.results23, go_sem, p0, p1, p2]) rfl ⟨none, 0, none, 0, rfl, lsnil _, lsnil _, below_three hb3 (by omega) _ _ _⟩
set_option maxRecDepth 100000 in
set_option maxHeartbeats 4000000 in
theorem dsubx7_any (n1 n2 : Bool) (xs ys us vs : List Nat) (ao1 bo1 ao2 bo2 : Option Addr) (ac1 bc1 ac2 bc2 : Nat) (w : World) (a1 : NS w ao1 ac1 xs) (b1 : NS w bo1 bc1 ys) (a2 : NS w ao2 ac2 us) (b2 : NS w bo2 bc2 vs) (hL1 : Lm xs) (hM1 : Lm ys) (hL2 : Lm us) (hM2 : Lm vs) (l1 : xs.length ≤ 300) (l2 : ys.length ≤ 300) (l3 : us.length ≤ 300) (l4 : vs.length ≤ 300) (hR : rtB n1 xs ys = true) (hQ : rtB n2 us vs = false) :
    Calls Tryz.prog 23 #[.agg #[.bool n1, .slice ao1 xs.length ac1, .slice bo1 ys.length bc1], .agg #[.bool n2, .slice ao2 us.length ac2, .slice bo2 vs.length bc2]] w (GaveV w false 0 0 2) := by
  have hs1 : (w.alloc (.cells #[.bool n1, .slice ao1 xs.length ac1, .slice bo1 ys.length bc1] 24)).heap.size = w.heap.size + 1 := by simp
  have hs2 : ((w.alloc (.cells #[.bool n1, .slice ao1 xs.length ac1, .slice bo1 ys.length bc1] 24)).alloc (.cells #[.bool n2, .slice ao2 us.length ac2, .slice bo2 vs.length bc2] 24)).heap.size = w.heap.size + 1 + 1 := by simp
  have XB := ((B3q.new w (.bool n1) (.slice ao1 xs.length ac1) (.slice bo1 ys.length bc1) 24).alloc (.cells #[.bool n2, .slice ao2 us.length ac2, .slice bo2 vs.length bc2] 24)).alloc (.cells #[.bool false, .slice none 0 0, .slice none 0 0] 24)
  have YB := (B3q.new (w.alloc (.cells #[.bool n1, .slice ao1 xs.length ac1, .slice bo1 ys.length bc1] 24)) (.bool n2) (.slice ao2 us.length ac2) (.slice bo2 vs.length bc2) 24).alloc (.cells #[.bool false, .slice none 0 0, .slice none 0 0] 24)
  rw [hs1] at YB
  have OB := B3q.new ((w.alloc (.cells #[.bool n1, .slice ao1 xs.length ac1, .slice bo1 ys.length bc1] 24)).alloc (.cells #[.bool n2, .slice ao2 us.length ac2, .slice bo2 vs.length bc2] 24)) (.bool false) (.slice none 0 0) (.slice none 0 0) 24
  rw [hs2] at OB
  have hb0 : Below w.heap.size w (((w.alloc (.cells #[.bool n1, .slice ao1 xs.length ac1, .slice bo1 ys.length bc1] 24)).alloc (.cells #[.bool n2, .slice ao2 us.length ac2, .slice bo2 vs.length bc2] 24)).alloc (.cells #[.bool false, .slice none 0 0, .slice none 0 0] 24)) := (((Below.refl w.heap.size w).alloc (Nat.le_refl _) _).alloc (by rw [hs1]; omega) _).alloc (by rw [hs2]; omega) _
  have A1 := a1.below hb0
  have B1 := b1.below hb0
  have A2 := a2.below hb0
  have B2 := b2.below hb0
  have r1 := dright7_any n1 xs ys ao1 bo1 ac1 bc1 _ A1 B1 hL1 hM1 (by omega) (by omega)
  rw [hR] at r1
  have r2 := fun W (a : NS W ao2 ac2 us) (b : NS W bo2 bc2 vs) => dright7_any n2 us vs ao2 bo2 ac2 bc2 W a b hL2 hM2 (by omega) (by omega)
  simp only [hQ] at r2
  clear hR hQ hs1 hs2 a1 b1 a2 b2
  go_enter Tryz.func23, Tryz.ntmps23
  go_upto_region 1 with fail
  generalize ((w.alloc (.cells #[.bool n1, .slice ao1 xs.length ac1, .slice bo1 ys.length bc1] 24)).alloc (.cells #[.bool n2, .slice ao2 us.length ac2, .slice bo2 vs.length bc2] 24)).alloc (.cells #[.bool false, .slice none 0 0, .slice none 0 0] 24) = W0 at *
  obtain ⟨x0, x1, x2, _, _, _, _, xlt⟩ := id XB
  obtain ⟨y0, y1, y2, _, _, _, _, ylt⟩ := id YB
  go_wp2_with (first
    | (go_at_call_of 12 (Value.agg #[Value.bool n1, Value.slice ao1 xs.length ac1, Value.slice bo1 ys.length bc1]); refine r1.mono ?_; rintro e w3 ⟨rfl, b3⟩; have hb3 := hb0.trans (b3.mono hb0.size); have XB3 := XB.below b3; have YB3 := YB.below b3; have A13 := A1.below b3; have B13 := B1.below b3; have A23 := A2.below b3; have B23 := B2.below b3; have OB3 := OB.below b3; obtain ⟨yy0, yy1, yy2, _, _, _, _, _⟩ := id YB3)
    | (go_at_call_of 12 (Value.agg #[Value.bool n2, Value.slice ao2 us.length ac2, Value.slice bo2 vs.length bc2]); refine (r2 _ A23 B23).mono ?_; rintro e w4 ⟨rfl, b4⟩; have hb4 := hb3.trans (b4.mono hb3.size); have XB4 := XB3.below b4; have YB4 := YB3.below b4; have A14 := A13.below b4; have B14 := B13.below b4; have A24 := A23.below b4; have B24 := B23.below b4; have OB4 := OB3.below b4; obtain ⟨xx0, xx1, xx2, _, _, _, _, _⟩ := id XB4; obtain ⟨zz0, zz1, zz2, _, _, _, _, _⟩ := id YB4; obtain ⟨p0, p1, p2, s0, s1, s2, _, _⟩ := id OB4))
  exact bodyPost_ret (v := .tuple #[.agg #[.bool false, .slice none 0 0, .slice none 0 0], .int .i64 2]) (by simp [results, Tryz.results23, go_sem, p0, p1, p2]) rfl ⟨none, 0, none, 0, rfl, lsnil _, lsnil _, below_three hb4 (by omega) _ _ _⟩
set_option maxRecDepth 100000 in
set_option maxHeartbeats 4000000 in
theorem dsuby7_any (n1 n2 : Bool) (xs ys us vs : List Nat) (ao1 bo1 ao2 bo2 : Option Addr) (ac1 bc1 ac2 bc2 : Nat) (w : World) (a1 : NS w ao1 ac1 xs) (b1 : NS w bo1 bc1 ys) (a2 : NS w ao2 ac2 us) (b2 : NS w bo2 bc2 vs) (hL1 : Lm xs) (hM1 : Lm ys) (hL2 : Lm us) (hM2 : Lm vs) (l1 : xs.length ≤ 300) (l2 : ys.length ≤ 300) (l3 : us.length ≤ 300) (l4 : vs.length ≤ 300) (hR : rtB n1 xs ys = true) (hQ : rtB n2 us vs = true) {rn : Bool} {rN rD : Nat} {er : Int} (ht : toT (nmA (smQ n1 (!n2) (vl xs * vl vs) (vl us * vl ys)).1 (smQ n1 (!n2) (vl xs * vl vs) (vl us * vl ys)).2 (vl ys * vl vs)) = ((rn, rN, rD), er)) :
    Calls Tryz.prog 23 #[.agg #[.bool n1, .slice ao1 xs.length ac1, .slice bo1 ys.length bc1], .agg #[.bool n2, .slice ao2 us.length ac2, .slice bo2 vs.length bc2]] w (GaveV w rn rN rD er) := by
  have hs1 : (w.alloc (.cells #[.bool n1, .slice ao1 xs.length ac1, .slice bo1 ys.length bc1] 24)).heap.size = w.heap.size + 1 := by simp
  have hs2 : ((w.alloc (.cells #[.bool n1, .slice ao1 xs.length ac1, .slice bo1 ys.length bc1] 24)).alloc (.cells #[.bool n2, .slice ao2 us.length ac2, .slice bo2 vs.length bc2] 24)).heap.size = w.heap.size + 1 + 1 := by simp
  have XB := ((B3q.new w (.bool n1) (.slice ao1 xs.length ac1) (.slice bo1 ys.length bc1) 24).alloc (.cells #[.bool n2, .slice ao2 us.length ac2, .slice bo2 vs.length bc2] 24)).alloc (.cells #[.bool false, .slice none 0 0, .slice none 0 0] 24)
  have YB := (B3q.new (w.alloc (.cells #[.bool n1, .slice ao1 xs.length ac1, .slice bo1 ys.length bc1] 24)) (.bool n2) (.slice ao2 us.length ac2) (.slice bo2 vs.length bc2) 24).alloc (.cells #[.bool false, .slice none 0 0, .slice none 0 0] 24)
  rw [hs1] at YB
  have OB := B3q.new ((w.alloc (.cells #[.bool n1, .slice ao1 xs.length ac1, .slice bo1 ys.length bc1] 24)).alloc (.cells #[.bool n2, .slice ao2 us.length ac2, .slice bo2 vs.length bc2] 24)) (.bool false) (.slice none 0 0) (.slice none 0 0) 24
  rw [hs2] at OB
  have hb0 : Below w.heap.size w (((w.alloc (.cells #[.bool n1, .slice ao1 xs.length ac1, .slice bo1 ys.length bc1] 24)).alloc (.cells #[.bool n2, .slice ao2 us.length ac2, .slice bo2 vs.length bc2] 24)).alloc (.cells #[.bool false, .slice none 0 0, .slice none 0 0] 24)) := (((Below.refl w.heap.size w).alloc (Nat.le_refl _) _).alloc (by rw [hs1]; omega) _).alloc (by rw [hs2]; omega) _
  have A1 := a1.below hb0
  have B1 := b1.below hb0
  have A2 := a2.below hb0
  have B2 := b2.below hb0
  have r1 := dright7_any n1 xs ys ao1 bo1 ac1 bc1 _ A1 B1 hL1 hM1 (by omega) (by omega)
  rw [hR] at r1
  have r2 := fun W (a : NS W ao2 ac2 us) (b : NS W bo2 bc2 vs) => dright7_any n2 us vs ao2 bo2 ac2 bc2 W a b hL2 hM2 (by omega) (by omega)
  simp only [hQ] at r2
  have R1 := (rt_right hL1 hM1 hR).2.2
  have R2 := (rt_right hL2 hM2 hQ).2.2
  have m1 : (lo (vl xs)).length ≤ 256 := by rw [lo_length]; exact R1.n
  have m2 : (lo (vl ys)).length ≤ 256 := by rw [lo_length]; exact R1.d
  have m3 : (lo (vl us)).length ≤ 256 := by rw [lo_length]; exact R2.n
  have m4 : (lo (vl vs)).length ≤ 256 := by rw [lo_length]; exact R2.d
  have v1 := fun W a b => value7_any n1 xs ys ao1 bo1 ac1 bc1 W a b hL1 hM1 (by omega) (by omega)
  have v2 := fun W a b => value7_any n2 us vs ao2 bo2 ac2 bc2 W a b hL2 hM2 (by omega) (by omega)
  have z1 := R1.d0
  have z3 := R2.d0
  clear R1 R2
  obtain ⟨N1, eN1⟩ : ∃ q, vl xs = q := ⟨_, rfl⟩
  obtain ⟨D1, eD1⟩ : ∃ q, vl ys = q := ⟨_, rfl⟩
  obtain ⟨N2, eN2⟩ : ∃ q, vl us = q := ⟨_, rfl⟩
  obtain ⟨D2, eD2⟩ : ∃ q, vl vs = q := ⟨_, rfl⟩
  rw [eN1, eD1] at v1
  rw [eN2, eD2] at v2
  rw [eN1] at m1
  rw [eD1] at m2 z1
  rw [eN2] at m3
  rw [eD2] at m4 z3
  rw [eN1, eD1, eN2, eD2] at ht
  clear eN1 eD1 eN2 eD2
  have cm := fun W po pc qo qc a b => minus7_any n2 N2 D2 po qo pc qc W a b
  have cp := fun W po1 pc1 qo1 qc1 po2 pc2 qo2 qc2 a b c d => plus7_any n1 (!n2) N1 D1 N2 D2 po1 qo1 po2 qo2 pc1 qc1 pc2 qc2 W a b c d (by omega) (by omega) (by omega) (by omega)
  have lS : (lo (smQ n1 (!n2) (N1 * D2) (N2 * D1)).2).length ≤ 1099511627776 := sm_len (by omega) (by omega) (by omega) (by omega)
  have lP : (lo (D1 * D2)).length ≤ 1099511627776 := Nat.le_trans lo_mul_len (by omega)
  obtain ⟨sn, sz, hq⟩ : ∃ a b, smQ n1 (!n2) (N1 * D2) (N2 * D1) = (a, b) := ⟨_, _, rfl⟩
  rw [hq] at cp lS ht
  simp only at cp lS ht
  clear hq
  have zP : D1 * D2 ≠ 0 := Nat.mul_ne_zero z1 z3
  generalize D1 * D2 = PD at *
  have ct := fun W po pc qo qc a b => told7V (n := sn) ht zP lS lP po qo pc qc W a b
  clear ht zP lS lP m1 m2 m3 m4
  clear z1 z3
  clear hR hQ hs1 hs2 a1 b1 a2 b2
  go_enter Tryz.func23, Tryz.ntmps23
  go_upto_region 1 with fail
  generalize ((w.alloc (.cells #[.bool n1, .slice ao1 xs.length ac1, .slice bo1 ys.length bc1] 24)).alloc (.cells #[.bool n2, .slice ao2 us.length ac2, .slice bo2 vs.length bc2] 24)).alloc (.cells #[.bool false, .slice none 0 0, .slice none 0 0] 24) = W0 at *
  obtain ⟨x0, x1, x2, _, _, _, _, xlt⟩ := id XB
  obtain ⟨y0, y1, y2, _, _, _, _, ylt⟩ := id YB
  go_upto_region 3 with (first
    | (go_at_call_of 12 (Value.agg #[Value.bool n1, Value.slice ao1 xs.length ac1, Value.slice bo1 ys.length bc1]); refine r1.mono ?_; rintro e w3 ⟨rfl, b3⟩; have hb3 := hb0.trans (b3.mono hb0.size); have XB3 := XB.below b3; have YB3 := YB.below b3; have A13 := A1.below b3; have B13 := B1.below b3; have A23 := A2.below b3; have B23 := B2.below b3; have OB3 := OB.below b3; obtain ⟨yy0, yy1, yy2, _, _, _, _, _⟩ := id YB3)
    | (go_at_call_of 12 (Value.agg #[Value.bool n2, Value.slice ao2 us.length ac2, Value.slice bo2 vs.length bc2]); refine (r2 _ A23 B23).mono ?_; rintro e w4 ⟨rfl, b4⟩; have hb4 := hb3.trans (b4.mono hb3.size); have XB4 := XB3.below b4; have YB4 := YB3.below b4; have A14 := A13.below b4; have B14 := B13.below b4; have A24 := A23.below b4; have B24 := B23.below b4; have OB4 := OB3.below b4; obtain ⟨xx0, xx1, xx2, _, _, _, _, _⟩ := id XB4; obtain ⟨zz0, zz1, zz2, _, _, _, _, _⟩ := id YB4))
  clear x0 x1 x2 xlt y0 y1 y2 ylt XB YB XB3 YB3 A1 B1 A2 B2 A13 B13 A23 B23 r1 r2 hb0 hb3 b3 b4 OB OB3
  obtain ⟨x0, x1, x2, _, _, _, _, xlt⟩ := id XB4
  obtain ⟨y0, y1, y2, _, _, _, _, ylt⟩ := id YB4
  obtain ⟨FL, hFL⟩ : ∃ f : Nat → Lz, f = (fun j => match j with | 0 => .is (.agg #[.bool n1, .slice ao1 xs.length ac1, .slice bo1 ys.length bc1]) | 1 => .gn (FrP (n1) N1 D1) (fun _ _ _ h hb => h.below hb) | 2 => .is (.agg #[.bool n2, .slice ao2 us.length ac2, .slice bo2 vs.length bc2]) | 3 => .gn (FrP (n2) N2 D2) (fun _ _ _ h hb => h.below hb) | 4 => .gn (FrP (!n2) N2 D2) (fun _ _ _ h hb => h.below hb) | 5 => .gn (FrP (sn) sz PD) (fun _ _ _ h hb => h.below hb) | 6 => .gn (RtP rn rN rD er) (fun _ _ _ h hb => h.below hb) | 7 => .gn (RaP rn rN rD) (fun _ _ _ h hb => h.below hb) | 8 => .is (.int .i64 er) | 9 => .tr | 10 => .is (.int .i64 er) | _ => .tr) := ⟨_, rfl⟩
  have F0 := congrFun hFL 0
  have F1 := congrFun hFL 1
  have F2 := congrFun hFL 2
  have F3 := congrFun hFL 3
  have F4 := congrFun hFL 4
  have F5 := congrFun hFL 5
  have F6 := congrFun hFL 6
  have F7 := congrFun hFL 7
  have F8 := congrFun hFL 8
  have F9 := congrFun hFL 9
  have F10 := congrFun hFL 10
  simp only at F0 F1 F2 F3 F4 F5 F6 F7 F8 F9 F10
  clear hFL
  refine region_rgU (by kernel_rfl) (fun v => ⟨#[Value.agg #[Value.bool n1, Value.slice ao1 xs.length ac1, Value.slice bo1 ys.length bc1], Value.agg #[Value.bool n2, Value.slice ao2 us.length ac2, Value.slice bo2 vs.length bc2], Value.pointer (some { block := w.heap.size, off := 0 }), Value.pointer (some { block := w.heap.size + 1, off := 0 }), Value.pointer (some { block := w.heap.size + 1 + 1, off := 0 }), v 10, Value.agg #[Value.bool n1, Value.slice ao1 xs.length ac1, Value.slice bo1 ys.length bc1], Value.bool true, Value.bool false, Value.bool false, Value.agg #[Value.bool n2, Value.slice ao2 us.length ac2, Value.slice bo2 vs.length bc2], Value.bool true, Value.bool false, Value.bool false, undef, v 0, v 1, v 2, v 3, v 4, v 5, v 6, v 7, v 8], []⟩) 9 (fun j => decide (j ≠ 9 ∧ j ≠ 10)) FL (fun a => ∃ ro rc so sc, B3q a (w.heap.size + 1 + 1) (.bool rn) (.slice ro (nl rN) rc) (.slice so (nl rD) sc) ∧ LS a ro rc (lo rN) ∧ LS a so sc (lo rD) ∧ Below w.heap.size w a) (fun j => match j with | 10 => Value.int IntKind.i64 0 | _ => undef) rfl ?_ ?_
  · intro L v w' i hL hS hi
    obtain ⟨h1, h2, h3⟩ := mem_ready hi
    have h1 : i < 11 := h1
    try dsimp only
    have hcs : i = 0 ∨ i = 1 ∨ i = 2 ∨ i = 3 ∨ i = 4 ∨ i = 5 ∨ i = 6 ∨ i = 7 ∨ i = 8 ∨ i = 9 ∨ i = 10 := by omega
    clear h1 h2 h3
    rcases hcs with rfl | rfl | rfl | rfl | rfl | rfl | rfl | rfl | rfl | rfl | rfl
    · have hns := hS.open hL hi rfl
      have hB := hS.a hns
      have rx0 : w'.cell? ⟨w.heap.size, 0, none⟩ = some _ := (hB.cell (p := ⟨w.heap.size, 0, none⟩) xlt).trans x0
      have rx1 : w'.cell? ⟨w.heap.size, 1, none⟩ = some _ := (hB.cell (p := ⟨w.heap.size, 1, none⟩) xlt).trans x1
      have rx2 : w'.cell? ⟨w.heap.size, 2, none⟩ = some _ := (hB.cell (p := ⟨w.heap.size, 2, none⟩) xlt).trans x2
      refine wpOpT_of (fun K hK => ?_)
      unfold wpOp
      go_simp
      refine Or.inl ?_
      exact hK _ _ ⟨putT v 0 (.agg #[.bool n1, .slice ao1 xs.length ac1, .slice bo1 ys.length bc1]), (by simp [putT]), hS.step hL hi rfl (by decide) (Below.refl _ _) (Lz.toIs F0)⟩
    · have hns := hS.open hL hi rfl
      have hB := hS.a hns
      have e0 := Lz.ofIs (hS.f hns 0 rfl (ready_dep hi 0 (by kernel_rfl))) F0
      refine wpOpT_of (fun K hK => ?_)
      unfold wpOp
      simp only [e0]
      go_simp
      refine Or.inl ?_
      go_at_call 43
      refine (v1 _ (A14.below hB) (B14.below hB)).mono ?_
      rintro e w1 ⟨po, pc, qo, qc, rfl, m1, m2, bc⟩
      exact hK _ _ ⟨putT v 1 (.agg #[.bool (n1), .slice po (lo N1).length pc, .slice qo (lo D1).length qc]), (by simp [putT, e0]), hS.step hL hi rfl (by decide) (bc) (Lz.toGn F1 (⟨_, _, _, _, rfl, m1, m2⟩))⟩
    · have hns := hS.open hL hi rfl
      have hB := hS.a hns
      have ry0 : w'.cell? ⟨(w.heap.size + 1), 0, none⟩ = some _ := (hB.cell (p := ⟨(w.heap.size + 1), 0, none⟩) ylt).trans y0
      have ry1 : w'.cell? ⟨(w.heap.size + 1), 1, none⟩ = some _ := (hB.cell (p := ⟨(w.heap.size + 1), 1, none⟩) ylt).trans y1
      have ry2 : w'.cell? ⟨(w.heap.size + 1), 2, none⟩ = some _ := (hB.cell (p := ⟨(w.heap.size + 1), 2, none⟩) ylt).trans y2
      refine wpOpT_of (fun K hK => ?_)
      unfold wpOp
      go_simp
      refine Or.inl ?_
      exact hK _ _ ⟨putT v 2 (.agg #[.bool n2, .slice ao2 us.length ac2, .slice bo2 vs.length bc2]), (by simp [putT]), hS.step hL hi rfl (by decide) (Below.refl _ _) (Lz.toIs F2)⟩
    · have hns := hS.open hL hi rfl
      have hB := hS.a hns
      have e2 := Lz.ofIs (hS.f hns 2 rfl (ready_dep hi 2 (by kernel_rfl))) F2
      refine wpOpT_of (fun K hK => ?_)
      unfold wpOp
      simp only [e2]
      go_simp
      refine Or.inl ?_
      go_at_call 43
      refine (v2 _ (A24.below hB) (B24.below hB)).mono ?_
      rintro e w1 ⟨po, pc, qo, qc, rfl, m1, m2, bc⟩
      exact hK _ _ ⟨putT v 3 (.agg #[.bool (n2), .slice po (lo N2).length pc, .slice qo (lo D2).length qc]), (by simp [putT, e2]), hS.step hL hi rfl (by decide) (bc) (Lz.toGn F3 (⟨_, _, _, _, rfl, m1, m2⟩))⟩
    · have hns := hS.open hL hi rfl
      have hB := hS.a hns
      obtain ⟨ao_3, ac_3, bo_3, bc_3, e3, u3, t3⟩ := Lz.ofGn (hS.f hns 3 rfl (ready_dep hi 3 (by kernel_rfl))) F3
      refine wpOpT_of (fun K hK => ?_)
      unfold wpOp
      simp only [e3]
      go_simp
      refine Or.inl ?_
      go_at_call 62
      refine (cm _ _ _ _ _ u3 t3).mono ?_
      rintro e w1 ⟨po, pc, qo, qc, rfl, m1, m2, bc⟩
      exact hK _ _ ⟨putT v 4 (.agg #[.bool (!n2), .slice po (lo N2).length pc, .slice qo (lo D2).length qc]), (by simp [putT, e3]), hS.step hL hi rfl (by decide) (bc) (Lz.toGn F4 (⟨_, _, _, _, rfl, m1, m2⟩))⟩
    · have hns := hS.open hL hi rfl
      have hB := hS.a hns
      obtain ⟨ao_1, ac_1, bo_1, bc_1, e1, u1, t1⟩ := Lz.ofGn (hS.f hns 1 rfl (ready_dep hi 1 (by kernel_rfl))) F1
      obtain ⟨ao_4, ac_4, bo_4, bc_4, e4, u4, t4⟩ := Lz.ofGn (hS.f hns 4 rfl (ready_dep hi 4 (by kernel_rfl))) F4
      refine wpOpT_of (fun K hK => ?_)
      unfold wpOp
      simp only [e1, e4]
      go_simp
      refine Or.inl ?_
      go_at_call 61
      refine (cp _ _ _ _ _ _ _ _ _ u1 t1 u4 t4).mono ?_
      rintro e w1 ⟨po, pc, qo, qc, rfl, m1, m2, bc⟩
      exact hK _ _ ⟨putT v 5 (.agg #[.bool (sn), .slice po (lo sz).length pc, .slice qo (lo PD).length qc]), (by simp [putT, e1, e4]), hS.step hL hi rfl (by decide) (bc) (Lz.toGn F5 (⟨_, _, _, _, rfl, m1, m2⟩))⟩
    · have hns := hS.open hL hi rfl
      have hB := hS.a hns
      obtain ⟨ao_5, ac_5, bo_5, bc_5, e5, u5, t5⟩ := Lz.ofGn (hS.f hns 5 rfl (ready_dep hi 5 (by kernel_rfl))) F5
      refine wpOpT_of (fun K hK => ?_)
      unfold wpOp
      simp only [e5]
      go_simp
      refine Or.inl ?_
      go_at_call 42
      refine (ct _ _ _ _ _ u5 t5).mono ?_
      rintro e w1 ⟨po, pc, qo, qc, rfl, m1, m2, bc⟩
      exact hK _ _ ⟨putT v 6 (.tuple #[.agg #[.bool rn, .slice po (nl rN) pc, .slice qo (nl rD) qc], .int .i64 er]), (by simp [putT, e5]), hS.step hL hi rfl (by decide) (bc) (Lz.toGn F6 (⟨_, _, _, _, rfl, m1, m2⟩))⟩
    · have hns := hS.open hL hi rfl
      have hB := hS.a hns
      obtain ⟨ao_t, ac_t, bo_t, bc_t, e6, u6, t6⟩ := Lz.ofGn (hS.f hns 6 rfl (ready_dep hi 6 (by kernel_rfl))) F6
      refine wpOpT_of (fun K hK => ?_)
      unfold wpOp
      simp only [e6]
      go_simp
      refine Or.inl ?_
      exact hK _ _ ⟨putT v 7 (.agg #[.bool rn, .slice ao_t (nl rN) ac_t, .slice bo_t (nl rD) bc_t]), (by simp [putT, e6]), hS.step hL hi rfl (by decide) (Below.refl _ _) (Lz.toGn F7 (⟨_, _, _, _, rfl, u6, t6⟩))⟩
    · have hns := hS.open hL hi rfl
      have hB := hS.a hns
      obtain ⟨ao_t, ac_t, bo_t, bc_t, e6, u6, t6⟩ := Lz.ofGn (hS.f hns 6 rfl (ready_dep hi 6 (by kernel_rfl))) F6
      refine wpOpT_of (fun K hK => ?_)
      unfold wpOp
      simp only [e6]
      go_simp
      refine Or.inl ?_
      exact hK _ _ ⟨putT v 8 (.int .i64 er), (by simp [putT, e6]), hS.step hL hi rfl (by decide) (Below.refl _ _) (Lz.toIs F8)⟩
    · have hns := fun q => offT_not (by rw [hL]; exact (mem_ready hi).1) (mem_ready hi).2.1 q
      have hB := hS.a hns
      obtain ⟨ao_r, ac_r, bo_r, bc_r, e7, u7, t7⟩ := Lz.ofGn (hS.f hns 7 rfl (ready_dep hi 7 (by kernel_rfl))) F7
      have OB9 := OB4.below hB
      obtain ⟨p0, p1, p2, s0, s1, s2, _, _⟩ := id OB9
      have hb9 := hb4.trans (hB.mono hb4.size)
      refine wpOpT_of (fun K hK => ?_)
      unfold wpOp
      simp only [e7]
      go_simp
      refine Or.inl ?_
      exact hK _ _ ⟨putT v 9 undef, (by simp [putT, e7]), hS.last hL hi (by kernel_rfl) (⟨_, _, _, _, OB9.fill _ _ _, u7.threeB OB9 _ _ _, t7.threeB OB9 _ _ _, below_three hb9 (by omega) _ _ _⟩)⟩
    · have e8 := Lz.ofFree (hS.k 8 (by decide) (ready_dep hi 8 (by kernel_rfl))) F8
      refine wpOpT_of (fun K hK => ?_)
      unfold wpOp
      simp only [e8]
      go_simp
      refine Or.inl ?_
      exact hK _ _ ⟨putT v 10 (.int .i64 er), (by simp [putT, e8]), hS.late hL hi rfl (by decide) (Lz.toFree F10)⟩
  · intro L v w' hL hS hr
    have on := all_done hL hr (by kernel_rfl)
    obtain ⟨ro, rc, so, sc, G, G1, G2, hb8⟩ := hS.z (on 9 (by decide))
    have e10 := Lz.ofFree (hS.k 10 (by decide) (on 10 (by decide))) F10
    try dsimp only
    rw [e10]
    clear hS on hr
    obtain ⟨z0, z1, z2, _, _, _, _, _⟩ := id G
    go_wp2
    exact bodyPost_ret (v := .tuple #[.agg #[.bool rn, .slice ro (nl rN) rc, .slice so (nl rD) sc], .int .i64 er]) (by simp [results, Tryz.results23, go_sem, z0, z1, z2]) rfl ⟨ro, rc, so, sc, rfl, G1, G2, hb8⟩
set_option maxRecDepth 100000 in
set_option maxHeartbeats 4000000 in
theorem dmulw7_any (n1 n2 : Bool) (xs ys us vs : List Nat) (ao1 bo1 ao2 bo2 : Option Addr) (ac1 bc1 ac2 bc2 : Nat) (w : World) (a1 : NS w ao1 ac1 xs) (b1 : NS w bo1 bc1 ys) (a2 : NS w ao2 ac2 us) (b2 : NS w bo2 bc2 vs) (hL1 : Lm xs) (hM1 : Lm ys) (_hL2 : Lm us) (_hM2 : Lm vs) (l1 : xs.length ≤ 300) (l2 : ys.length ≤ 300) (_l3 : us.length ≤ 300) (_l4 : vs.length ≤ 300) (hR : rtB n1 xs ys = false) :
    Calls Tryz.prog 25 #[.agg #[.bool n1, .slice ao1 xs.length ac1, .slice bo1 ys.length bc1], .agg #[.bool n2, .slice ao2 us.length ac2, .slice bo2 vs.length bc2]] w (GaveV w false 0 0 2) := by
  have hs1 : (w.alloc (.cells #[.bool n1, .slice ao1 xs.length ac1, .slice bo1 ys.length bc1] 24)).heap.size = w.heap.size + 1 := by simp
  have hs2 : ((w.alloc (.cells #[.bool n1, .slice ao1 xs.length ac1, .slice bo1 ys.length bc1] 24)).alloc (.cells #[.bool n2, .slice ao2 us.length ac2, .slice bo2 vs.length bc2] 24)).heap.size = w.heap.size + 1 + 1 := by simp
  have XB := ((B3q.new w (.bool n1) (.slice ao1 xs.length ac1) (.slice bo1 ys.length bc1) 24).alloc (.cells #[.bool n2, .slice ao2 us.length ac2, .slice bo2 vs.length bc2] 24)).alloc (.cells #[.bool false, .slice none 0 0, .slice none 0 0] 24)
  have YB := (B3q.new (w.alloc (.cells #[.bool n1, .slice ao1 xs.length ac1, .slice bo1 ys.length bc1] 24)) (.bool n2) (.slice ao2 us.length ac2) (.slice bo2 vs.length bc2) 24).alloc (.cells #[.bool false, .slice none 0 0, .slice none 0 0] 24)
  rw [hs1] at YB
  have OB := B3q.new ((w.alloc (.cells #[.bool n1, .slice ao1 xs.length ac1, .slice bo1 ys.length bc1] 24)).alloc (.cells #[.bool n2, .slice ao2 us.length ac2, .slice bo2 vs.length bc2] 24)) (.bool false) (.slice none 0 0) (.slice none 0 0) 24
  rw [hs2] at OB
  have hb0 : Below w.heap.size w (((w.alloc (.cells #[.bool n1, .slice ao1 xs.length ac1, .slice bo1 ys.length bc1] 24)).alloc (.cells #[.bool n2, .slice ao2 us.length ac2, .slice bo2 vs.length bc2] 24)).alloc (.cells #[.bool false, .slice none 0 0, .slice none 0 0] 24)) := (((Below.refl w.heap.size w).alloc (Nat.le_refl _) _).alloc (by rw [hs1]; omega) _).alloc (by rw [hs2]; omega) _
  have A1 := a1.below hb0
  have B1 := b1.below hb0
  have A2 := a2.below hb0
  have B2 := b2.below hb0
  have r1 := dright7_any n1 xs ys ao1 bo1 ac1 bc1 _ A1 B1 hL1 hM1 (by omega) (by omega)
  rw [hR] at r1
  clear hR hs1 hs2 a1 b1 a2 b2
  go_enter Tryz.func25, Tryz.ntmps25
  go_upto_region 1 with fail
  generalize ((w.alloc (.cells #[.bool n1, .slice ao1 xs.length ac1, .slice bo1 ys.length bc1] 24)).alloc (.cells #[.bool n2, .slice ao2 us.length ac2, .slice bo2 vs.length bc2] 24)).alloc (.cells #[.bool false, .slice none 0 0, .slice none 0 0] 24) = W0 at *
  obtain ⟨x0, x1, x2, _, _, _, _, xlt⟩ := id XB
  go_wp2_with (go_at_call_of 12 (Value.agg #[Value.bool n1, Value.slice ao1 xs.length ac1, Value.slice bo1 ys.length bc1]); refine r1.mono ?_; rintro e w3 ⟨rfl, b3⟩; have hb3 := hb0.trans (b3.mono hb0.size); have XB3 := XB.below b3; have YB3 := YB.below b3; have A13 := A1.below b3; have B13 := B1.below b3; have A23 := A2.below b3; have B23 := B2.below b3; have OB3 := OB.below b3; obtain ⟨yy0, yy1, yy2, _, _, _, _, _⟩ := id YB3; obtain ⟨p0, p1, p2, s0, s1, s2, _, _⟩ := id OB3)
  exact bodyPost_ret (v := .tuple #[.agg #[.bool false, .slice none 0 0, .slice none 0 0], .int .i64 2]) (by simp [results, Tryz.results25, go_sem, p0, p1, p2]) rfl ⟨none, 0, none, 0, rfl, lsnil _, lsnil _, below_three hb3 (by omega) _ _ _⟩
set_option maxRecDepth 100000 in
set_option maxHeartbeats 4000000 in
theorem dmulx7_any (n1 n2 : Bool) (xs ys us vs : List Nat) (ao1 bo1 ao2 bo2 : Option Addr) (ac1 bc1 ac2 bc2 : Nat) (w : World) (a1 : NS w ao1 ac1 xs) (b1 : NS w bo1 bc1 ys) (a2 : NS w ao2 ac2 us) (b2 : NS w bo2 bc2 vs) (hL1 : Lm xs) (hM1 : Lm ys) (hL2 : Lm us) (hM2 : Lm vs) (l1 : xs.length ≤ 300) (l2 : ys.length ≤ 300) (l3 : us.length ≤ 300) (l4 : vs.length ≤ 300) (hR : rtB n1 xs ys = true) (hQ : rtB n2 us vs = false) :
    Calls Tryz.prog 25 #[.agg #[.bool n1, .slice ao1 xs.length ac1, .slice bo1 ys.length bc1], .agg #[.bool n2, .slice ao2 us.length ac2, .slice bo2 vs.length bc2]] w (GaveV w false 0 0 2) := by
  have hs1 : (w.alloc (.cells #[.bool n1, .slice ao1 xs.length ac1, .slice bo1 ys.length bc1] 24)).heap.size = w.heap.size + 1 := by simp
  have hs2 : ((w.alloc (.cells #[.bool n1, .slice ao1 xs.length ac1, .slice bo1 ys.length bc1] 24)).alloc (.cells #[.bool n2, .slice ao2 us.length ac2, .slice bo2 vs.length bc2] 24)).heap.size = w.heap.size + 1 + 1 := by simp
  have XB := ((B3q.new w (.bool n1) (.slice ao1 xs.length ac1) (.slice bo1 ys.length bc1) 24).alloc (.cells #[.bool n2, .slice ao2 us.length ac2, .slice bo2 vs.length bc2] 24)).alloc (.cells #[.bool false, .slice none 0 0, .slice none 0 0] 24)
  have YB := (B3q.new (w.alloc (.cells #[.bool n1, .slice ao1 xs.length ac1, .slice bo1 ys.length bc1] 24)) (.bool n2) (.slice ao2 us.length ac2) (.slice bo2 vs.length bc2) 24).alloc (.cells #[.bool false, .slice none 0 0, .slice none 0 0] 24)
  rw [hs1] at YB
  have OB := B3q.new ((w.alloc (.cells #[.bool n1, .slice ao1 xs.length ac1, .slice bo1 ys.length bc1] 24)).alloc (.cells #[.bool n2, .slice ao2 us.length ac2, .slice bo2 vs.length bc2] 24)) (.bool false) (.slice none 0 0) (.slice none 0 0) 24
  rw [hs2] at OB
  have hb0 : Below w.heap.size w (((w.alloc (.cells #[.bool n1, .slice ao1 xs.length ac1, .slice bo1 ys.length bc1] 24)).alloc (.cells #[.bool n2, .slice ao2 us.length ac2, .slice bo2 vs.length bc2] 24)).alloc (.cells #[.bool false, .slice none 0 0, .slice none 0 0] 24)) := (((Below.refl w.heap.size w).alloc (Nat.le_refl _) _).alloc (by rw [hs1]; omega) _).alloc (by rw [hs2]; omega) _
  have A1 := a1.below hb0
  have B1 := b1.below hb0
  have A2 := a2.below hb0
  have B2 := b2.below hb0
  have r1 := dright7_any n1 xs ys ao1 bo1 ac1 bc1 _ A1 B1 hL1 hM1 (by omega) (by omega)
  rw [hR] at r1
  have r2 := fun W (a : NS W ao2 ac2 us) (b : NS W bo2 bc2 vs) => dright7_any n2 us vs ao2 bo2 ac2 bc2 W a b hL2 hM2 (by omega) (by omega)
  simp only [hQ] at r2
  clear hR hQ hs1 hs2 a1 b1 a2 b2
  go_enter Tryz.func25, Tryz.ntmps25
  go_upto_region 1 with fail
  generalize ((w.alloc (.cells #[.bool n1, .slice ao1 xs.length ac1, .slice bo1 ys.length bc1] 24)).alloc (.cells #[.bool n2, .slice ao2 us.length ac2, .slice bo2 vs.length bc2] 24)).alloc (.cells #[.bool false, .slice none 0 0, .slice none 0 0] 24) = W0 at *
  obtain ⟨x0, x1, x2, _, _, _, _, xlt⟩ := id XB
  obtain ⟨y0, y1, y2, _, _, _, _, ylt⟩ := id YB
  go_wp2_with (first
    | (go_at_call_of 12 (Value.agg #[Value.bool n1, Value.slice ao1 xs.length ac1, Value.slice bo1 ys.length bc1]); refine r1.mono ?_; rintro e w3 ⟨rfl, b3⟩; have hb3 := hb0.trans (b3.mono hb0.size); have XB3 := XB.below b3; have YB3 := YB.below b3; have A13 := A1.below b3; have B13 := B1.below b3; have A23 := A2.below b3; have B23 := B2.below b3; have OB3 := OB.below b3; obtain ⟨yy0, yy1, yy2, _, _, _, _, _⟩ := id YB3)
    | (go_at_call_of 12 (Value.agg #[Value.bool n2, Value.slice ao2 us.length ac2, Value.slice bo2 vs.length bc2]); refine (r2 _ A23 B23).mono ?_; rintro e w4 ⟨rfl, b4⟩; have hb4 := hb3.trans (b4.mono hb3.size); have XB4 := XB3.below b4; have YB4 := YB3.below b4; have A14 := A13.below b4; have B14 := B13.below b4; have A24 := A23.below b4; have B24 := B23.below b4; have OB4 := OB3.below b4; obtain ⟨xx0, xx1, xx2, _, _, _, _, _⟩ := id XB4; obtain ⟨zz0, zz1, zz2, _, _, _, _, _⟩ := id YB4; obtain ⟨p0, p1, p2, s0, s1, s2, _, _⟩ := id OB4))
  exact bodyPost_ret (v := .tuple #[.agg #[.bool false, .slice none 0 0, .slice none 0 0], .int .i64 2]) (by simp [results, Tryz.results25, go_sem, p0, p1, p2]) rfl ⟨none, 0, none, 0, rfl, lsnil _, lsnil _, below_three hb4 (by omega) _ _ _⟩
set_option maxRecDepth 100000 in
set_option maxHeartbeats 4000000 in
theorem dmuly7_any (n1 n2 : Bool) (xs ys us vs : List Nat) (ao1 bo1 ao2 bo2 : Option Addr) (ac1 bc1 ac2 bc2 : Nat) (w : World) (a1 : NS w ao1 ac1 xs) (b1 : NS w bo1 bc1 ys) (a2 : NS w ao2 ac2 us) (b2 : NS w bo2 bc2 vs) (hL1 : Lm xs) (hM1 : Lm ys) (hL2 : Lm us) (hM2 : Lm vs) (l1 : xs.length ≤ 300) (l2 : ys.length ≤ 300) (l3 : us.length ≤ 300) (l4 : vs.length ≤ 300) (hR : rtB n1 xs ys = true) (hQ : rtB n2 us vs = true) {rn : Bool} {rN rD : Nat} {er : Int} (ht : toT (nmA (n1 != n2) (vl xs * vl us) (vl ys * vl vs)) = ((rn, rN, rD), er)) :
    Calls Tryz.prog 25 #[.agg #[.bool n1, .slice ao1 xs.length ac1, .slice bo1 ys.length bc1], .agg #[.bool n2, .slice ao2 us.length ac2, .slice bo2 vs.length bc2]] w (GaveV w rn rN rD er) := by
  have hs1 : (w.alloc (.cells #[.bool n1, .slice ao1 xs.length ac1, .slice bo1 ys.length bc1] 24)).heap.size = w.heap.size + 1 := by simp
  have hs2 : ((w.alloc (.cells #[.bool n1, .slice ao1 xs.length ac1, .slice bo1 ys.length bc1] 24)).alloc (.cells #[.bool n2, .slice ao2 us.length ac2, .slice bo2 vs.length bc2] 24)).heap.size = w.heap.size + 1 + 1 := by simp
  have XB := ((B3q.new w (.bool n1) (.slice ao1 xs.length ac1) (.slice bo1 ys.length bc1) 24).alloc (.cells #[.bool n2, .slice ao2 us.length ac2, .slice bo2 vs.length bc2] 24)).alloc (.cells #[.bool false, .slice none 0 0, .slice none 0 0] 24)
  have YB := (B3q.new (w.alloc (.cells #[.bool n1, .slice ao1 xs.length ac1, .slice bo1 ys.length bc1] 24)) (.bool n2) (.slice ao2 us.length ac2) (.slice bo2 vs.length bc2) 24).alloc (.cells #[.bool false, .slice none 0 0, .slice none 0 0] 24)
  rw [hs1] at YB
  have OB := B3q.new ((w.alloc (.cells #[.bool n1, .slice ao1 xs.length ac1, .slice bo1 ys.length bc1] 24)).alloc (.cells #[.bool n2, .slice ao2 us.length ac2, .slice bo2 vs.length bc2] 24)) (.bool false) (.slice none 0 0) (.slice none 0 0) 24
  rw [hs2] at OB
  have hb0 : Below w.heap.size w (((w.alloc (.cells #[.bool n1, .slice ao1 xs.length ac1, .slice bo1 ys.length bc1] 24)).alloc (.cells #[.bool n2, .slice ao2 us.length ac2, .slice bo2 vs.length bc2] 24)).alloc (.cells #[.bool false, .slice none 0 0, .slice none 0 0] 24)) := (((Below.refl w.heap.size w).alloc (Nat.le_refl _) _).alloc (by rw [hs1]; omega) _).alloc (by rw [hs2]; omega) _
  have A1 := a1.below hb0
  have B1 := b1.below hb0
  have A2 := a2.below hb0
  have B2 := b2.below hb0
  have r1 := dright7_any n1 xs ys ao1 bo1 ac1 bc1 _ A1 B1 hL1 hM1 (by omega) (by omega)
  rw [hR] at r1
  have r2 := fun W (a : NS W ao2 ac2 us) (b : NS W bo2 bc2 vs) => dright7_any n2 us vs ao2 bo2 ac2 bc2 W a b hL2 hM2 (by omega) (by omega)
  simp only [hQ] at r2
  have R1 := (rt_right hL1 hM1 hR).2.2
  have R2 := (rt_right hL2 hM2 hQ).2.2
  have m1 : (lo (vl xs)).length ≤ 256 := by rw [lo_length]; exact R1.n
  have m2 : (lo (vl ys)).length ≤ 256 := by rw [lo_length]; exact R1.d
  have m3 : (lo (vl us)).length ≤ 256 := by rw [lo_length]; exact R2.n
  have m4 : (lo (vl vs)).length ≤ 256 := by rw [lo_length]; exact R2.d
  have v1 := fun W a b => value7_any n1 xs ys ao1 bo1 ac1 bc1 W a b hL1 hM1 (by omega) (by omega)
  have v2 := fun W a b => value7_any n2 us vs ao2 bo2 ac2 bc2 W a b hL2 hM2 (by omega) (by omega)
  have z1 := R1.d0
  have z3 := R2.d0
  clear R1 R2
  obtain ⟨N1, eN1⟩ : ∃ q, vl xs = q := ⟨_, rfl⟩
  obtain ⟨D1, eD1⟩ : ∃ q, vl ys = q := ⟨_, rfl⟩
  obtain ⟨N2, eN2⟩ : ∃ q, vl us = q := ⟨_, rfl⟩
  obtain ⟨D2, eD2⟩ : ∃ q, vl vs = q := ⟨_, rfl⟩
  rw [eN1, eD1] at v1
  rw [eN2, eD2] at v2
  rw [eN1] at m1
  rw [eD1] at m2 z1
  rw [eN2] at m3
  rw [eD2] at m4 z3
  rw [eN1, eD1, eN2, eD2] at ht
  clear eN1 eD1 eN2 eD2
  have cp := fun W po1 pc1 qo1 qc1 po2 pc2 qo2 qc2 a b c d => times7_any n1 n2 N1 D1 N2 D2 po1 qo1 po2 qo2 pc1 qc1 pc2 qc2 W a b c d (by omega) (by omega) (by omega) (by omega)
  have lS : (lo (N1 * N2)).length ≤ 1099511627776 := Nat.le_trans lo_mul_len (by omega)
  have lP : (lo (D1 * D2)).length ≤ 1099511627776 := Nat.le_trans lo_mul_len (by omega)
  have zP : D1 * D2 ≠ 0 := Nat.mul_ne_zero z1 z3
  generalize N1 * N2 = sz at *
  generalize D1 * D2 = PD at *
  generalize (n1 != n2) = sn at *
  have ct := fun W po pc qo qc a b => told7V (n := sn) ht zP lS lP po qo pc qc W a b
  clear ht zP lS lP m1 m2 m3 m4
  clear z1 z3
  clear hR hQ hs1 hs2 a1 b1 a2 b2
  go_enter Tryz.func25, Tryz.ntmps25
  go_upto_region 1 with fail
  generalize ((w.alloc (.cells #[.bool n1, .slice ao1 xs.length ac1, .slice bo1 ys.length bc1] 24)).alloc (.cells #[.bool n2, .slice ao2 us.length ac2, .slice bo2 vs.length bc2] 24)).alloc (.cells #[.bool false, .slice none 0 0, .slice none 0 0] 24) = W0 at *
  obtain ⟨x0, x1, x2, _, _, _, _, xlt⟩ := id XB
  obtain ⟨y0, y1, y2, _, _, _, _, ylt⟩ := id YB
  go_upto_region 3 with (first
    | (go_at_call_of 12 (Value.agg #[Value.bool n1, Value.slice ao1 xs.length ac1, Value.slice bo1 ys.length bc1]); refine r1.mono ?_; rintro e w3 ⟨rfl, b3⟩; have hb3 := hb0.trans (b3.mono hb0.size); have XB3 := XB.below b3; have YB3 := YB.below b3; have A13 := A1.below b3; have B13 := B1.below b3; have A23 := A2.below b3; have B23 := B2.below b3; have OB3 := OB.below b3; obtain ⟨yy0, yy1, yy2, _, _, _, _, _⟩ := id YB3)
    | (go_at_call_of 12 (Value.agg #[Value.bool n2, Value.slice ao2 us.length ac2, Value.slice bo2 vs.length bc2]); refine (r2 _ A23 B23).mono ?_; rintro e w4 ⟨rfl, b4⟩; have hb4 := hb3.trans (b4.mono hb3.size); have XB4 := XB3.below b4; have YB4 := YB3.below b4; have A14 := A13.below b4; have B14 := B13.below b4; have A24 := A23.below b4; have B24 := B23.below b4; have OB4 := OB3.below b4; obtain ⟨xx0, xx1, xx2, _, _, _, _, _⟩ := id XB4; obtain ⟨zz0, zz1, zz2, _, _, _, _, _⟩ := id YB4))
  clear x0 x1 x2 xlt y0 y1 y2 ylt XB YB XB3 YB3 A1 B1 A2 B2 A13 B13 A23 B23 r1 r2 hb0 hb3 b3 b4 OB OB3
  obtain ⟨x0, x1, x2, _, _, _, _, xlt⟩ := id XB4
  obtain ⟨y0, y1, y2, _, _, _, _, ylt⟩ := id YB4
  obtain ⟨FL, hFL⟩ : ∃ f : Nat → Lz, f = (fun j => match j with | 0 => .is (.agg #[.bool n1, .slice ao1 xs.length ac1, .slice bo1 ys.length bc1]) | 1 => .gn (FrP (n1) N1 D1) (fun _ _ _ h hb => h.below hb) | 2 => .is (.agg #[.bool n2, .slice ao2 us.length ac2, .slice bo2 vs.length bc2]) | 3 => .gn (FrP (n2) N2 D2) (fun _ _ _ h hb => h.below hb) | 4 => .gn (FrP (sn) sz PD) (fun _ _ _ h hb => h.below hb) | 5 => .gn (RtP rn rN rD er) (fun _ _ _ h hb => h.below hb) | 6 => .gn (RaP rn rN rD) (fun _ _ _ h hb => h.below hb) | 7 => .is (.int .i64 er) | 8 => .tr | 9 => .is (.int .i64 er) | _ => .tr) := ⟨_, rfl⟩
  have F0 := congrFun hFL 0
  have F1 := congrFun hFL 1
  have F2 := congrFun hFL 2
  have F3 := congrFun hFL 3
  have F4 := congrFun hFL 4
  have F5 := congrFun hFL 5
  have F6 := congrFun hFL 6
  have F7 := congrFun hFL 7
  have F8 := congrFun hFL 8
  have F9 := congrFun hFL 9
  simp only at F0 F1 F2 F3 F4 F5 F6 F7 F8 F9
  clear hFL
  refine region_rgU (by kernel_rfl) (fun v => ⟨#[Value.agg #[Value.bool n1, Value.slice ao1 xs.length ac1, Value.slice bo1 ys.length bc1], Value.agg #[Value.bool n2, Value.slice ao2 us.length ac2, Value.slice bo2 vs.length bc2], Value.pointer (some { block := w.heap.size, off := 0 }), Value.pointer (some { block := w.heap.size + 1, off := 0 }), Value.pointer (some { block := w.heap.size + 1 + 1, off := 0 }), v 9, Value.agg #[Value.bool n1, Value.slice ao1 xs.length ac1, Value.slice bo1 ys.length bc1], Value.bool true, Value.bool false, Value.bool false, Value.agg #[Value.bool n2, Value.slice ao2 us.length ac2, Value.slice bo2 vs.length bc2], Value.bool true, Value.bool false, Value.bool false, undef, v 0, v 1, v 2, v 3, v 4, v 5, v 6, v 7], []⟩) 8 (fun j => decide (j ≠ 8 ∧ j ≠ 9)) FL (fun a => ∃ ro rc so sc, B3q a (w.heap.size + 1 + 1) (.bool rn) (.slice ro (nl rN) rc) (.slice so (nl rD) sc) ∧ LS a ro rc (lo rN) ∧ LS a so sc (lo rD) ∧ Below w.heap.size w a) (fun j => match j with | 9 => Value.int IntKind.i64 0 | _ => undef) rfl ?_ ?_
  · intro L v w' i hL hS hi
    obtain ⟨h1, h2, h3⟩ := mem_ready hi
    have h1 : i < 10 := h1
    try dsimp only
    have hcs : i = 0 ∨ i = 1 ∨ i = 2 ∨ i = 3 ∨ i = 4 ∨ i = 5 ∨ i = 6 ∨ i = 7 ∨ i = 8 ∨ i = 9 := by omega
    clear h1 h2 h3
    rcases hcs with rfl | rfl | rfl | rfl | rfl | rfl | rfl | rfl | rfl | rfl
    · have hns := hS.open hL hi rfl
      have hB := hS.a hns
      have rx0 : w'.cell? ⟨w.heap.size, 0, none⟩ = some _ := (hB.cell (p := ⟨w.heap.size, 0, none⟩) xlt).trans x0
      have rx1 : w'.cell? ⟨w.heap.size, 1, none⟩ = some _ := (hB.cell (p := ⟨w.heap.size, 1, none⟩) xlt).trans x1
      have rx2 : w'.cell? ⟨w.heap.size, 2, none⟩ = some _ := (hB.cell (p := ⟨w.heap.size, 2, none⟩) xlt).trans x2
      refine wpOpT_of (fun K hK => ?_)
      unfold wpOp
      go_simp
      refine Or.inl ?_
      exact hK _ _ ⟨putT v 0 (.agg #[.bool n1, .slice ao1 xs.length ac1, .slice bo1 ys.length bc1]), (by simp [putT]), hS.step hL hi rfl (by decide) (Below.refl _ _) (Lz.toIs F0)⟩
    · have hns := hS.open hL hi rfl
      have hB := hS.a hns
      have e0 := Lz.ofIs (hS.f hns 0 rfl (ready_dep hi 0 (by kernel_rfl))) F0
      refine wpOpT_of (fun K hK => ?_)
      unfold wpOp
      simp only [e0]
      go_simp
      refine Or.inl ?_
      go_at_call 43
      refine (v1 _ (A14.below hB) (B14.below hB)).mono ?_
      rintro e w1 ⟨po, pc, qo, qc, rfl, m1, m2, bc⟩
      exact hK _ _ ⟨putT v 1 (.agg #[.bool (n1), .slice po (lo N1).length pc, .slice qo (lo D1).length qc]), (by simp [putT, e0]), hS.step hL hi rfl (by decide) (bc) (Lz.toGn F1 (⟨_, _, _, _, rfl, m1, m2⟩))⟩
    · have hns := hS.open hL hi rfl
      have hB := hS.a hns
      have ry0 : w'.cell? ⟨(w.heap.size + 1), 0, none⟩ = some _ := (hB.cell (p := ⟨(w.heap.size + 1), 0, none⟩) ylt).trans y0
      have ry1 : w'.cell? ⟨(w.heap.size + 1), 1, none⟩ = some _ := (hB.cell (p := ⟨(w.heap.size + 1), 1, none⟩) ylt).trans y1
      have ry2 : w'.cell? ⟨(w.heap.size + 1), 2, none⟩ = some _ := (hB.cell (p := ⟨(w.heap.size + 1), 2, none⟩) ylt).trans y2
      refine wpOpT_of (fun K hK => ?_)
      unfold wpOp
      go_simp
      refine Or.inl ?_
      exact hK _ _ ⟨putT v 2 (.agg #[.bool n2, .slice ao2 us.length ac2, .slice bo2 vs.length bc2]), (by simp [putT]), hS.step hL hi rfl (by decide) (Below.refl _ _) (Lz.toIs F2)⟩
    · have hns := hS.open hL hi rfl
      have hB := hS.a hns
      have e2 := Lz.ofIs (hS.f hns 2 rfl (ready_dep hi 2 (by kernel_rfl))) F2
      refine wpOpT_of (fun K hK => ?_)
      unfold wpOp
      simp only [e2]
      go_simp
      refine Or.inl ?_
      go_at_call 43
      refine (v2 _ (A24.below hB) (B24.below hB)).mono ?_
      rintro e w1 ⟨po, pc, qo, qc, rfl, m1, m2, bc⟩
      exact hK _ _ ⟨putT v 3 (.agg #[.bool (n2), .slice po (lo N2).length pc, .slice qo (lo D2).length qc]), (by simp [putT, e2]), hS.step hL hi rfl (by decide) (bc) (Lz.toGn F3 (⟨_, _, _, _, rfl, m1, m2⟩))⟩
    · have hns := hS.open hL hi rfl
      have hB := hS.a hns
      obtain ⟨ao_1, ac_1, bo_1, bc_1, e1, u1, t1⟩ := Lz.ofGn (hS.f hns 1 rfl (ready_dep hi 1 (by kernel_rfl))) F1
      obtain ⟨ao_3, ac_3, bo_3, bc_3, e3, u3, t3⟩ := Lz.ofGn (hS.f hns 3 rfl (ready_dep hi 3 (by kernel_rfl))) F3
      refine wpOpT_of (fun K hK => ?_)
      unfold wpOp
      simp only [e1, e3]
      go_simp
      refine Or.inl ?_
      go_at_call 64
      refine (cp _ _ _ _ _ _ _ _ _ u1 t1 u3 t3).mono ?_
      rintro e w1 ⟨po, pc, qo, qc, rfl, m1, m2, bc⟩
      exact hK _ _ ⟨putT v 4 (.agg #[.bool (sn), .slice po (lo sz).length pc, .slice qo (lo PD).length qc]), (by simp [putT, e1, e3]), hS.step hL hi rfl (by decide) (bc) (Lz.toGn F4 (⟨_, _, _, _, rfl, m1, m2⟩))⟩
    · have hns := hS.open hL hi rfl
      have hB := hS.a hns
      obtain ⟨ao_4, ac_4, bo_4, bc_4, e4, u4, t4⟩ := Lz.ofGn (hS.f hns 4 rfl (ready_dep hi 4 (by kernel_rfl))) F4
      refine wpOpT_of (fun K hK => ?_)
      unfold wpOp
      simp only [e4]
      go_simp
      refine Or.inl ?_
      go_at_call 42
      refine (ct _ _ _ _ _ u4 t4).mono ?_
      rintro e w1 ⟨po, pc, qo, qc, rfl, m1, m2, bc⟩
      exact hK _ _ ⟨putT v 5 (.tuple #[.agg #[.bool rn, .slice po (nl rN) pc, .slice qo (nl rD) qc], .int .i64 er]), (by simp [putT, e4]), hS.step hL hi rfl (by decide) (bc) (Lz.toGn F5 (⟨_, _, _, _, rfl, m1, m2⟩))⟩
    · have hns := hS.open hL hi rfl
      have hB := hS.a hns
      obtain ⟨ao_t, ac_t, bo_t, bc_t, e5, u5, t5⟩ := Lz.ofGn (hS.f hns 5 rfl (ready_dep hi 5 (by kernel_rfl))) F5
      refine wpOpT_of (fun K hK => ?_)
      unfold wpOp
      simp only [e5]
      go_simp
      refine Or.inl ?_
      exact hK _ _ ⟨putT v 6 (.agg #[.bool rn, .slice ao_t (nl rN) ac_t, .slice bo_t (nl rD) bc_t]), (by simp [putT, e5]), hS.step hL hi rfl (by decide) (Below.refl _ _) (Lz.toGn F6 (⟨_, _, _, _, rfl, u5, t5⟩))⟩
    · have hns := hS.open hL hi rfl
      have hB := hS.a hns
      obtain ⟨ao_t, ac_t, bo_t, bc_t, e5, u5, t5⟩ := Lz.ofGn (hS.f hns 5 rfl (ready_dep hi 5 (by kernel_rfl))) F5
      refine wpOpT_of (fun K hK => ?_)
      unfold wpOp
      simp only [e5]
      go_simp
      refine Or.inl ?_
      exact hK _ _ ⟨putT v 7 (.int .i64 er), (by simp [putT, e5]), hS.step hL hi rfl (by decide) (Below.refl _ _) (Lz.toIs F7)⟩
    · have hns := fun q => offT_not (by rw [hL]; exact (mem_ready hi).1) (mem_ready hi).2.1 q
      have hB := hS.a hns
      obtain ⟨ao_r, ac_r, bo_r, bc_r, e6, u6, t6⟩ := Lz.ofGn (hS.f hns 6 rfl (ready_dep hi 6 (by kernel_rfl))) F6
      have OB9 := OB4.below hB
      obtain ⟨p0, p1, p2, s0, s1, s2, _, _⟩ := id OB9
      have hb9 := hb4.trans (hB.mono hb4.size)
      refine wpOpT_of (fun K hK => ?_)
      unfold wpOp
      simp only [e6]
      go_simp
      refine Or.inl ?_
      exact hK _ _ ⟨putT v 8 undef, (by simp [putT, e6]), hS.last hL hi (by kernel_rfl) (⟨_, _, _, _, OB9.fill _ _ _, u6.threeB OB9 _ _ _, t6.threeB OB9 _ _ _, below_three hb9 (by omega) _ _ _⟩)⟩
    · have e7 := Lz.ofFree (hS.k 7 (by decide) (ready_dep hi 7 (by kernel_rfl))) F7
      refine wpOpT_of (fun K hK => ?_)
      unfold wpOp
      simp only [e7]
      go_simp
      refine Or.inl ?_
      exact hK _ _ ⟨putT v 9 (.int .i64 er), (by simp [putT, e7]), hS.late hL hi rfl (by decide) (Lz.toFree F9)⟩
  · intro L v w' hL hS hr
    have on := all_done hL hr (by kernel_rfl)
    obtain ⟨ro, rc, so, sc, G, G1, G2, hb8⟩ := hS.z (on 8 (by decide))
    have e9 := Lz.ofFree (hS.k 9 (by decide) (on 9 (by decide))) F9
    try dsimp only
    rw [e9]
    clear hS on hr
    obtain ⟨z0, z1, z2, _, _, _, _, _⟩ := id G
    go_wp2
    exact bodyPost_ret (v := .tuple #[.agg #[.bool rn, .slice ro (nl rN) rc, .slice so (nl rD) sc], .int .i64 er]) (by simp [results, Tryz.results25, go_sem, z0, z1, z2]) rfl ⟨ro, rc, so, sc, rfl, G1, G2, hb8⟩
set_option maxRecDepth 100000 in
set_option maxHeartbeats 4000000 in
theorem ddivw7_any (n1 n2 : Bool) (xs ys us vs : List Nat) (ao1 bo1 ao2 bo2 : Option Addr) (ac1 bc1 ac2 bc2 : Nat) (w : World) (a1 : NS w ao1 ac1 xs) (b1 : NS w bo1 bc1 ys) (a2 : NS w ao2 ac2 us) (b2 : NS w bo2 bc2 vs) (hL1 : Lm xs) (hM1 : Lm ys) (_hL2 : Lm us) (_hM2 : Lm vs) (l1 : xs.length ≤ 300) (l2 : ys.length ≤ 300) (_l3 : us.length ≤ 300) (_l4 : vs.length ≤ 300) (hR : rtB n1 xs ys = false) :
    Calls Tryz.prog 27 #[.agg #[.bool n1, .slice ao1 xs.length ac1, .slice bo1 ys.length bc1], .agg #[.bool n2, .slice ao2 us.length ac2, .slice bo2 vs.length bc2]] w (GaveV w false 0 0 2) := by
  have hs1 : (w.alloc (.cells #[.bool n1, .slice ao1 xs.length ac1, .slice bo1 ys.length bc1] 24)).heap.size = w.heap.size + 1 := by simp
  have hs2 : ((w.alloc (.cells #[.bool n1, .slice ao1 xs.length ac1, .slice bo1 ys.length bc1] 24)).alloc (.cells #[.bool n2, .slice ao2 us.length ac2, .slice bo2 vs.length bc2] 24)).heap.size = w.heap.size + 1 + 1 := by simp
  have XB := ((B3q.new w (.bool n1) (.slice ao1 xs.length ac1) (.slice bo1 ys.length bc1) 24).alloc (.cells #[.bool n2, .slice ao2 us.length ac2, .slice bo2 vs.length bc2] 24)).alloc (.cells #[.bool false, .slice none 0 0, .slice none 0 0] 24)
  have YB := (B3q.new (w.alloc (.cells #[.bool n1, .slice ao1 xs.length ac1, .slice bo1 ys.length bc1] 24)) (.bool n2) (.slice ao2 us.length ac2) (.slice bo2 vs.length bc2) 24).alloc (.cells #[.bool false, .slice none 0 0, .slice none 0 0] 24)
  rw [hs1] at YB
  have OB := B3q.new ((w.alloc (.cells #[.bool n1, .slice ao1 xs.length ac1, .slice bo1 ys.length bc1] 24)).alloc (.cells #[.bool n2, .slice ao2 us.length ac2, .slice bo2 vs.length bc2] 24)) (.bool false) (.slice none 0 0) (.slice none 0 0) 24
  rw [hs2] at OB
  have hb0 : Below w.heap.size w (((w.alloc (.cells #[.bool n1, .slice ao1 xs.length ac1, .slice bo1 ys.length bc1] 24)).alloc (.cells #[.bool n2, .slice ao2 us.length ac2, .slice bo2 vs.length bc2] 24)).alloc (.cells #[.bool false, .slice none 0 0, .slice none 0 0] 24)) := (((Below.refl w.heap.size w).alloc (Nat.le_refl _) _).alloc (by rw [hs1]; omega) _).alloc (by rw [hs2]; omega) _
  have A1 := a1.below hb0
  have B1 := b1.below hb0
  have A2 := a2.below hb0
  have B2 := b2.below hb0
  have r1 := dright7_any n1 xs ys ao1 bo1 ac1 bc1 _ A1 B1 hL1 hM1 (by omega) (by omega)
  rw [hR] at r1
  clear hR hs1 hs2 a1 b1 a2 b2
  go_enter Tryz.func27, Tryz.ntmps27
  go_upto_region 1 with fail
  generalize ((w.alloc (.cells #[.bool n1, .slice ao1 xs.length ac1, .slice bo1 ys.length bc1] 24)).alloc (.cells #[.bool n2, .slice ao2 us.length ac2, .slice bo2 vs.length bc2] 24)).alloc (.cells #[.bool false, .slice none 0 0, .slice none 0 0] 24) = W0 at *
  obtain ⟨x0, x1, x2, _, _, _, _, xlt⟩ := id XB
  go_wp2_with (go_at_call_of 12 (Value.agg #[Value.bool n1, Value.slice ao1 xs.length ac1, Value.slice bo1 ys.length bc1]); refine r1.mono ?_; rintro e w3 ⟨rfl, b3⟩; have hb3 := hb0.trans (b3.mono hb0.size); have XB3 := XB.below b3; have YB3 := YB.below b3; have A13 := A1.below b3; have B13 := B1.below b3; have A23 := A2.below b3; have B23 := B2.below b3; have OB3 := OB.below b3; obtain ⟨yy0, yy1, yy2, _, _, _, _, _⟩ := id YB3; obtain ⟨p0, p1, p2, s0, s1, s2, _, _⟩ := id OB3)
  exact bodyPost_ret (v := .tuple #[.agg #[.bool false, .slice none 0 0, .slice none 0 0], .int .i64 2]) (by simp [results, Tryz.results27, go_sem, p0, p1, p2]) rfl ⟨none, 0, none, 0, rfl, lsnil _, lsnil _, below_three hb3 (by omega) _ _ _⟩
set_option maxRecDepth 100000 in
set_option maxHeartbeats 4000000 in
theorem ddivx7_any (n1 n2 : Bool) (xs ys us vs : List Nat) (ao1 bo1 ao2 bo2 : Option Addr) (ac1 bc1 ac2 bc2 : Nat) (w : World) (a1 : NS w ao1 ac1 xs) (b1 : NS w bo1 bc1 ys) (a2 : NS w ao2 ac2 us) (b2 : NS w bo2 bc2 vs) (hL1 : Lm xs) (hM1 : Lm ys) (hL2 : Lm us) (hM2 : Lm vs) (l1 : xs.length ≤ 300) (l2 : ys.length ≤ 300) (l3 : us.length ≤ 300) (l4 : vs.length ≤ 300) (hR : rtB n1 xs ys = true) (hQ : rtB n2 us vs = false) :
    Calls Tryz.prog 27 #[.agg #[.bool n1, .slice ao1 xs.length ac1, .slice bo1 ys.length bc1], .agg #[.bool n2, .slice ao2 us.length ac2, .slice bo2 vs.length bc2]] w (GaveV w false 0 0 2) := by
  have hs1 : (w.alloc (.cells #[.bool n1, .slice ao1 xs.length ac1, .slice bo1 ys.length bc1] 24)).heap.size = w.heap.size + 1 := by simp
  have hs2 : ((w.alloc (.cells #[.bool n1, .slice ao1 xs.length ac1, .slice bo1 ys.length bc1] 24)).alloc (.cells #[.bool n2, .slice ao2 us.length ac2, .slice bo2 vs.length bc2] 24)).heap.size = w.heap.size + 1 + 1 := by simp
  have XB := ((B3q.new w (.bool n1) (.slice ao1 xs.length ac1) (.slice bo1 ys.length bc1) 24).alloc (.cells #[.bool n2, .slice ao2 us.length ac2, .slice bo2 vs.length bc2] 24)).alloc (.cells #[.bool false, .slice none 0 0, .slice none 0 0] 24)
  have YB := (B3q.new (w.alloc (.cells #[.bool n1, .slice ao1 xs.length ac1, .slice bo1 ys.length bc1] 24)) (.bool n2) (.slice ao2 us.length ac2) (.slice bo2 vs.length bc2) 24).alloc (.cells #[.bool false, .slice none 0 0, .slice none 0 0] 24)
  rw [hs1] at YB
  have OB := B3q.new ((w.alloc (.cells #[.bool n1, .slice ao1 xs.length ac1, .slice bo1 ys.length bc1] 24)).alloc (.cells #[.bool n2, .slice ao2 us.length ac2, .slice bo2 vs.length bc2] 24)) (.bool false) (.slice none 0 0) (.slice none 0 0) 24
  rw [hs2] at OB
  have hb0 : Below w.heap.size w (((w.alloc (.cells #[.bool n1, .slice ao1 xs.length ac1, .slice bo1 ys.length bc1] 24)).alloc (.cells #[.bool n2, .slice ao2 us.length ac2, .slice bo2 vs.length bc2] 24)).alloc (.cells #[.bool false, .slice none 0 0, .slice none 0 0] 24)) := (((Below.refl w.heap.size w).alloc (Nat.le_refl _) _).alloc (by rw [hs1]; omega) _).alloc (by rw [hs2]; omega) _
  have A1 := a1.below hb0
  have B1 := b1.below hb0
  have A2 := a2.below hb0
  have B2 := b2.below hb0
  have r1 := dright7_any n1 xs ys ao1 bo1 ac1 bc1 _ A1 B1 hL1 hM1 (by omega) (by omega)
  rw [hR] at r1
  have r2 := fun W (a : NS W ao2 ac2 us) (b : NS W bo2 bc2 vs) => dright7_any n2 us vs ao2 bo2 ac2 bc2 W a b hL2 hM2 (by omega) (by omega)
  simp only [hQ] at r2
  clear hR hQ hs1 hs2 a1 b1 a2 b2
  go_enter Tryz.func27, Tryz.ntmps27
  go_upto_region 1 with fail
  generalize ((w.alloc (.cells #[.bool n1, .slice ao1 xs.length ac1, .slice bo1 ys.length bc1] 24)).alloc (.cells #[.bool n2, .slice ao2 us.length ac2, .slice bo2 vs.length bc2] 24)).alloc (.cells #[.bool false, .slice none 0 0, .slice none 0 0] 24) = W0 at *
  obtain ⟨x0, x1, x2, _, _, _, _, xlt⟩ := id XB
  obtain ⟨y0, y1, y2, _, _, _, _, ylt⟩ := id YB
  go_wp2_with (first
    | (go_at_call_of 12 (Value.agg #[Value.bool n1, Value.slice ao1 xs.length ac1, Value.slice bo1 ys.length bc1]); refine r1.mono ?_; rintro e w3 ⟨rfl, b3⟩; have hb3 := hb0.trans (b3.mono hb0.size); have XB3 := XB.below b3; have YB3 := YB.below b3; have A13 := A1.below b3; have B13 := B1.below b3; have A23 := A2.below b3; have B23 := B2.below b3; have OB3 := OB.below b3; obtain ⟨yy0, yy1, yy2, _, _, _, _, _⟩ := id YB3)
    | (go_at_call_of 12 (Value.agg #[Value.bool n2, Value.slice ao2 us.length ac2, Value.slice bo2 vs.length bc2]); refine (r2 _ A23 B23).mono ?_; rintro e w4 ⟨rfl, b4⟩; have hb4 := hb3.trans (b4.mono hb3.size); have XB4 := XB3.below b4; have YB4 := YB3.below b4; have A14 := A13.below b4; have B14 := B13.below b4; have A24 := A23.below b4; have B24 := B23.below b4; have OB4 := OB3.below b4; obtain ⟨xx0, xx1, xx2, _, _, _, _, _⟩ := id XB4; obtain ⟨zz0, zz1, zz2, _, _, _, _, _⟩ := id YB4; obtain ⟨p0, p1, p2, s0, s1, s2, _, _⟩ := id OB4))
  exact bodyPost_ret (v := .tuple #[.agg #[.bool false, .slice none 0 0, .slice none 0 0], .int .i64 2]) (by simp [results, Tryz.results27, go_sem, p0, p1, p2]) rfl ⟨none, 0, none, 0, rfl, lsnil _, lsnil _, below_three hb4 (by omega) _ _ _⟩
set_option maxRecDepth 100000 in
set_option maxHeartbeats 4000000 in
theorem ddivy7_any (n1 n2 : Bool) (xs ys us vs : List Nat) (ao1 bo1 ao2 bo2 : Option Addr) (ac1 bc1 ac2 bc2 : Nat) (w : World) (a1 : NS w ao1 ac1 xs) (b1 : NS w bo1 bc1 ys) (a2 : NS w ao2 ac2 us) (b2 : NS w bo2 bc2 vs) (hL1 : Lm xs) (hM1 : Lm ys) (hL2 : Lm us) (hM2 : Lm vs) (l1 : xs.length ≤ 300) (l2 : ys.length ≤ 300) (l3 : us.length ≤ 300) (l4 : vs.length ≤ 300) (hR : rtB n1 xs ys = true) (hQ : rtB n2 us vs = true) (h0 : us.length ≠ 0) {rn : Bool} {rN rD : Nat} {er : Int} (ht : toT (nmA (n1 != n2) (vl xs * vl vs) (vl ys * vl us)) = ((rn, rN, rD), er)) :
    Calls Tryz.prog 27 #[.agg #[.bool n1, .slice ao1 xs.length ac1, .slice bo1 ys.length bc1], .agg #[.bool n2, .slice ao2 us.length ac2, .slice bo2 vs.length bc2]] w (GaveV w rn rN rD er) := by
  have hs1 : (w.alloc (.cells #[.bool n1, .slice ao1 xs.length ac1, .slice bo1 ys.length bc1] 24)).heap.size = w.heap.size + 1 := by simp
  have hs2 : ((w.alloc (.cells #[.bool n1, .slice ao1 xs.length ac1, .slice bo1 ys.length bc1] 24)).alloc (.cells #[.bool n2, .slice ao2 us.length ac2, .slice bo2 vs.length bc2] 24)).heap.size = w.heap.size + 1 + 1 := by simp
  have XB := ((B3q.new w (.bool n1) (.slice ao1 xs.length ac1) (.slice bo1 ys.length bc1) 24).alloc (.cells #[.bool n2, .slice ao2 us.length ac2, .slice bo2 vs.length bc2] 24)).alloc (.cells #[.bool false, .slice none 0 0, .slice none 0 0] 24)
  have YB := (B3q.new (w.alloc (.cells #[.bool n1, .slice ao1 xs.length ac1, .slice bo1 ys.length bc1] 24)) (.bool n2) (.slice ao2 us.length ac2) (.slice bo2 vs.length bc2) 24).alloc (.cells #[.bool false, .slice none 0 0, .slice none 0 0] 24)
  rw [hs1] at YB
  have OB := B3q.new ((w.alloc (.cells #[.bool n1, .slice ao1 xs.length ac1, .slice bo1 ys.length bc1] 24)).alloc (.cells #[.bool n2, .slice ao2 us.length ac2, .slice bo2 vs.length bc2] 24)) (.bool false) (.slice none 0 0) (.slice none 0 0) 24
  rw [hs2] at OB
  have hb0 : Below w.heap.size w (((w.alloc (.cells #[.bool n1, .slice ao1 xs.length ac1, .slice bo1 ys.length bc1] 24)).alloc (.cells #[.bool n2, .slice ao2 us.length ac2, .slice bo2 vs.length bc2] 24)).alloc (.cells #[.bool false, .slice none 0 0, .slice none 0 0] 24)) := (((Below.refl w.heap.size w).alloc (Nat.le_refl _) _).alloc (by rw [hs1]; omega) _).alloc (by rw [hs2]; omega) _
  have A1 := a1.below hb0
  have B1 := b1.below hb0
  have A2 := a2.below hb0
  have B2 := b2.below hb0
  have r1 := dright7_any n1 xs ys ao1 bo1 ac1 bc1 _ A1 B1 hL1 hM1 (by omega) (by omega)
  rw [hR] at r1
  have r2 := fun W (a : NS W ao2 ac2 us) (b : NS W bo2 bc2 vs) => dright7_any n2 us vs ao2 bo2 ac2 bc2 W a b hL2 hM2 (by omega) (by omega)
  simp only [hQ] at r2
  have R1 := (rt_right hL1 hM1 hR).2.2
  have R2 := (rt_right hL2 hM2 hQ).2.2
  have m1 : (lo (vl xs)).length ≤ 256 := by rw [lo_length]; exact R1.n
  have m2 : (lo (vl ys)).length ≤ 256 := by rw [lo_length]; exact R1.d
  have m3 : (lo (vl us)).length ≤ 256 := by rw [lo_length]; exact R2.n
  have m4 : (lo (vl vs)).length ≤ 256 := by rw [lo_length]; exact R2.d
  have v1 := fun W a b => value7_any n1 xs ys ao1 bo1 ac1 bc1 W a b hL1 hM1 (by omega) (by omega)
  have v2 := fun W a b => value7_any n2 us vs ao2 bo2 ac2 bc2 W a b hL2 hM2 (by omega) (by omega)
  have z2 : vl us ≠ 0 := fun h => h0 (by rw [(rt_right hL2 hM2 hQ).1, h]; rfl)
  have z1 := R1.d0
  have z3 := R2.d0
  clear R1 R2
  obtain ⟨N1, eN1⟩ : ∃ q, vl xs = q := ⟨_, rfl⟩
  obtain ⟨D1, eD1⟩ : ∃ q, vl ys = q := ⟨_, rfl⟩
  obtain ⟨N2, eN2⟩ : ∃ q, vl us = q := ⟨_, rfl⟩
  obtain ⟨D2, eD2⟩ : ∃ q, vl vs = q := ⟨_, rfl⟩
  rw [eN1, eD1] at v1
  rw [eN2, eD2] at v2
  rw [eN1] at m1
  rw [eD1] at m2 z1
  rw [eN2] at m3 z2
  rw [eD2] at m4 z3
  rw [eN1, eD1, eN2, eD2] at ht
  clear eN1 eD1 eN2 eD2
  have cp := fun W po1 pc1 qo1 qc1 po2 pc2 qo2 qc2 a b c d => over7_any n1 n2 N1 D1 N2 D2 po1 qo1 po2 qo2 pc1 qc1 pc2 qc2 W a b c d (by omega) (by omega) (by omega) (by omega)
  have lS : (lo (N1 * D2)).length ≤ 1099511627776 := Nat.le_trans lo_mul_len (by omega)
  have lP : (lo (D1 * N2)).length ≤ 1099511627776 := Nat.le_trans lo_mul_len (by omega)
  have zP : D1 * N2 ≠ 0 := Nat.mul_ne_zero z1 z2
  generalize N1 * D2 = sz at *
  generalize D1 * N2 = PD at *
  generalize (n1 != n2) = sn at *
  have ct := fun W po pc qo qc a b => told7V (n := sn) ht zP lS lP po qo pc qc W a b
  clear ht zP lS lP m1 m2 m3 m4
  have i0 : ((us.length : Int) == 0) = false := by rw [beq_eq_false_iff_ne]; omega
  clear z1 z3 z2 h0
  clear hR hQ hs1 hs2 a1 b1 a2 b2
  go_enter Tryz.func27, Tryz.ntmps27
  go_upto_region 1 with fail
  generalize ((w.alloc (.cells #[.bool n1, .slice ao1 xs.length ac1, .slice bo1 ys.length bc1] 24)).alloc (.cells #[.bool n2, .slice ao2 us.length ac2, .slice bo2 vs.length bc2] 24)).alloc (.cells #[.bool false, .slice none 0 0, .slice none 0 0] 24) = W0 at *
  obtain ⟨x0, x1, x2, _, _, _, _, xlt⟩ := id XB
  obtain ⟨y0, y1, y2, _, _, _, _, ylt⟩ := id YB
  go_upto_region 5 with (first
    | (go_at_call_of 12 (Value.agg #[Value.bool n1, Value.slice ao1 xs.length ac1, Value.slice bo1 ys.length bc1]); refine r1.mono ?_; rintro e w3 ⟨rfl, b3⟩; have hb3 := hb0.trans (b3.mono hb0.size); have XB3 := XB.below b3; have YB3 := YB.below b3; have A13 := A1.below b3; have B13 := B1.below b3; have A23 := A2.below b3; have B23 := B2.below b3; have OB3 := OB.below b3; obtain ⟨yy0, yy1, yy2, _, _, _, _, _⟩ := id YB3)
    | (go_at_call_of 12 (Value.agg #[Value.bool n2, Value.slice ao2 us.length ac2, Value.slice bo2 vs.length bc2]); refine (r2 _ A23 B23).mono ?_; rintro e w4 ⟨rfl, b4⟩; have hb4 := hb3.trans (b4.mono hb3.size); have XB4 := XB3.below b4; have YB4 := YB3.below b4; have A14 := A13.below b4; have B14 := B13.below b4; have A24 := A23.below b4; have B24 := B23.below b4; have OB4 := OB3.below b4; obtain ⟨xx0, xx1, xx2, _, _, _, _, _⟩ := id XB4; obtain ⟨zz0, zz1, zz2, _, _, _, _, _⟩ := id YB4))
  clear x0 x1 x2 xlt y0 y1 y2 ylt XB YB XB3 YB3 A1 B1 A2 B2 A13 B13 A23 B23 r1 r2 hb0 hb3 b3 b4 OB OB3
  obtain ⟨x0, x1, x2, _, _, _, _, xlt⟩ := id XB4
  obtain ⟨y0, y1, y2, _, _, _, _, ylt⟩ := id YB4
  obtain ⟨FL, hFL⟩ : ∃ f : Nat → Lz, f = (fun j => match j with | 0 => .is (.agg #[.bool n1, .slice ao1 xs.length ac1, .slice bo1 ys.length bc1]) | 1 => .gn (FrP (n1) N1 D1) (fun _ _ _ h hb => h.below hb) | 2 => .is (.agg #[.bool n2, .slice ao2 us.length ac2, .slice bo2 vs.length bc2]) | 3 => .gn (FrP (n2) N2 D2) (fun _ _ _ h hb => h.below hb) | 4 => .gn (FrP (sn) sz PD) (fun _ _ _ h hb => h.below hb) | 5 => .gn (RtP rn rN rD er) (fun _ _ _ h hb => h.below hb) | 6 => .gn (RaP rn rN rD) (fun _ _ _ h hb => h.below hb) | 7 => .is (.int .i64 er) | 8 => .tr | 9 => .is (.int .i64 er) | _ => .tr) := ⟨_, rfl⟩
  have F0 := congrFun hFL 0
  have F1 := congrFun hFL 1
  have F2 := congrFun hFL 2
  have F3 := congrFun hFL 3
  have F4 := congrFun hFL 4
  have F5 := congrFun hFL 5
  have F6 := congrFun hFL 6
  have F7 := congrFun hFL 7
  have F8 := congrFun hFL 8
  have F9 := congrFun hFL 9
  simp only at F0 F1 F2 F3 F4 F5 F6 F7 F8 F9
  clear hFL
  refine region_rgU (by kernel_rfl) (fun v => ⟨#[Value.agg #[Value.bool n1, Value.slice ao1 xs.length ac1, Value.slice bo1 ys.length bc1], Value.agg #[Value.bool n2, Value.slice ao2 us.length ac2, Value.slice bo2 vs.length bc2], Value.pointer (some { block := w.heap.size, off := 0 }), Value.pointer (some { block := w.heap.size + 1, off := 0 }), Value.pointer (some { block := w.heap.size + 1 + 1, off := 0 }), v 9, Value.agg #[Value.bool n1, Value.slice ao1 xs.length ac1, Value.slice bo1 ys.length bc1], Value.bool true, Value.bool false, Value.bool false, Value.agg #[Value.bool n2, Value.slice ao2 us.length ac2, Value.slice bo2 vs.length bc2], Value.bool true, Value.bool false, Value.bool false, undef, Value.pointer (some { block := w.heap.size + 1, off := 1 }), Value.slice ao2 us.length ac2, Value.int IntKind.i64 ↑us.length, Value.bool false, undef, v 0, v 1, v 2, v 3, v 4, v 5, v 6, v 7], []⟩) 8 (fun j => decide (j ≠ 8 ∧ j ≠ 9)) FL (fun a => ∃ ro rc so sc, B3q a (w.heap.size + 1 + 1) (.bool rn) (.slice ro (nl rN) rc) (.slice so (nl rD) sc) ∧ LS a ro rc (lo rN) ∧ LS a so sc (lo rD) ∧ Below w.heap.size w a) (fun j => match j with | 9 => Value.int IntKind.i64 0 | _ => undef) rfl ?_ ?_
  · intro L v w' i hL hS hi
    obtain ⟨h1, h2, h3⟩ := mem_ready hi
    have h1 : i < 10 := h1
    try dsimp only
    have hcs : i = 0 ∨ i = 1 ∨ i = 2 ∨ i = 3 ∨ i = 4 ∨ i = 5 ∨ i = 6 ∨ i = 7 ∨ i = 8 ∨ i = 9 := by omega
    clear h1 h2 h3
    rcases hcs with rfl | rfl | rfl | rfl | rfl | rfl | rfl | rfl | rfl | rfl
    · have hns := hS.open hL hi rfl
      have hB := hS.a hns
      have rx0 : w'.cell? ⟨w.heap.size, 0, none⟩ = some _ := (hB.cell (p := ⟨w.heap.size, 0, none⟩) xlt).trans x0
      have rx1 : w'.cell? ⟨w.heap.size, 1, none⟩ = some _ := (hB.cell (p := ⟨w.heap.size, 1, none⟩) xlt).trans x1
      have rx2 : w'.cell? ⟨w.heap.size, 2, none⟩ = some _ := (hB.cell (p := ⟨w.heap.size, 2, none⟩) xlt).trans x2
      refine wpOpT_of (fun K hK => ?_)
      unfold wpOp
      go_simp
      refine Or.inl ?_
      exact hK _ _ ⟨putT v 0 (.agg #[.bool n1, .slice ao1 xs.length ac1, .slice bo1 ys.length bc1]), (by simp [putT]), hS.step hL hi rfl (by decide) (Below.refl _ _) (Lz.toIs F0)⟩
    · have hns := hS.open hL hi rfl
      have hB := hS.a hns
      have e0 := Lz.ofIs (hS.f hns 0 rfl (ready_dep hi 0 (by kernel_rfl))) F0
      refine wpOpT_of (fun K hK => ?_)
      unfold wpOp
      simp only [e0]
      go_simp
      refine Or.inl ?_
      go_at_call 43
      refine (v1 _ (A14.below hB) (B14.below hB)).mono ?_
      rintro e w1 ⟨po, pc, qo, qc, rfl, m1, m2, bc⟩
      exact hK _ _ ⟨putT v 1 (.agg #[.bool (n1), .slice po (lo N1).length pc, .slice qo (lo D1).length qc]), (by simp [putT, e0]), hS.step hL hi rfl (by decide) (bc) (Lz.toGn F1 (⟨_, _, _, _, rfl, m1, m2⟩))⟩
    · have hns := hS.open hL hi rfl
      have hB := hS.a hns
      have ry0 : w'.cell? ⟨(w.heap.size + 1), 0, none⟩ = some _ := (hB.cell (p := ⟨(w.heap.size + 1), 0, none⟩) ylt).trans y0
      have ry1 : w'.cell? ⟨(w.heap.size + 1), 1, none⟩ = some _ := (hB.cell (p := ⟨(w.heap.size + 1), 1, none⟩) ylt).trans y1
      have ry2 : w'.cell? ⟨(w.heap.size + 1), 2, none⟩ = some _ := (hB.cell (p := ⟨(w.heap.size + 1), 2, none⟩) ylt).trans y2
      refine wpOpT_of (fun K hK => ?_)
      unfold wpOp
      go_simp
      refine Or.inl ?_
      exact hK _ _ ⟨putT v 2 (.agg #[.bool n2, .slice ao2 us.length ac2, .slice bo2 vs.length bc2]), (by simp [putT]), hS.step hL hi rfl (by decide) (Below.refl _ _) (Lz.toIs F2)⟩
    · have hns := hS.open hL hi rfl
      have hB := hS.a hns
      have e2 := Lz.ofIs (hS.f hns 2 rfl (ready_dep hi 2 (by kernel_rfl))) F2
      refine wpOpT_of (fun K hK => ?_)
      unfold wpOp
      simp only [e2]
      go_simp
      refine Or.inl ?_
      go_at_call 43
      refine (v2 _ (A24.below hB) (B24.below hB)).mono ?_
      rintro e w1 ⟨po, pc, qo, qc, rfl, m1, m2, bc⟩
      exact hK _ _ ⟨putT v 3 (.agg #[.bool (n2), .slice po (lo N2).length pc, .slice qo (lo D2).length qc]), (by simp [putT, e2]), hS.step hL hi rfl (by decide) (bc) (Lz.toGn F3 (⟨_, _, _, _, rfl, m1, m2⟩))⟩
    · have hns := hS.open hL hi rfl
      have hB := hS.a hns
      obtain ⟨ao_1, ac_1, bo_1, bc_1, e1, u1, t1⟩ := Lz.ofGn (hS.f hns 1 rfl (ready_dep hi 1 (by kernel_rfl))) F1
      obtain ⟨ao_3, ac_3, bo_3, bc_3, e3, u3, t3⟩ := Lz.ofGn (hS.f hns 3 rfl (ready_dep hi 3 (by kernel_rfl))) F3
      refine wpOpT_of (fun K hK => ?_)
      unfold wpOp
      simp only [e1, e3]
      go_simp
      refine Or.inl ?_
      go_at_call 65
      refine (cp _ _ _ _ _ _ _ _ _ u1 t1 u3 t3).mono ?_
      rintro e w1 ⟨po, pc, qo, qc, rfl, m1, m2, bc⟩
      exact hK _ _ ⟨putT v 4 (.agg #[.bool (sn), .slice po (lo sz).length pc, .slice qo (lo PD).length qc]), (by simp [putT, e1, e3]), hS.step hL hi rfl (by decide) (bc) (Lz.toGn F4 (⟨_, _, _, _, rfl, m1, m2⟩))⟩
    · have hns := hS.open hL hi rfl
      have hB := hS.a hns
      obtain ⟨ao_4, ac_4, bo_4, bc_4, e4, u4, t4⟩ := Lz.ofGn (hS.f hns 4 rfl (ready_dep hi 4 (by kernel_rfl))) F4
      refine wpOpT_of (fun K hK => ?_)
      unfold wpOp
      simp only [e4]
      go_simp
      refine Or.inl ?_
      go_at_call 42
      refine (ct _ _ _ _ _ u4 t4).mono ?_
      rintro e w1 ⟨po, pc, qo, qc, rfl, m1, m2, bc⟩
      exact hK _ _ ⟨putT v 5 (.tuple #[.agg #[.bool rn, .slice po (nl rN) pc, .slice qo (nl rD) qc], .int .i64 er]), (by simp [putT, e4]), hS.step hL hi rfl (by decide) (bc) (Lz.toGn F5 (⟨_, _, _, _, rfl, m1, m2⟩))⟩
    · have hns := hS.open hL hi rfl
      have hB := hS.a hns
      obtain ⟨ao_t, ac_t, bo_t, bc_t, e5, u5, t5⟩ := Lz.ofGn (hS.f hns 5 rfl (ready_dep hi 5 (by kernel_rfl))) F5
      refine wpOpT_of (fun K hK => ?_)
      unfold wpOp
      simp only [e5]
      go_simp
      refine Or.inl ?_
      exact hK _ _ ⟨putT v 6 (.agg #[.bool rn, .slice ao_t (nl rN) ac_t, .slice bo_t (nl rD) bc_t]), (by simp [putT, e5]), hS.step hL hi rfl (by decide) (Below.refl _ _) (Lz.toGn F6 (⟨_, _, _, _, rfl, u5, t5⟩))⟩
    · have hns := hS.open hL hi rfl
      have hB := hS.a hns
      obtain ⟨ao_t, ac_t, bo_t, bc_t, e5, u5, t5⟩ := Lz.ofGn (hS.f hns 5 rfl (ready_dep hi 5 (by kernel_rfl))) F5
      refine wpOpT_of (fun K hK => ?_)
      unfold wpOp
      simp only [e5]
      go_simp
      refine Or.inl ?_
      exact hK _ _ ⟨putT v 7 (.int .i64 er), (by simp [putT, e5]), hS.step hL hi rfl (by decide) (Below.refl _ _) (Lz.toIs F7)⟩
    · have hns := fun q => offT_not (by rw [hL]; exact (mem_ready hi).1) (mem_ready hi).2.1 q
      have hB := hS.a hns
      obtain ⟨ao_r, ac_r, bo_r, bc_r, e6, u6, t6⟩ := Lz.ofGn (hS.f hns 6 rfl (ready_dep hi 6 (by kernel_rfl))) F6
      have OB9 := OB4.below hB
      obtain ⟨p0, p1, p2, s0, s1, s2, _, _⟩ := id OB9
      have hb9 := hb4.trans (hB.mono hb4.size)
      refine wpOpT_of (fun K hK => ?_)
      unfold wpOp
      simp only [e6]
      go_simp
      refine Or.inl ?_
      exact hK _ _ ⟨putT v 8 undef, (by simp [putT, e6]), hS.last hL hi (by kernel_rfl) (⟨_, _, _, _, OB9.fill _ _ _, u6.threeB OB9 _ _ _, t6.threeB OB9 _ _ _, below_three hb9 (by omega) _ _ _⟩)⟩
    · have e7 := Lz.ofFree (hS.k 7 (by decide) (ready_dep hi 7 (by kernel_rfl))) F7
      refine wpOpT_of (fun K hK => ?_)
      unfold wpOp
      simp only [e7]
      go_simp
      refine Or.inl ?_
      exact hK _ _ ⟨putT v 9 (.int .i64 er), (by simp [putT, e7]), hS.late hL hi rfl (by decide) (Lz.toFree F9)⟩
  · intro L v w' hL hS hr
    have on := all_done hL hr (by kernel_rfl)
    obtain ⟨ro, rc, so, sc, G, G1, G2, hb8⟩ := hS.z (on 8 (by decide))
    have e9 := Lz.ofFree (hS.k 9 (by decide) (on 9 (by decide))) F9
    try dsimp only
    rw [e9]
    clear hS on hr
    obtain ⟨z0, z1, z2, _, _, _, _, _⟩ := id G
    go_wp2
    exact bodyPost_ret (v := .tuple #[.agg #[.bool rn, .slice ro (nl rN) rc, .slice so (nl rD) sc], .int .i64 er]) (by simp [results, Tryz.results27, go_sem, z0, z1, z2]) rfl ⟨ro, rc, so, sc, rfl, G1, G2, hb8⟩
set_option maxRecDepth 100000 in
set_option maxHeartbeats 4000000 in
theorem ddivz7_any (n1 n2 : Bool) (xs ys us vs : List Nat) (ao1 bo1 ao2 bo2 : Option Addr) (ac1 bc1 ac2 bc2 : Nat) (w : World) (a1 : NS w ao1 ac1 xs) (b1 : NS w bo1 bc1 ys) (a2 : NS w ao2 ac2 us) (b2 : NS w bo2 bc2 vs) (hL1 : Lm xs) (hM1 : Lm ys) (hL2 : Lm us) (hM2 : Lm vs) (l1 : xs.length ≤ 300) (l2 : ys.length ≤ 300) (_l3 : us.length ≤ 300) (l4 : vs.length ≤ 300) (hR : rtB n1 xs ys = true) (hQ : rtB n2 us vs = true) (h0 : us.length = 0) :
    Calls Tryz.prog 27 #[.agg #[.bool n1, .slice ao1 xs.length ac1, .slice bo1 ys.length bc1], .agg #[.bool n2, .slice ao2 us.length ac2, .slice bo2 vs.length bc2]] w (GaveV w false 0 0 7) := by
  have hs1 : (w.alloc (.cells #[.bool n1, .slice ao1 xs.length ac1, .slice bo1 ys.length bc1] 24)).heap.size = w.heap.size + 1 := by simp
  have hs2 : ((w.alloc (.cells #[.bool n1, .slice ao1 xs.length ac1, .slice bo1 ys.length bc1] 24)).alloc (.cells #[.bool n2, .slice ao2 us.length ac2, .slice bo2 vs.length bc2] 24)).heap.size = w.heap.size + 1 + 1 := by simp
  have XB := ((B3q.new w (.bool n1) (.slice ao1 xs.length ac1) (.slice bo1 ys.length bc1) 24).alloc (.cells #[.bool n2, .slice ao2 us.length ac2, .slice bo2 vs.length bc2] 24)).alloc (.cells #[.bool false, .slice none 0 0, .slice none 0 0] 24)
  have YB := (B3q.new (w.alloc (.cells #[.bool n1, .slice ao1 xs.length ac1, .slice bo1 ys.length bc1] 24)) (.bool n2) (.slice ao2 us.length ac2) (.slice bo2 vs.length bc2) 24).alloc (.cells #[.bool false, .slice none 0 0, .slice none 0 0] 24)
  rw [hs1] at YB
  have OB := B3q.new ((w.alloc (.cells #[.bool n1, .slice ao1 xs.length ac1, .slice bo1 ys.length bc1] 24)).alloc (.cells #[.bool n2, .slice ao2 us.length ac2, .slice bo2 vs.length bc2] 24)) (.bool false) (.slice none 0 0) (.slice none 0 0) 24
  rw [hs2] at OB
  have hb0 : Below w.heap.size w (((w.alloc (.cells #[.bool n1, .slice ao1 xs.length ac1, .slice bo1 ys.length bc1] 24)).alloc (.cells #[.bool n2, .slice ao2 us.length ac2, .slice bo2 vs.length bc2] 24)).alloc (.cells #[.bool false, .slice none 0 0, .slice none 0 0] 24)) := (((Below.refl w.heap.size w).alloc (Nat.le_refl _) _).alloc (by rw [hs1]; omega) _).alloc (by rw [hs2]; omega) _
  have A1 := a1.below hb0
  have B1 := b1.below hb0
  have A2 := a2.below hb0
  have B2 := b2.below hb0
  have r1 := dright7_any n1 xs ys ao1 bo1 ac1 bc1 _ A1 B1 hL1 hM1 (by omega) (by omega)
  rw [hR] at r1
  have r2 := fun W (a : NS W ao2 ac2 us) (b : NS W bo2 bc2 vs) => dright7_any n2 us vs ao2 bo2 ac2 bc2 W a b hL2 hM2 (by omega) (by omega)
  simp only [hQ] at r2
  have i0 : ((us.length : Int) == 0) = true := by rw [beq_iff_eq]; omega
  clear h0
  clear hR hQ hs1 hs2 a1 b1 a2 b2
  go_enter Tryz.func27, Tryz.ntmps27
  go_upto_region 1 with fail
  generalize ((w.alloc (.cells #[.bool n1, .slice ao1 xs.length ac1, .slice bo1 ys.length bc1] 24)).alloc (.cells #[.bool n2, .slice ao2 us.length ac2, .slice bo2 vs.length bc2] 24)).alloc (.cells #[.bool false, .slice none 0 0, .slice none 0 0] 24) = W0 at *
  obtain ⟨x0, x1, x2, _, _, _, _, xlt⟩ := id XB
  obtain ⟨y0, y1, y2, _, _, _, _, ylt⟩ := id YB
  go_wp2_with (first
    | (go_at_call_of 12 (Value.agg #[Value.bool n1, Value.slice ao1 xs.length ac1, Value.slice bo1 ys.length bc1]); refine r1.mono ?_; rintro e w3 ⟨rfl, b3⟩; have hb3 := hb0.trans (b3.mono hb0.size); have XB3 := XB.below b3; have YB3 := YB.below b3; have A13 := A1.below b3; have B13 := B1.below b3; have A23 := A2.below b3; have B23 := B2.below b3; have OB3 := OB.below b3; obtain ⟨yy0, yy1, yy2, _, _, _, _, _⟩ := id YB3)
    | (go_at_call_of 12 (Value.agg #[Value.bool n2, Value.slice ao2 us.length ac2, Value.slice bo2 vs.length bc2]); refine (r2 _ A23 B23).mono ?_; rintro e w4 ⟨rfl, b4⟩; have hb4 := hb3.trans (b4.mono hb3.size); have XB4 := XB3.below b4; have YB4 := YB3.below b4; have A14 := A13.below b4; have B14 := B13.below b4; have A24 := A23.below b4; have B24 := B23.below b4; have OB4 := OB3.below b4; obtain ⟨xx0, xx1, xx2, _, _, _, _, _⟩ := id XB4; obtain ⟨zz0, zz1, zz2, _, _, _, _, _⟩ := id YB4; obtain ⟨p0, p1, p2, s0, s1, s2, _, _⟩ := id OB4))
  exact bodyPost_ret (v := .tuple #[.agg #[.bool false, .slice none 0 0, .slice none 0 0], .int .i64 7]) (by simp [results, Tryz.results27, go_sem, p0, p1, p2]) rfl ⟨none, 0, none, 0, rfl, lsnil _, lsnil _, below_three hb4 (by omega) _ _ _⟩
set_option maxRecDepth 100000 in
set_option maxHeartbeats 4000000 in
theorem dcmpw7_any (n1 n2 : Bool) (xs ys us vs : List Nat) (ao1 bo1 ao2 bo2 : Option Addr) (ac1 bc1 ac2 bc2 : Nat) (w : World) (a1 : NS w ao1 ac1 xs) (b1 : NS w bo1 bc1 ys) (a2 : NS w ao2 ac2 us) (b2 : NS w bo2 bc2 vs) (hL1 : Lm xs) (hM1 : Lm ys) (_hL2 : Lm us) (_hM2 : Lm vs) (l1 : xs.length ≤ 300) (l2 : ys.length ≤ 300) (_l3 : us.length ≤ 300) (_l4 : vs.length ≤ 300) (hR : rtB n1 xs ys = false) :
    Calls Tryz.prog 29 #[.agg #[.bool n1, .slice ao1 xs.length ac1, .slice bo1 ys.length bc1], .agg #[.bool n2, .slice ao2 us.length ac2, .slice bo2 vs.length bc2]] w fun e w' => e = .returned (.tuple #[.int .i64 0, .int .i64 2]) ∧ Below w.heap.size w w' := by
  have hs1 : (w.alloc (.cells #[.bool n1, .slice ao1 xs.length ac1, .slice bo1 ys.length bc1] 24)).heap.size = w.heap.size + 1 := by simp
  have hs2 : ((w.alloc (.cells #[.bool n1, .slice ao1 xs.length ac1, .slice bo1 ys.length bc1] 24)).alloc (.cells #[.bool n2, .slice ao2 us.length ac2, .slice bo2 vs.length bc2] 24)).heap.size = w.heap.size + 1 + 1 := by simp
  have XB := (B3q.new w (.bool n1) (.slice ao1 xs.length ac1) (.slice bo1 ys.length bc1) 24).alloc (.cells #[.bool n2, .slice ao2 us.length ac2, .slice bo2 vs.length bc2] 24)
  have YB := B3q.new (w.alloc (.cells #[.bool n1, .slice ao1 xs.length ac1, .slice bo1 ys.length bc1] 24)) (.bool n2) (.slice ao2 us.length ac2) (.slice bo2 vs.length bc2) 24
  rw [hs1] at YB
  have hb0 : Below w.heap.size w ((w.alloc (.cells #[.bool n1, .slice ao1 xs.length ac1, .slice bo1 ys.length bc1] 24)).alloc (.cells #[.bool n2, .slice ao2 us.length ac2, .slice bo2 vs.length bc2] 24)) := ((Below.refl w.heap.size w).alloc (Nat.le_refl _) _).alloc (by rw [hs1]; omega) _
  have A1 := a1.below hb0
  have B1 := b1.below hb0
  have A2 := a2.below hb0
  have B2 := b2.below hb0
  have r1 := dright7_any n1 xs ys ao1 bo1 ac1 bc1 _ A1 B1 hL1 hM1 (by omega) (by omega)
  rw [hR] at r1
  clear hR hs1 hs2 a1 b1 a2 b2
  go_enter Tryz.func29, Tryz.ntmps29
  go_upto_region 1 with fail
  generalize (w.alloc (.cells #[.bool n1, .slice ao1 xs.length ac1, .slice bo1 ys.length bc1] 24)).alloc (.cells #[.bool n2, .slice ao2 us.length ac2, .slice bo2 vs.length bc2] 24) = W0 at *
  obtain ⟨x0, x1, x2, _, _, _, _, xlt⟩ := id XB
  go_wp2_with (go_at_call_of 12 (Value.agg #[Value.bool n1, Value.slice ao1 xs.length ac1, Value.slice bo1 ys.length bc1]); refine r1.mono ?_; rintro e w3 ⟨rfl, b3⟩; have hb3 := hb0.trans (b3.mono hb0.size); have XB3 := XB.below b3; have YB3 := YB.below b3; have A13 := A1.below b3; have B13 := B1.below b3; have A23 := A2.below b3; have B23 := B2.below b3; obtain ⟨yy0, yy1, yy2, _, _, _, _, _⟩ := id YB3)
  exact bodyPost_ret (v := .tuple #[.int .i64 0, .int .i64 2]) (by simp [results, Tryz.results29, go_sem]) rfl ⟨rfl, hb3⟩
set_option maxRecDepth 100000 in
set_option maxHeartbeats 4000000 in
theorem dcmpx7_any (n1 n2 : Bool) (xs ys us vs : List Nat) (ao1 bo1 ao2 bo2 : Option Addr) (ac1 bc1 ac2 bc2 : Nat) (w : World) (a1 : NS w ao1 ac1 xs) (b1 : NS w bo1 bc1 ys) (a2 : NS w ao2 ac2 us) (b2 : NS w bo2 bc2 vs) (hL1 : Lm xs) (hM1 : Lm ys) (hL2 : Lm us) (hM2 : Lm vs) (l1 : xs.length ≤ 300) (l2 : ys.length ≤ 300) (l3 : us.length ≤ 300) (l4 : vs.length ≤ 300) (hR : rtB n1 xs ys = true) (hQ : rtB n2 us vs = false) :
    Calls Tryz.prog 29 #[.agg #[.bool n1, .slice ao1 xs.length ac1, .slice bo1 ys.length bc1], .agg #[.bool n2, .slice ao2 us.length ac2, .slice bo2 vs.length bc2]] w fun e w' => e = .returned (.tuple #[.int .i64 0, .int .i64 2]) ∧ Below w.heap.size w w' := by
  have hs1 : (w.alloc (.cells #[.bool n1, .slice ao1 xs.length ac1, .slice bo1 ys.length bc1] 24)).heap.size = w.heap.size + 1 := by simp
  have hs2 : ((w.alloc (.cells #[.bool n1, .slice ao1 xs.length ac1, .slice bo1 ys.length bc1] 24)).alloc (.cells #[.bool n2, .slice ao2 us.length ac2, .slice bo2 vs.length bc2] 24)).heap.size = w.heap.size + 1 + 1 := by simp
  have XB := (B3q.new w (.bool n1) (.slice ao1 xs.length ac1) (.slice bo1 ys.length bc1) 24).alloc (.cells #[.bool n2, .slice ao2 us.length ac2, .slice bo2 vs.length bc2] 24)
  have YB := B3q.new (w.alloc (.cells #[.bool n1, .slice ao1 xs.length ac1, .slice bo1 ys.length bc1] 24)) (.bool n2) (.slice ao2 us.length ac2) (.slice bo2 vs.length bc2) 24
  rw [hs1] at YB
  have hb0 : Below w.heap.size w ((w.alloc (.cells #[.bool n1, .slice ao1 xs.length ac1, .slice bo1 ys.length bc1] 24)).alloc (.cells #[.bool n2, .slice ao2 us.length ac2, .slice bo2 vs.length bc2] 24)) := ((Below.refl w.heap.size w).alloc (Nat.le_refl _) _).alloc (by rw [hs1]; omega) _
  have A1 := a1.below hb0
  have B1 := b1.below hb0
  have A2 := a2.below hb0
  have B2 := b2.below hb0
  have r1 := dright7_any n1 xs ys ao1 bo1 ac1 bc1 _ A1 B1 hL1 hM1 (by omega) (by omega)
  rw [hR] at r1
  have r2 := fun W (a : NS W ao2 ac2 us) (b : NS W bo2 bc2 vs) => dright7_any n2 us vs ao2 bo2 ac2 bc2 W a b hL2 hM2 (by omega) (by omega)
  simp only [hQ] at r2
  clear hR hQ hs1 hs2 a1 b1 a2 b2
  go_enter Tryz.func29, Tryz.ntmps29
  go_upto_region 1 with fail
  generalize (w.alloc (.cells #[.bool n1, .slice ao1 xs.length ac1, .slice bo1 ys.length bc1] 24)).alloc (.cells #[.bool n2, .slice ao2 us.length ac2, .slice bo2 vs.length bc2] 24) = W0 at *
  obtain ⟨x0, x1, x2, _, _, _, _, xlt⟩ := id XB
  obtain ⟨y0, y1, y2, _, _, _, _, ylt⟩ := id YB
  go_wp2_with (first
    | (go_at_call_of 12 (Value.agg #[Value.bool n1, Value.slice ao1 xs.length ac1, Value.slice bo1 ys.length bc1]); refine r1.mono ?_; rintro e w3 ⟨rfl, b3⟩; have hb3 := hb0.trans (b3.mono hb0.size); have XB3 := XB.below b3; have YB3 := YB.below b3; have A13 := A1.below b3; have B13 := B1.below b3; have A23 := A2.below b3; have B23 := B2.below b3; obtain ⟨yy0, yy1, yy2, _, _, _, _, _⟩ := id YB3)
    | (go_at_call_of 12 (Value.agg #[Value.bool n2, Value.slice ao2 us.length ac2, Value.slice bo2 vs.length bc2]); refine (r2 _ A23 B23).mono ?_; rintro e w4 ⟨rfl, b4⟩; have hb4 := hb3.trans (b4.mono hb3.size); have XB4 := XB3.below b4; have YB4 := YB3.below b4; have A14 := A13.below b4; have B14 := B13.below b4; have A24 := A23.below b4; have B24 := B23.below b4; obtain ⟨xx0, xx1, xx2, _, _, _, _, _⟩ := id XB4; obtain ⟨zz0, zz1, zz2, _, _, _, _, _⟩ := id YB4))
  exact bodyPost_ret (v := .tuple #[.int .i64 0, .int .i64 2]) (by simp [results, Tryz.results29, go_sem]) rfl ⟨rfl, hb4⟩
set_option maxRecDepth 100000 in
set_option maxHeartbeats 4000000 in
theorem dcmpy7_any (n1 n2 : Bool) (xs ys us vs : List Nat) (ao1 bo1 ao2 bo2 : Option Addr) (ac1 bc1 ac2 bc2 : Nat) (w : World) (a1 : NS w ao1 ac1 xs) (b1 : NS w bo1 bc1 ys) (a2 : NS w ao2 ac2 us) (b2 : NS w bo2 bc2 vs) (hL1 : Lm xs) (hM1 : Lm ys) (hL2 : Lm us) (hM2 : Lm vs) (l1 : xs.length ≤ 300) (l2 : ys.length ≤ 300) (l3 : us.length ≤ 300) (l4 : vs.length ≤ 300) (hR : rtB n1 xs ys = true) (hQ : rtB n2 us vs = true) :
    Calls Tryz.prog 29 #[.agg #[.bool n1, .slice ao1 xs.length ac1, .slice bo1 ys.length bc1], .agg #[.bool n2, .slice ao2 us.length ac2, .slice bo2 vs.length bc2]] w fun e w' => e = .returned (.tuple #[.int .i64 (sgR (smQ n1 (!n2) (vl xs * vl vs) (vl us * vl ys)).1 (smQ n1 (!n2) (vl xs * vl vs) (vl us * vl ys)).2), .int .i64 0]) ∧ Below w.heap.size w w' := by
  have hs1 : (w.alloc (.cells #[.bool n1, .slice ao1 xs.length ac1, .slice bo1 ys.length bc1] 24)).heap.size = w.heap.size + 1 := by simp
  have hs2 : ((w.alloc (.cells #[.bool n1, .slice ao1 xs.length ac1, .slice bo1 ys.length bc1] 24)).alloc (.cells #[.bool n2, .slice ao2 us.length ac2, .slice bo2 vs.length bc2] 24)).heap.size = w.heap.size + 1 + 1 := by simp
  have XB := (B3q.new w (.bool n1) (.slice ao1 xs.length ac1) (.slice bo1 ys.length bc1) 24).alloc (.cells #[.bool n2, .slice ao2 us.length ac2, .slice bo2 vs.length bc2] 24)
  have YB := B3q.new (w.alloc (.cells #[.bool n1, .slice ao1 xs.length ac1, .slice bo1 ys.length bc1] 24)) (.bool n2) (.slice ao2 us.length ac2) (.slice bo2 vs.length bc2) 24
  rw [hs1] at YB
  have hb0 : Below w.heap.size w ((w.alloc (.cells #[.bool n1, .slice ao1 xs.length ac1, .slice bo1 ys.length bc1] 24)).alloc (.cells #[.bool n2, .slice ao2 us.length ac2, .slice bo2 vs.length bc2] 24)) := ((Below.refl w.heap.size w).alloc (Nat.le_refl _) _).alloc (by rw [hs1]; omega) _
  have A1 := a1.below hb0
  have B1 := b1.below hb0
  have A2 := a2.below hb0
  have B2 := b2.below hb0
  have r1 := dright7_any n1 xs ys ao1 bo1 ac1 bc1 _ A1 B1 hL1 hM1 (by omega) (by omega)
  rw [hR] at r1
  have r2 := fun W (a : NS W ao2 ac2 us) (b : NS W bo2 bc2 vs) => dright7_any n2 us vs ao2 bo2 ac2 bc2 W a b hL2 hM2 (by omega) (by omega)
  simp only [hQ] at r2
  have R1 := (rt_right hL1 hM1 hR).2.2
  have R2 := (rt_right hL2 hM2 hQ).2.2
  have m1 : (lo (vl xs)).length ≤ 256 := by rw [lo_length]; exact R1.n
  have m2 : (lo (vl ys)).length ≤ 256 := by rw [lo_length]; exact R1.d
  have m3 : (lo (vl us)).length ≤ 256 := by rw [lo_length]; exact R2.n
  have m4 : (lo (vl vs)).length ≤ 256 := by rw [lo_length]; exact R2.d
  have v1 := fun W a b => value7_any n1 xs ys ao1 bo1 ac1 bc1 W a b hL1 hM1 (by omega) (by omega)
  have v2 := fun W a b => value7_any n2 us vs ao2 bo2 ac2 bc2 W a b hL2 hM2 (by omega) (by omega)
  have z1 := R1.d0
  have z3 := R2.d0
  clear R1 R2
  obtain ⟨N1, eN1⟩ : ∃ q, vl xs = q := ⟨_, rfl⟩
  obtain ⟨D1, eD1⟩ : ∃ q, vl ys = q := ⟨_, rfl⟩
  obtain ⟨N2, eN2⟩ : ∃ q, vl us = q := ⟨_, rfl⟩
  obtain ⟨D2, eD2⟩ : ∃ q, vl vs = q := ⟨_, rfl⟩
  rw [eN1, eD1] at v1
  rw [eN2, eD2] at v2
  rw [eN1] at m1
  rw [eD1] at m2 z1
  rw [eN2] at m3
  rw [eD2] at m4 z3
  rw [eN1, eD1, eN2, eD2]
  clear eN1 eD1 eN2 eD2
  have cp := fun W po1 pc1 qo1 qc1 po2 pc2 qo2 qc2 a b c d => compare7_any n1 n2 N1 D1 N2 D2 po1 qo1 po2 qo2 pc1 qc1 pc2 qc2 W a b c d (by omega) (by omega) (by omega) (by omega)
  obtain ⟨sr, hsr⟩ : ∃ s, sgR (smQ n1 (!n2) (N1 * D2) (N2 * D1)).1 (smQ n1 (!n2) (N1 * D2) (N2 * D1)).2 = s := ⟨_, rfl⟩
  rw [hsr] at cp ⊢
  clear hsr m1 m2 m3 m4
  clear z1 z3
  clear hR hQ hs1 hs2 a1 b1 a2 b2
  go_enter Tryz.func29, Tryz.ntmps29
  go_upto_region 1 with fail
  generalize (w.alloc (.cells #[.bool n1, .slice ao1 xs.length ac1, .slice bo1 ys.length bc1] 24)).alloc (.cells #[.bool n2, .slice ao2 us.length ac2, .slice bo2 vs.length bc2] 24) = W0 at *
  obtain ⟨x0, x1, x2, _, _, _, _, xlt⟩ := id XB
  obtain ⟨y0, y1, y2, _, _, _, _, ylt⟩ := id YB
  go_upto_region 3 with (first
    | (go_at_call_of 12 (Value.agg #[Value.bool n1, Value.slice ao1 xs.length ac1, Value.slice bo1 ys.length bc1]); refine r1.mono ?_; rintro e w3 ⟨rfl, b3⟩; have hb3 := hb0.trans (b3.mono hb0.size); have XB3 := XB.below b3; have YB3 := YB.below b3; have A13 := A1.below b3; have B13 := B1.below b3; have A23 := A2.below b3; have B23 := B2.below b3; obtain ⟨yy0, yy1, yy2, _, _, _, _, _⟩ := id YB3)
    | (go_at_call_of 12 (Value.agg #[Value.bool n2, Value.slice ao2 us.length ac2, Value.slice bo2 vs.length bc2]); refine (r2 _ A23 B23).mono ?_; rintro e w4 ⟨rfl, b4⟩; have hb4 := hb3.trans (b4.mono hb3.size); have XB4 := XB3.below b4; have YB4 := YB3.below b4; have A14 := A13.below b4; have B14 := B13.below b4; have A24 := A23.below b4; have B24 := B23.below b4; obtain ⟨xx0, xx1, xx2, _, _, _, _, _⟩ := id XB4; obtain ⟨zz0, zz1, zz2, _, _, _, _, _⟩ := id YB4))
  clear x0 x1 x2 xlt y0 y1 y2 ylt XB YB XB3 YB3 A1 B1 A2 B2 A13 B13 A23 B23 r1 r2 hb0 hb3 b3 b4
  obtain ⟨x0, x1, x2, _, _, _, _, xlt⟩ := id XB4
  obtain ⟨y0, y1, y2, _, _, _, _, ylt⟩ := id YB4
  obtain ⟨FL, hFL⟩ : ∃ f : Nat → Lz, f = (fun j => match j with | 0 => .is (.agg #[.bool n1, .slice ao1 xs.length ac1, .slice bo1 ys.length bc1]) | 1 => .gn (FrP (n1) N1 D1) (fun _ _ _ h hb => h.below hb) | 2 => .is (.agg #[.bool n2, .slice ao2 us.length ac2, .slice bo2 vs.length bc2]) | 3 => .gn (FrP (n2) N2 D2) (fun _ _ _ h hb => h.below hb) | 4 => .is (.int .i64 sr) | 5 => .is (.int .i64 sr) | 6 => .is (.int .i64 0) | _ => .tr) := ⟨_, rfl⟩
  have F0 := congrFun hFL 0
  have F1 := congrFun hFL 1
  have F2 := congrFun hFL 2
  have F3 := congrFun hFL 3
  have F4 := congrFun hFL 4
  have F5 := congrFun hFL 5
  have F6 := congrFun hFL 6
  simp only at F0 F1 F2 F3 F4 F5 F6
  clear hFL
  refine region_rgU (by kernel_rfl) (fun v => ⟨#[Value.agg #[Value.bool n1, Value.slice ao1 xs.length ac1, Value.slice bo1 ys.length bc1], Value.agg #[Value.bool n2, Value.slice ao2 us.length ac2, Value.slice bo2 vs.length bc2], Value.pointer (some { block := w.heap.size, off := 0 }), Value.pointer (some { block := w.heap.size + 1, off := 0 }), v 5, v 6, Value.agg #[Value.bool n1, Value.slice ao1 xs.length ac1, Value.slice bo1 ys.length bc1], Value.bool true, Value.bool false, Value.bool false, Value.agg #[Value.bool n2, Value.slice ao2 us.length ac2, Value.slice bo2 vs.length bc2], Value.bool true, Value.bool false, Value.bool false, v 0, v 1, v 2, v 3, v 4], []⟩) 1007 (fun j => true) FL (fun _ => True) (fun j => match j with | 5 => Value.int IntKind.i64 0 | 6 => Value.int IntKind.i64 0 | _ => undef) rfl ?_ ?_
  · intro L v w' i hL hS hi
    obtain ⟨h1, h2, h3⟩ := mem_ready hi
    have h1 : i < 7 := h1
    try dsimp only
    have hcs : i = 0 ∨ i = 1 ∨ i = 2 ∨ i = 3 ∨ i = 4 ∨ i = 5 ∨ i = 6 := by omega
    clear h1 h2 h3
    rcases hcs with rfl | rfl | rfl | rfl | rfl | rfl | rfl
    · have hns := hS.open hL hi rfl
      have hB := hS.a hns
      have rx0 : w'.cell? ⟨w.heap.size, 0, none⟩ = some _ := (hB.cell (p := ⟨w.heap.size, 0, none⟩) xlt).trans x0
      have rx1 : w'.cell? ⟨w.heap.size, 1, none⟩ = some _ := (hB.cell (p := ⟨w.heap.size, 1, none⟩) xlt).trans x1
      have rx2 : w'.cell? ⟨w.heap.size, 2, none⟩ = some _ := (hB.cell (p := ⟨w.heap.size, 2, none⟩) xlt).trans x2
      refine wpOpT_of (fun K hK => ?_)
      unfold wpOp
      go_simp
      refine Or.inl ?_
      exact hK _ _ ⟨putT v 0 (.agg #[.bool n1, .slice ao1 xs.length ac1, .slice bo1 ys.length bc1]), (by simp [putT]), hS.step hL hi rfl (by decide) (Below.refl _ _) (Lz.toIs F0)⟩
    · have hns := hS.open hL hi rfl
      have hB := hS.a hns
      have e0 := Lz.ofIs (hS.f hns 0 rfl (ready_dep hi 0 (by kernel_rfl))) F0
      refine wpOpT_of (fun K hK => ?_)
      unfold wpOp
      simp only [e0]
      go_simp
      refine Or.inl ?_
      go_at_call 43
      refine (v1 _ (A14.below hB) (B14.below hB)).mono ?_
      rintro e w1 ⟨po, pc, qo, qc, rfl, m1, m2, bc⟩
      exact hK _ _ ⟨putT v 1 (.agg #[.bool (n1), .slice po (lo N1).length pc, .slice qo (lo D1).length qc]), (by simp [putT, e0]), hS.step hL hi rfl (by decide) (bc) (Lz.toGn F1 (⟨_, _, _, _, rfl, m1, m2⟩))⟩
    · have hns := hS.open hL hi rfl
      have hB := hS.a hns
      have ry0 : w'.cell? ⟨(w.heap.size + 1), 0, none⟩ = some _ := (hB.cell (p := ⟨(w.heap.size + 1), 0, none⟩) ylt).trans y0
      have ry1 : w'.cell? ⟨(w.heap.size + 1), 1, none⟩ = some _ := (hB.cell (p := ⟨(w.heap.size + 1), 1, none⟩) ylt).trans y1
      have ry2 : w'.cell? ⟨(w.heap.size + 1), 2, none⟩ = some _ := (hB.cell (p := ⟨(w.heap.size + 1), 2, none⟩) ylt).trans y2
      refine wpOpT_of (fun K hK => ?_)
      unfold wpOp
      go_simp
      refine Or.inl ?_
      exact hK _ _ ⟨putT v 2 (.agg #[.bool n2, .slice ao2 us.length ac2, .slice bo2 vs.length bc2]), (by simp [putT]), hS.step hL hi rfl (by decide) (Below.refl _ _) (Lz.toIs F2)⟩
    · have hns := hS.open hL hi rfl
      have hB := hS.a hns
      have e2 := Lz.ofIs (hS.f hns 2 rfl (ready_dep hi 2 (by kernel_rfl))) F2
      refine wpOpT_of (fun K hK => ?_)
      unfold wpOp
      simp only [e2]
      go_simp
      refine Or.inl ?_
      go_at_call 43
      refine (v2 _ (A24.below hB) (B24.below hB)).mono ?_
      rintro e w1 ⟨po, pc, qo, qc, rfl, m1, m2, bc⟩
      exact hK _ _ ⟨putT v 3 (.agg #[.bool (n2), .slice po (lo N2).length pc, .slice qo (lo D2).length qc]), (by simp [putT, e2]), hS.step hL hi rfl (by decide) (bc) (Lz.toGn F3 (⟨_, _, _, _, rfl, m1, m2⟩))⟩
    · have hns := hS.open hL hi rfl
      have hB := hS.a hns
      obtain ⟨ao_1, ac_1, bo_1, bc_1, e1, u1, t1⟩ := Lz.ofGn (hS.f hns 1 rfl (ready_dep hi 1 (by kernel_rfl))) F1
      obtain ⟨ao_3, ac_3, bo_3, bc_3, e3, u3, t3⟩ := Lz.ofGn (hS.f hns 3 rfl (ready_dep hi 3 (by kernel_rfl))) F3
      refine wpOpT_of (fun K hK => ?_)
      unfold wpOp
      simp only [e1, e3]
      go_simp
      refine Or.inl ?_
      go_at_call 70
      refine (cp _ _ _ _ _ _ _ _ _ u1 t1 u3 t3).mono ?_
      rintro e w1 ⟨rfl, bc⟩
      exact hK _ _ ⟨putT v 4 (.int .i64 sr), (by simp [putT, e1, e3]), hS.step hL hi rfl (by decide) (bc) (Lz.toIs F4)⟩
    · have hns := hS.open hL hi rfl
      have hB := hS.a hns
      have e4 := Lz.ofIs (hS.f hns 4 rfl (ready_dep hi 4 (by kernel_rfl))) F4
      refine wpOpT_of (fun K hK => ?_)
      unfold wpOp
      simp only [e4]
      go_simp
      refine Or.inl ?_
      exact hK _ _ ⟨putT v 5 (.int .i64 sr), (by simp [putT, e4]), hS.step hL hi rfl (by decide) (Below.refl _ _) (Lz.toIs F5)⟩
    · have hns := hS.open hL hi rfl
      have hB := hS.a hns
      refine wpOpT_of (fun K hK => ?_)
      unfold wpOp
      go_simp
      refine Or.inl ?_
      exact hK _ _ ⟨putT v 6 (.int .i64 0), (by simp [putT]), hS.step hL hi rfl (by decide) (Below.refl _ _) (Lz.toIs F6)⟩
  · intro L v w' hL hS hr
    have on := all_done hL hr (by kernel_rfl)
    have hns : ¬ On L 1007 := onT_over (by rw [hL]; exact Nat.le_of_ble_eq_true (by kernel_rfl))
    have hB := hS.a hns
    have e5 := Lz.ofIs (hS.f hns 5 rfl (on 5 (by decide))) F5
    have e6 := Lz.ofIs (hS.f hns 6 rfl (on 6 (by decide))) F6
    try dsimp only
    rw [e5, e6]
    clear hS on hr hns
    have hb8 := hb4.trans (hB.mono hb4.size)
    go_wp2
    exact bodyPost_ret (v := .tuple #[.int .i64 sr, .int .i64 0]) (by simp [results, Tryz.results29, go_sem]) rfl ⟨rfl, hb8⟩
end Go.Proofs.YtnclddfljghebaaGreatDoor
