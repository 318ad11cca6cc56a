/- RoundNearest, whatever floats it is given: the walk, operation by operation. -/
import Derived.Test.YtalkdjgmblabgabDoorX2
import Derived.Test.YtalkdjgmblabgabDoorX5
namespace Go.Proofs.YtalkdjgmblabgabDoor
open Go.RowKit

theorem o_gt {k x y : Nat} (hx : Ok k x) (hy : Ok k y) {B : Bool} (h : decide (place y < place x) = B) : (FloatKind.f64.format.order x y == some .gt) = B := by
  rw [ord_num hx.1 hy.1 (ok_nan hx) (ok_nan hy), cmp_gt, h]
theorem o_lt {k x y : Nat} (hx : Ok k x) (hy : Ok k y) {B : Bool} (h : decide (place x < place y) = B) : (FloatKind.f64.format.order x y == some .lt) = B := by
  rw [ord_num hx.1 hy.1 (ok_nan hx) (ok_nan hy), cmp_lt, h]
theorem o_eq {k x y : Nat} (hx : Ok k x) (hy : Ok k y) {B : Bool} (h : decide (place x = place y) = B) : (FloatKind.f64.format.order x y == some .eq) = B := by
  rw [ord_num hx.1 hy.1 (ok_nan hx) (ok_nan hy), cmp_eq, h]
theorem o_ne {k x y : Nat} (hx : Ok k x) (hy : Ok k y) {B : Bool} (h : decide (place x = place y) = !B) : (FloatKind.f64.format.order x y != some .eq) = B := by
  unfold bne
  rw [o_eq hx hy h, Bool.not_not]
theorem o_ge {k x y : Nat} (hx : Ok k x) (hy : Ok k y) {B : Bool} (h : decide (place y ≤ place x) = B) : (FloatKind.f64.format.order x y == some .gt || FloatKind.f64.format.order x y == some .eq) = B := by
  rw [ord_num hx.1 hy.1 (ok_nan hx) (ok_nan hy), cmp_gt, cmp_eq, ← Bool.decide_or, ← h]
  exact decide_eq_decide.2 (by omega)
theorem o_le {k x y : Nat} (hx : Ok k x) (hy : Ok k y) {B : Bool} (h : decide (place x ≤ place y) = B) : (FloatKind.f64.format.order x y == some .lt || FloatKind.f64.format.order x y == some .eq) = B := by
  rw [ord_num hx.1 hy.1 (ok_nan hx) (ok_nan hy), cmp_lt, cmp_eq, ← Bool.decide_or, ← h]
  exact decide_eq_decide.2 (by omega)
theorem ok_zero (k : Nat) : Ok k 0 := ⟨by omega, by decide, fun _ => Or.inl rfl⟩
theorem did_is {k a b c : Nat} {m : Int} {v : Nat} (hk : k ≤ 5) (h : Ask k a b c) (e : dO k a b c m = some v) (w : World) (hT : TabW w) :
    Calls Tryd.prog 9 #[.int .i64 k, .float .f64 a, .float .f64 b, .float .f64 c, .int .i8 m] w fun e w' => e = .returned (.float .f64 v) ∧ Below w.heap.size w w' := by
  refine (did_all k a b c m hk h.ha h.hb h.hc w hT).mono ?_
  rintro r w' ⟨q, rfl, h1, h2⟩
  rw [e] at h1
  have e2 : q = v := h1.2
  rw [e2]
  exact ⟨rfl, h2⟩
end Go.Proofs.YtalkdjgmblabgabDoor

namespace Go.Proofs.YtalkdjgmblabgabDoor
open Go.RowKit

set_option maxHeartbeats 400000 in
theorem pick4 (x m : Int) (h : x % 4 = m) (w : World) : Calls Tryd.prog 6 #[.int .i64 x, .int .i64 4] w fun e w' => e = .returned (.int .i64 m) ∧ w' = w := by
  have b1 : x.tmod 4 < 4 := Int.tmod_lt_of_pos x (by omega)
  have b2 : -4 < x.tmod 4 := by
    have := Int.tmod_lt_of_pos (-x) (show (0 : Int) < 4 by omega)
    rw [Int.neg_tmod] at this
    omega
  have b3 : x.tmod 4 = m ∨ x.tmod 4 + 4 = m := by
    have h1 := Int.tmod_add_mul_tdiv x 4
    generalize x.tmod 4 = y at *
    generalize x.tdiv 4 = z at *
    omega
  by_cases hn : x.tmod 4 < 0
  · have HM : Hid (x.tmod 4 + 4 = m) := (show x.tmod 4 + 4 = m by omega)
    generalize hy : x.tmod 4 = y at *
    clear b1 b3 h
    go_enter Tryd.func6, Tryd.ntmps6
    go_wp2
    go_ret
    exact ⟨congrArg (fun v => Ending.returned (Value.int .i64 v)) (by have := HM.out; first | omega | (unfold wrap64; omega)), rfl⟩
  · have HM : Hid (x.tmod 4 = m) := (show x.tmod 4 = m by omega)
    generalize hy : x.tmod 4 = y at *
    clear b2 b3 h
    go_enter Tryd.func6, Tryd.ntmps6
    go_wp2
    go_ret
    exact ⟨congrArg (fun v => Ending.returned (Value.int .i64 v)) HM.out, rfl⟩
theorem vI_le {k x : Nat} (h : Ok k x) : ∃ U, U = 2098 ∧ (vI x).natAbs ≤ 2 ^ U := by
  obtain ⟨U, hU, hv⟩ := val_inf
  refine ⟨U, hU, ?_⟩
  have e : (vI x).natAbs = val (rung x) := by unfold vI; split <;> omega
  rw [e, ← hv]
  exact val_le_D h.2.1
theorem mid_bl {k x y : Nat} (hx : Ok k x) (hy : Ok k y) : bl ((vI x * 2 ^ twP + vI y * 2 ^ twP)).natAbs ≤ 16384 := by
  obtain ⟨U, hU, ux⟩ := vI_le hx
  obtain ⟨V, hV, uy⟩ := vI_le hy
  have e : V = U := by omega
  subst e
  refine bl_sm (n := V + 2 + twP) ?_ (by unfold twP; omega)
  rw [← Int.add_mul, Int.natAbs_mul, pw_abs, Nat.pow_add _ (V + 2)]
  refine Nat.mul_lt_mul_of_pos_right ?_ (Nat.two_pow_pos _)
  have := Nat.two_pow_pos V
  rw [Nat.pow_add]
  omega
theorem ex_bd {op a b c : Nat} (h : Ask op a b c) : bl (2 * exO op a b c).natAbs ≤ 16384 := by
  obtain ⟨V, hV⟩ : ∃ V : Nat, V = 2098 := ⟨_, rfl⟩
  have va := vI_lt h.fa hV
  have vb := vI_lt h.fb hV
  have vc := vI_lt h.fc hV
  have hT := Nat.two_pow_pos twP
  have h1 : (vI a * vI b).natAbs < 2 ^ (V + V) := by
    rw [Int.natAbs_mul, Nat.pow_add]
    exact Nat.mul_lt_mul_of_lt_of_le va (Nat.le_of_lt vb) (Nat.two_pow_pos _)
  have h2 : ∀ z : Int, z.natAbs < 2 ^ V + 2 ^ V → (z * 2 ^ twP).natAbs < 2 ^ (V + V) := fun z hz => by
    rw [Int.natAbs_mul, pw_abs]
    have h3 : z.natAbs * 2 ^ twP < 2 ^ (V + 1) * 2 ^ twP := Nat.mul_lt_mul_of_pos_right (by rw [Nat.pow_succ]; omega) hT
    rw [← Nat.pow_add] at h3
    exact Nat.lt_of_lt_of_le h3 (pw_le (by unfold twP; omega))
  have h3 : (exO op a b c).natAbs < 2 ^ (V + V) + 2 ^ (V + V) := by
    unfold exO
    split
    · have := h2 (vI a + vI b) (by omega); omega
    · have := h2 (vI a - vI b) (by omega); omega
    · omega
    · rw [exX_sum]
      have := h2 (vI c) (by omega)
      omega
  refine bl_sm (n := V + V + 2) ?_ (by omega)
  rw [Nat.pow_add]
  omega
set_option maxRecDepth 100000 in
set_option maxHeartbeats 8000000 in
theorem near_0 (x : Int) (a b c : Nat) (hx : x % 4 = 0) (ha : a < 18446744073709551616) (hb : b < 18446744073709551616) (hc : c < 18446744073709551616) (w : World) (hT : TabW w) :
    Calls Tryd.prog 3 #[.int .i64 x, .float .f64 a, .float .f64 b, .float .f64 c] w fun e w' => e = .returned (.bool true) ∧ Below w.heap.size w w' := by
  have HB : Below w.heap.size w w := Below.refl _ _
  have cp := pick4 x 0 hx
  clear hx
  have HBa := bth3 HB (bal w (.cells #[.int .i64 0, .int .i64 1, .int .i64 2, .int .i64 5] 3))
  have hTa := tabW_alloc hT (.cells #[.int .i64 0, .int .i64 1, .int .i64 2, .int .i64 5] 3)
  go_enter Tryd.func3, Tryd.ntmps3
  go_upto_if 35 with (first
    | (go_at_call 6; refine (cp _).mono ?_; rintro e w' ⟨rfl, h'⟩; subst w')
    | (go_at_call 7; refine (asks_all 0 a b c (by omega) ha hb hc _).mono ?_; rintro e wz ⟨B, rfl, hAsk, bz⟩; replace HB := bth3 HBa bz; have hT := tabW_below hTa bz))
  cases B
  · go_wp2_with (go_at_call 8; refine (rawake _ hT).mono ?_; rintro e wz ⟨rfl, bz⟩; replace HB := bth3 HB bz)
    go_ret
    exact ⟨rfl, HB⟩
  have hA := hAsk rfl
  clear hAsk cp HBa hTa
  obtain ⟨lo, hi, ne, e1, e2, e0, kl, kh, kn, hcase⟩ := four_near (by omega) hA
  have d1 := fun w h => did_is (k := 0) (by omega) hA e1 w h
  have d2 := fun w h => did_is (k := 0) (by omega) hA e2 w h
  have d0 := fun w h => did_is (k := 0) (by omega) hA e0 w h
  clear e1 e2 e0
  go_upto_region 5 with (first
    | (go_at_call_of 9 (Value.int IntKind.i8 1); refine (d1 _ hT).mono ?_; rintro e wz ⟨rfl, bz⟩; replace HB := bth3 HB bz; have hT := tabW_below hT bz)
    | (go_at_call_of 9 (Value.int IntKind.i8 2); refine (d2 _ hT).mono ?_; rintro e wz ⟨rfl, bz⟩; replace HB := bth3 HB bz; have hT := tabW_below hT bz)
    | (go_at_call_of 9 (Value.int IntKind.i8 0); refine (d0 _ hT).mono ?_; rintro e wz ⟨rfl, bz⟩; replace HB := bth3 HB bz; have hT := tabW_below hT bz))
  clear d0 d1 d2
  rcases hcase with ⟨p1, p2⟩ | ⟨p1, hX0, p4, hM⟩
  · have o2 := o_eq kl kh (B := true) (decide_eq_true (by omega))
    have o4 := o_eq kn kl (B := true) (decide_eq_true (by omega))
    clear p1 p2
    go_wp2_with (go_at_call 8; refine (rawake _ hT).mono ?_; rintro e wz ⟨rfl, bz⟩; replace HB := bth3 HB bz)
    go_ret
    exact ⟨rfl, HB⟩
  have o2 := o_eq kl kh (B := false) (decide_eq_false (by omega))
  obtain ⟨X, eX, FX⟩ := fd_of hA.fa
  obtain ⟨Y, eY, FY⟩ := fd_of hA.fb
  obtain ⟨Z, eZ, FZ⟩ := fd_of hA.fc
  obtain ⟨L, FL, cL⟩ := ends_any lo kl.1 kl.2.1
  obtain ⟨H, FH, cH⟩ := ends_any hi kh.1 kh.2.1
  have hbm := mid_bl kl kh
  have FS := fd_dz hbm
  have eS := fd_add FL FH hbm
  generalize dz (vI lo * 2 ^ twP + vI hi * 2 ^ twP) = S at *
  have hb3 := ex_bd hA
  have ev : exO 0 a b c = vI a * 2 ^ twP + vI b * 2 ^ twP := by show (vI a + vI b) * 2 ^ twP = _; rw [Int.add_mul]
  have hb2 : bl (vI a * 2 ^ twP + vI b * 2 ^ twP).natAbs ≤ 16384 := by
    rw [← ev]
    obtain ⟨G, hG⟩ : ∃ G : Nat, G = 16384 := ⟨_, rfl⟩
    rw [← hG] at hb3 ⊢
    exact bl_le_iff.2 (Nat.lt_of_le_of_lt (by rw [Int.natAbs_mul]; exact Nat.le_mul_of_pos_left _ (by decide)) (bl_le_iff.1 hb3))
  have eE := fd_add FX FY hb2
  have FE := fd_dz hb2
  generalize dz (vI a * 2 ^ twP + vI b * 2 ^ twP) = E at *
  unfold midS at hM
  rw [ev] at hX0 hb3 hM
  have eK := fd_scale FE hX0 hb3
  have FK := fd_dz hb3
  rw [Int.add_mul] at hM
  have hg := fd_cmp FK FS
  generalize dz (2 * (vI a * 2 ^ twP + vI b * 2 ^ twP)) = K at *
  rw [← hg] at hM
  have gb := sgI_bd (qd K - qd S)
  have oK := fun ao bo cap bcap w h1 h2 => Cmp_right K S ao bo cap bcap w h1 h2 FK.2.1 FS.2.1 FK.1 FS.1
  clear hg
  generalize sgI (qd K - qd S) = g at *
  have od := fun w h => dyads_any a b c X Y Z ha hb hc eX eY eZ w h
  have oS := fun ao bo cap bcap w h1 h2 h3 => Add_any L H ao bo cap bcap w h1 h2 FL.2.1 FH.2.1 h3
  rw [eS] at oS
  have oE := fun ao bo cap bcap w h1 h2 h3 => Add_any X Y ao bo cap bcap w h1 h2 FX.2.1 FY.2.1 h3
  rw [eE] at oE
  have oC := fun ao cap w h => scale_any E 1 ao cap w h FE.2.1
  rw [eK] at oC
  have cpl := place_any lo kl.1
  rw [show plc lo = place lo by unfold plc; rw [ok_nan kl]; rfl] at cpl
  have x1 := o_eq kn kl rfl
  have x2 := o_eq kn kh rfl
  clear eX eY eZ eS eE eK FX FY FZ FL FH FS FE FK hbm hb2 hb3 hX0 ev hA
  go_upto_region 8 with (go_at_call 10; refine (od _ hT).mono ?_; rintro e w1 ⟨ax, cx, ay, cy, az, cz, rfl, rx, ry, rz, b1⟩)
  obtain ⟨HX, HY, HZ, s3, B4⟩ := three_box3 (cx := cx) (cy := cy) (cz := cz) rx ry rz
  have hT3 := tabW_below (tabW_below hT b1) B4
  have B3 := bth3 (bth3 HB b1) B4
  generalize ((w1.alloc (.cells #[.bool X.neg, .slice ax X.mag.length cx, .int .i64 X.exp] 32)).alloc (.cells #[.bool Y.neg, .slice ay Y.mag.length cy, .int .i64 Y.exp] 32)).alloc (.cells #[.bool Z.neg, .slice az Z.mag.length cz, .int .i64 Z.exp] 32) = W3 at *
  generalize w1.heap.size = n1 at *
  clear rx ry rz b1 s3 od B4 HB hT
  go_upto_region 9 with (go_at_call 11; refine (cL _ hT3).mono ?_; rintro e w2 ⟨al, cl, rfl, rl, b2⟩)
  have hT4 := tabW_below hT3 (bth3 b2 (bal w2 (.cells #[.bool L.neg, .slice al L.mag.length cl, .int .i64 L.exp] 32)))
  have B4 := bth3 (bth3 B3 b2) (bal w2 (.cells #[.bool L.neg, .slice al L.mag.length cl, .int .i64 L.exp] 32))
  have HX4 := (HX.below b2).below (bal w2 (.cells #[.bool L.neg, .slice al L.mag.length cl, .int .i64 L.exp] 32))
  have HY4 := (HY.below b2).below (bal w2 (.cells #[.bool L.neg, .slice al L.mag.length cl, .int .i64 L.exp] 32))
  have HZ4 := (HZ.below b2).below (bal w2 (.cells #[.bool L.neg, .slice al L.mag.length cl, .int .i64 L.exp] 32))
  have HL4 := Hd.new (d := L) (cap := cl) rl
  generalize w2.alloc (.cells #[.bool L.neg, .slice al L.mag.length cl, .int .i64 L.exp] 32) = W4 at *
  generalize w2.heap.size = n2 at *
  clear rl b2 cL HX HY HZ B3 hT3
  go_upto_region 10 with (go_at_call 11; refine (cH _ hT4).mono ?_; rintro e w3 ⟨ah, ch, rfl, rh, b3⟩)
  have hT5 := tabW_below hT4 (bth3 b3 (bal w3 (.cells #[.bool H.neg, .slice ah H.mag.length ch, .int .i64 H.exp] 32)))
  have B5 := bth3 (bth3 B4 b3) (bal w3 (.cells #[.bool H.neg, .slice ah H.mag.length ch, .int .i64 H.exp] 32))
  have HX5 := (HX4.below b3).below (bal w3 (.cells #[.bool H.neg, .slice ah H.mag.length ch, .int .i64 H.exp] 32))
  have HY5 := (HY4.below b3).below (bal w3 (.cells #[.bool H.neg, .slice ah H.mag.length ch, .int .i64 H.exp] 32))
  have HZ5 := (HZ4.below b3).below (bal w3 (.cells #[.bool H.neg, .slice ah H.mag.length ch, .int .i64 H.exp] 32))
  have HL5 := (HL4.below b3).below (bal w3 (.cells #[.bool H.neg, .slice ah H.mag.length ch, .int .i64 H.exp] 32))
  have HH5 := Hd.new (d := H) (cap := ch) rh
  generalize w3.alloc (.cells #[.bool H.neg, .slice ah H.mag.length ch, .int .i64 H.exp] 32) = W5 at *
  generalize w3.heap.size = n3 at *
  clear rh b3 cH HX4 HY4 HZ4 HL4 B4 hT4
  have l0 := HL5.c0
  have l1 := HL5.c1
  have l2 := HL5.c2
  have h0 := HH5.c0
  have h1 := HH5.c1
  have h2 := HH5.c2
  go_upto_region 13 with (go_at_call 12; refine (oS _ _ _ _ _ HL5.row HH5.row hT5).mono ?_; rintro e w4 ⟨as_, cs, rfl, rs, _, b4⟩)
  have hT6 := tabW_below hT5 (bth3 b4 (bal w4 (.cells #[.bool S.neg, .slice as_ S.mag.length cs, .int .i64 S.exp] 32)))
  have B6 := bth3 (bth3 B5 b4) (bal w4 (.cells #[.bool S.neg, .slice as_ S.mag.length cs, .int .i64 S.exp] 32))
  have HX6 := (HX5.below b4).below (bal w4 (.cells #[.bool S.neg, .slice as_ S.mag.length cs, .int .i64 S.exp] 32))
  have HY6 := (HY5.below b4).below (bal w4 (.cells #[.bool S.neg, .slice as_ S.mag.length cs, .int .i64 S.exp] 32))
  have HZ6 := (HZ5.below b4).below (bal w4 (.cells #[.bool S.neg, .slice as_ S.mag.length cs, .int .i64 S.exp] 32))
  have HS6 := Hd.new (d := S) (cap := cs) rs
  generalize w4.alloc (.cells #[.bool S.neg, .slice as_ S.mag.length cs, .int .i64 S.exp] 32) = V0 at *
  generalize w4.heap.size = n4 at *
  clear rs b4 oS HX5 HY5 HZ5 HL5 HH5 B5 hT5 l0 l1 l2 h0 h1 h2
  have x0 := HX6.c0
  have x3 := HX6.c1
  have x4 := HX6.c2
  go_upto_region 19 with fail
  obtain ⟨V5, hV5⟩ : ∃ V5, V0.alloc (.cells #[.bool X.neg, .slice ax X.mag.length cx, .int .i64 X.exp] 32) = V5 := ⟨_, rfl⟩
  have HE5 : Hd V5 V0.heap.size X ax cx := by rw [← hV5]; exact Hd.new HX6.row
  have ZE5 : Fzr V5 V0.heap.size := by rw [← hV5]; exact fz_new _ _ _ _
  have BV5 : Below V0.heap.size V0 V5 := by rw [← hV5]; exact bal _ _
  have sV5 : V0.heap.size < V5.heap.size := by rw [← hV5]; simp
  rw [hV5]
  clear hV5 x0 x3 x4
  have HX7 := HX6.below BV5
  have HY7 := HY6.below BV5
  have hT7 := tabW_below hT6 BV5
  have x0 := HX7.c0
  have x3 := HX7.c1
  have x4 := HX7.c2
  have y0 := HY7.c0
  have y1 := HY7.c1
  have y2 := HY7.c2
  generalize hP : V0.heap.size = P at *
  go_upto_region 24 with (go_at_call 12; refine (oE _ _ _ _ _ HX7.row HY7.row hT7).mono ?_; rintro e v6 ⟨ae, ce, rfl, re, fe, b6⟩; have HE6 := HE5.six ZE5 b6; have k0 := HE6.1.c0; have k1 := HE6.1.c1; have k2 := HE6.1.c2; obtain ⟨f0, f1, f2⟩ := HE6.2)
  have P3 := put3r (c := ce) (E := E) HE6.1 HE6.2 re fe sV5
  have B7 : Below P V0 _ := (((BV5.trans (b6.mono (Nat.le_of_lt sV5))).setCell (p := ⟨P, 0, none⟩) (Nat.le_refl _) (.bool E.neg)).setCell (p := ⟨P, 1, none⟩) (Nat.le_refl _) (.slice ae E.mag.length ce)).setCell (p := ⟨P, 2, none⟩) (Nat.le_refl _) (.int .i64 E.exp)
  have s7 := World.block_lt_of_cell? _ _ P3.1.c0
  try simp only at s7
  clear k0 k1 k2 f0 f1 f2 HE6 x0 x3 x4 y0 y1 y2
  generalize ((v6.setCell ⟨P, 0, none⟩ (.bool E.neg)).setCell ⟨P, 1, none⟩ (.slice ae E.mag.length ce)).setCell ⟨P, 2, none⟩ (.int .i64 E.exp) = V7 at *
  have q0 := P3.1.c0
  have q1 := P3.1.c1
  have q2 := P3.1.c2
  go_upto_region 25 with (go_at_call 15; refine (oC _ _ _ P3.1.row).mono ?_; rintro e v9 ⟨ak, ck, rfl, rk, fk, b9⟩; have HE6 := P3.1.six P3.2 b9; have k0 := HE6.1.c0; have k1 := HE6.1.c1; have k2 := HE6.1.c2; obtain ⟨f0, f1, f2⟩ := HE6.2)
  have P9 := put3r (c := ck) (E := K) HE6.1 HE6.2 rk fk s7
  have B9 : Below P V0 _ := (((B7.trans (b9.mono (Nat.le_of_lt s7))).setCell (p := ⟨P, 0, none⟩) (Nat.le_refl _) (.bool K.neg)).setCell (p := ⟨P, 1, none⟩) (Nat.le_refl _) (.slice ak K.mag.length ck)).setCell (p := ⟨P, 2, none⟩) (Nat.le_refl _) (.int .i64 K.exp)
  clear k0 k1 k2 f0 f1 f2 HE6 q0 q1 q2
  generalize ((v9.setCell ⟨P, 0, none⟩ (.bool K.neg)).setCell ⟨P, 1, none⟩ (.slice ak K.mag.length ck)).setCell ⟨P, 2, none⟩ (.int .i64 K.exp) = V9 at *
  rw [← hP] at B9
  have HS9 := HS6.below B9
  have hT9 := tabW_below hT6 B9
  have BW := bth3 B6 B9
  have q0 := P9.1.c0
  have q1 := P9.1.c1
  have q2 := P9.1.c2
  have t0 := HS9.c0
  have t1 := HS9.c1
  have t2 := HS9.c2
  have rK := P9.1.row
  have rS := HS9.row
  clear P9 HS9 B9 B7 B6 HS6 HX6 HY6 HZ6 hT6
  go_upto_region 29 with (first
    | (go_at_call 16; refine (oK _ _ _ _ _ rK rS).mono ?_; rintro e va ⟨rfl, ba⟩; have BW := bth3 BW ba; have hT9 := tabW_below hT9 ba)
    | (go_at_call 17; refine (cpl _).mono ?_; rintro e w' ⟨rfl, h'⟩; subst w'))
  obtain ⟨m1, m2, m3⟩ := hM
  have y5 : (place lo).tmod 2 = 0 ↔ place lo % 2 = 0 := by
    have z1 := Int.tmod_add_mul_tdiv (place lo) 2
    have z2 : (place lo).tmod 2 < 2 := Int.tmod_lt_of_pos _ (by omega)
    have z3 := Int.tmod_lt_of_pos (-place lo) (show (0 : Int) < 2 by omega)
    rw [Int.neg_tmod] at z3
    generalize (place lo).tmod 2 = y at *
    generalize (place lo).tdiv 2 = z at *
    omega
  generalize hpl : (place lo).tmod 2 = t at *
  rcases Int.lt_trichotomy g 0 with c0 | c0 | c0
  · have r := m2 c0
    rw [decide_eq_true r] at x1
    rw [decide_eq_false (by omega)] at x2
    have g1 : ¬ g = 0 := by omega
    have g2 : ¬ 0 < g := by omega
    clear m1 m2 m3 p1 p4 r y5 hpl gb
    go_wp2_with (go_at_call 8; refine (rawake _ hT9).mono ?_; rintro e wz ⟨rfl, bz⟩; replace BW := bth3 BW bz)
    go_ret
    exact ⟨rfl, BW⟩
  · subst c0
    have r := m1 rfl
    by_cases hev : place lo % 2 = 0
    · have r2 := r.2 hev
      rw [decide_eq_true r2] at x1
      rw [decide_eq_false (by omega)] at x2
      have t0' : t = 0 := y5.2 hev
      subst t0'
      clear m1 m2 m3 p1 p4 r r2 y5 hev gb
      go_wp2_with (go_at_call 8; refine (rawake _ hT9).mono ?_; rintro e wz ⟨rfl, bz⟩; replace BW := bth3 BW bz)
      go_ret
      exact ⟨rfl, BW⟩
    · have r2 : ¬ place ne = place lo := fun h => hev (r.1 h)
      rw [decide_eq_false r2] at x1
      rw [decide_eq_true (by omega)] at x2
      have t0' : ¬ t = 0 := fun h => hev (y5.1 h)
      have t3 : (t == 0) = false := by simpa using t0'
      have t4 : (t != 0) = true := by simpa using t0'
      clear m1 m2 m3 p1 p4 r r2 y5 hev gb
      go_wp2_with (go_at_call 8; refine (rawake _ hT9).mono ?_; rintro e wz ⟨rfl, bz⟩; replace BW := bth3 BW bz)
      go_ret
      exact ⟨rfl, BW⟩
  · have r := m3 c0
    rw [decide_eq_false (by omega)] at x1
    rw [decide_eq_true r] at x2
    have g1 : ¬ g = 0 := by omega
    have g2 : ¬ g < 0 := by omega
    clear m1 m2 m3 p1 p4 r y5 hpl gb
    go_wp2_with (go_at_call 8; refine (rawake _ hT9).mono ?_; rintro e wz ⟨rfl, bz⟩; replace BW := bth3 BW bz)
    go_ret
    exact ⟨rfl, BW⟩
set_option maxRecDepth 100000 in
set_option maxHeartbeats 8000000 in
theorem near_1 (x : Int) (a b c : Nat) (hx : x % 4 = 1) (ha : a < 18446744073709551616) (hb : b < 18446744073709551616) (hc : c < 18446744073709551616) (w : World) (hT : TabW w) :
    Calls Tryd.prog 3 #[.int .i64 x, .float .f64 a, .float .f64 b, .float .f64 c] w fun e w' => e = .returned (.bool true) ∧ Below w.heap.size w w' := by
  have HB : Below w.heap.size w w := Below.refl _ _
  have cp := pick4 x 1 hx
  clear hx
  have HBa := bth3 HB (bal w (.cells #[.int .i64 0, .int .i64 1, .int .i64 2, .int .i64 5] 3))
  have hTa := tabW_alloc hT (.cells #[.int .i64 0, .int .i64 1, .int .i64 2, .int .i64 5] 3)
  go_enter Tryd.func3, Tryd.ntmps3
  go_upto_if 35 with (first
    | (go_at_call 6; refine (cp _).mono ?_; rintro e w' ⟨rfl, h'⟩; subst w')
    | (go_at_call 7; refine (asks_all 1 a b c (by omega) ha hb hc _).mono ?_; rintro e wz ⟨B, rfl, hAsk, bz⟩; replace HB := bth3 HBa bz; have hT := tabW_below hTa bz))
  cases B
  · go_wp2_with (go_at_call 8; refine (rawake _ hT).mono ?_; rintro e wz ⟨rfl, bz⟩; replace HB := bth3 HB bz)
    go_ret
    exact ⟨rfl, HB⟩
  have hA := hAsk rfl
  clear hAsk cp HBa hTa
  obtain ⟨lo, hi, ne, e1, e2, e0, kl, kh, kn, hcase⟩ := four_near (by omega) hA
  have d1 := fun w h => did_is (k := 1) (by omega) hA e1 w h
  have d2 := fun w h => did_is (k := 1) (by omega) hA e2 w h
  have d0 := fun w h => did_is (k := 1) (by omega) hA e0 w h
  clear e1 e2 e0
  go_upto_region 5 with (first
    | (go_at_call_of 9 (Value.int IntKind.i8 1); refine (d1 _ hT).mono ?_; rintro e wz ⟨rfl, bz⟩; replace HB := bth3 HB bz; have hT := tabW_below hT bz)
    | (go_at_call_of 9 (Value.int IntKind.i8 2); refine (d2 _ hT).mono ?_; rintro e wz ⟨rfl, bz⟩; replace HB := bth3 HB bz; have hT := tabW_below hT bz)
    | (go_at_call_of 9 (Value.int IntKind.i8 0); refine (d0 _ hT).mono ?_; rintro e wz ⟨rfl, bz⟩; replace HB := bth3 HB bz; have hT := tabW_below hT bz))
  clear d0 d1 d2
  rcases hcase with ⟨p1, p2⟩ | ⟨p1, hX0, p4, hM⟩
  · have o2 := o_eq kl kh (B := true) (decide_eq_true (by omega))
    have o4 := o_eq kn kl (B := true) (decide_eq_true (by omega))
    clear p1 p2
    go_wp2_with (go_at_call 8; refine (rawake _ hT).mono ?_; rintro e wz ⟨rfl, bz⟩; replace HB := bth3 HB bz)
    go_ret
    exact ⟨rfl, HB⟩
  have o2 := o_eq kl kh (B := false) (decide_eq_false (by omega))
  obtain ⟨X, eX, FX⟩ := fd_of hA.fa
  obtain ⟨Y, eY, FY⟩ := fd_of hA.fb
  obtain ⟨Z, eZ, FZ⟩ := fd_of hA.fc
  obtain ⟨L, FL, cL⟩ := ends_any lo kl.1 kl.2.1
  obtain ⟨H, FH, cH⟩ := ends_any hi kh.1 kh.2.1
  have hbm := mid_bl kl kh
  have FS := fd_dz hbm
  have eS := fd_add FL FH hbm
  generalize dz (vI lo * 2 ^ twP + vI hi * 2 ^ twP) = S at *
  have hb3 := ex_bd hA
  have ev : exO 1 a b c = vI a * 2 ^ twP - vI b * 2 ^ twP := by show (vI a - vI b) * 2 ^ twP = _; rw [Int.sub_mul]
  have hb2 : bl (vI a * 2 ^ twP - vI b * 2 ^ twP).natAbs ≤ 16384 := by
    rw [← ev]
    obtain ⟨G, hG⟩ : ∃ G : Nat, G = 16384 := ⟨_, rfl⟩
    rw [← hG] at hb3 ⊢
    exact bl_le_iff.2 (Nat.lt_of_le_of_lt (by rw [Int.natAbs_mul]; exact Nat.le_mul_of_pos_left _ (by decide)) (bl_le_iff.1 hb3))
  have eE := fd_sub FX FY hb2
  have FE := fd_dz hb2
  generalize dz (vI a * 2 ^ twP - vI b * 2 ^ twP) = E at *
  unfold midS at hM
  rw [ev] at hX0 hb3 hM
  have eK := fd_scale FE hX0 hb3
  have FK := fd_dz hb3
  rw [Int.add_mul] at hM
  have hg := fd_cmp FK FS
  generalize dz (2 * (vI a * 2 ^ twP - vI b * 2 ^ twP)) = K at *
  rw [← hg] at hM
  have gb := sgI_bd (qd K - qd S)
  have oK := fun ao bo cap bcap w h1 h2 => Cmp_right K S ao bo cap bcap w h1 h2 FK.2.1 FS.2.1 FK.1 FS.1
  clear hg
  generalize sgI (qd K - qd S) = g at *
  have od := fun w h => dyads_any a b c X Y Z ha hb hc eX eY eZ w h
  have oS := fun ao bo cap bcap w h1 h2 h3 => Add_any L H ao bo cap bcap w h1 h2 FL.2.1 FH.2.1 h3
  rw [eS] at oS
  have oE := fun ao bo cap bcap w h1 h2 h3 => Sub_any X Y ao bo cap bcap w h1 h2 FX.2.1 FY.2.1 h3
  rw [eE] at oE
  have oC := fun ao cap w h => scale_any E 1 ao cap w h FE.2.1
  rw [eK] at oC
  have cpl := place_any lo kl.1
  rw [show plc lo = place lo by unfold plc; rw [ok_nan kl]; rfl] at cpl
  have x1 := o_eq kn kl rfl
  have x2 := o_eq kn kh rfl
  clear eX eY eZ eS eE eK FX FY FZ FL FH FS FE FK hbm hb2 hb3 hX0 ev hA
  go_upto_region 8 with (go_at_call 10; refine (od _ hT).mono ?_; rintro e w1 ⟨ax, cx, ay, cy, az, cz, rfl, rx, ry, rz, b1⟩)
  obtain ⟨HX, HY, HZ, s3, B4⟩ := three_box3 (cx := cx) (cy := cy) (cz := cz) rx ry rz
  have hT3 := tabW_below (tabW_below hT b1) B4
  have B3 := bth3 (bth3 HB b1) B4
  generalize ((w1.alloc (.cells #[.bool X.neg, .slice ax X.mag.length cx, .int .i64 X.exp] 32)).alloc (.cells #[.bool Y.neg, .slice ay Y.mag.length cy, .int .i64 Y.exp] 32)).alloc (.cells #[.bool Z.neg, .slice az Z.mag.length cz, .int .i64 Z.exp] 32) = W3 at *
  generalize w1.heap.size = n1 at *
  clear rx ry rz b1 s3 od B4 HB hT
  go_upto_region 9 with (go_at_call 11; refine (cL _ hT3).mono ?_; rintro e w2 ⟨al, cl, rfl, rl, b2⟩)
  have hT4 := tabW_below hT3 (bth3 b2 (bal w2 (.cells #[.bool L.neg, .slice al L.mag.length cl, .int .i64 L.exp] 32)))
  have B4 := bth3 (bth3 B3 b2) (bal w2 (.cells #[.bool L.neg, .slice al L.mag.length cl, .int .i64 L.exp] 32))
  have HX4 := (HX.below b2).below (bal w2 (.cells #[.bool L.neg, .slice al L.mag.length cl, .int .i64 L.exp] 32))
  have HY4 := (HY.below b2).below (bal w2 (.cells #[.bool L.neg, .slice al L.mag.length cl, .int .i64 L.exp] 32))
  have HZ4 := (HZ.below b2).below (bal w2 (.cells #[.bool L.neg, .slice al L.mag.length cl, .int .i64 L.exp] 32))
  have HL4 := Hd.new (d := L) (cap := cl) rl
  generalize w2.alloc (.cells #[.bool L.neg, .slice al L.mag.length cl, .int .i64 L.exp] 32) = W4 at *
  generalize w2.heap.size = n2 at *
  clear rl b2 cL HX HY HZ B3 hT3
  go_upto_region 10 with (go_at_call 11; refine (cH _ hT4).mono ?_; rintro e w3 ⟨ah, ch, rfl, rh, b3⟩)
  have hT5 := tabW_below hT4 (bth3 b3 (bal w3 (.cells #[.bool H.neg, .slice ah H.mag.length ch, .int .i64 H.exp] 32)))
  have B5 := bth3 (bth3 B4 b3) (bal w3 (.cells #[.bool H.neg, .slice ah H.mag.length ch, .int .i64 H.exp] 32))
  have HX5 := (HX4.below b3).below (bal w3 (.cells #[.bool H.neg, .slice ah H.mag.length ch, .int .i64 H.exp] 32))
  have HY5 := (HY4.below b3).below (bal w3 (.cells #[.bool H.neg, .slice ah H.mag.length ch, .int .i64 H.exp] 32))
  have HZ5 := (HZ4.below b3).below (bal w3 (.cells #[.bool H.neg, .slice ah H.mag.length ch, .int .i64 H.exp] 32))
  have HL5 := (HL4.below b3).below (bal w3 (.cells #[.bool H.neg, .slice ah H.mag.length ch, .int .i64 H.exp] 32))
  have HH5 := Hd.new (d := H) (cap := ch) rh
  generalize w3.alloc (.cells #[.bool H.neg, .slice ah H.mag.length ch, .int .i64 H.exp] 32) = W5 at *
  generalize w3.heap.size = n3 at *
  clear rh b3 cH HX4 HY4 HZ4 HL4 B4 hT4
  have l0 := HL5.c0
  have l1 := HL5.c1
  have l2 := HL5.c2
  have h0 := HH5.c0
  have h1 := HH5.c1
  have h2 := HH5.c2
  go_upto_region 13 with (go_at_call 12; refine (oS _ _ _ _ _ HL5.row HH5.row hT5).mono ?_; rintro e w4 ⟨as_, cs, rfl, rs, _, b4⟩)
  have hT6 := tabW_below hT5 (bth3 b4 (bal w4 (.cells #[.bool S.neg, .slice as_ S.mag.length cs, .int .i64 S.exp] 32)))
  have B6 := bth3 (bth3 B5 b4) (bal w4 (.cells #[.bool S.neg, .slice as_ S.mag.length cs, .int .i64 S.exp] 32))
  have HX6 := (HX5.below b4).below (bal w4 (.cells #[.bool S.neg, .slice as_ S.mag.length cs, .int .i64 S.exp] 32))
  have HY6 := (HY5.below b4).below (bal w4 (.cells #[.bool S.neg, .slice as_ S.mag.length cs, .int .i64 S.exp] 32))
  have HZ6 := (HZ5.below b4).below (bal w4 (.cells #[.bool S.neg, .slice as_ S.mag.length cs, .int .i64 S.exp] 32))
  have HS6 := Hd.new (d := S) (cap := cs) rs
  generalize w4.alloc (.cells #[.bool S.neg, .slice as_ S.mag.length cs, .int .i64 S.exp] 32) = V0 at *
  generalize w4.heap.size = n4 at *
  clear rs b4 oS HX5 HY5 HZ5 HL5 HH5 B5 hT5 l0 l1 l2 h0 h1 h2
  have x0 := HX6.c0
  have x3 := HX6.c1
  have x4 := HX6.c2
  go_upto_region 21 with fail
  obtain ⟨V5, hV5⟩ : ∃ V5, V0.alloc (.cells #[.bool X.neg, .slice ax X.mag.length cx, .int .i64 X.exp] 32) = V5 := ⟨_, rfl⟩
  have HE5 : Hd V5 V0.heap.size X ax cx := by rw [← hV5]; exact Hd.new HX6.row
  have ZE5 : Fzr V5 V0.heap.size := by rw [← hV5]; exact fz_new _ _ _ _
  have BV5 : Below V0.heap.size V0 V5 := by rw [← hV5]; exact bal _ _
  have sV5 : V0.heap.size < V5.heap.size := by rw [← hV5]; simp
  rw [hV5]
  clear hV5 x0 x3 x4
  have HX7 := HX6.below BV5
  have HY7 := HY6.below BV5
  have hT7 := tabW_below hT6 BV5
  have x0 := HX7.c0
  have x3 := HX7.c1
  have x4 := HX7.c2
  have y0 := HY7.c0
  have y1 := HY7.c1
  have y2 := HY7.c2
  generalize hP : V0.heap.size = P at *
  go_upto_region 24 with (go_at_call 13; refine (oE _ _ _ _ _ HX7.row HY7.row hT7).mono ?_; rintro e v6 ⟨ae, ce, rfl, re, fe, b6⟩; have HE6 := HE5.six ZE5 b6; have k0 := HE6.1.c0; have k1 := HE6.1.c1; have k2 := HE6.1.c2; obtain ⟨f0, f1, f2⟩ := HE6.2)
  have P3 := put3r (c := ce) (E := E) HE6.1 HE6.2 re fe sV5
  have B7 : Below P V0 _ := (((BV5.trans (b6.mono (Nat.le_of_lt sV5))).setCell (p := ⟨P, 0, none⟩) (Nat.le_refl _) (.bool E.neg)).setCell (p := ⟨P, 1, none⟩) (Nat.le_refl _) (.slice ae E.mag.length ce)).setCell (p := ⟨P, 2, none⟩) (Nat.le_refl _) (.int .i64 E.exp)
  have s7 := World.block_lt_of_cell? _ _ P3.1.c0
  try simp only at s7
  clear k0 k1 k2 f0 f1 f2 HE6 x0 x3 x4 y0 y1 y2
  generalize ((v6.setCell ⟨P, 0, none⟩ (.bool E.neg)).setCell ⟨P, 1, none⟩ (.slice ae E.mag.length ce)).setCell ⟨P, 2, none⟩ (.int .i64 E.exp) = V7 at *
  have q0 := P3.1.c0
  have q1 := P3.1.c1
  have q2 := P3.1.c2
  go_upto_region 25 with (go_at_call 15; refine (oC _ _ _ P3.1.row).mono ?_; rintro e v9 ⟨ak, ck, rfl, rk, fk, b9⟩; have HE6 := P3.1.six P3.2 b9; have k0 := HE6.1.c0; have k1 := HE6.1.c1; have k2 := HE6.1.c2; obtain ⟨f0, f1, f2⟩ := HE6.2)
  have P9 := put3r (c := ck) (E := K) HE6.1 HE6.2 rk fk s7
  have B9 : Below P V0 _ := (((B7.trans (b9.mono (Nat.le_of_lt s7))).setCell (p := ⟨P, 0, none⟩) (Nat.le_refl _) (.bool K.neg)).setCell (p := ⟨P, 1, none⟩) (Nat.le_refl _) (.slice ak K.mag.length ck)).setCell (p := ⟨P, 2, none⟩) (Nat.le_refl _) (.int .i64 K.exp)
  clear k0 k1 k2 f0 f1 f2 HE6 q0 q1 q2
  generalize ((v9.setCell ⟨P, 0, none⟩ (.bool K.neg)).setCell ⟨P, 1, none⟩ (.slice ak K.mag.length ck)).setCell ⟨P, 2, none⟩ (.int .i64 K.exp) = V9 at *
  rw [← hP] at B9
  have HS9 := HS6.below B9
  have hT9 := tabW_below hT6 B9
  have BW := bth3 B6 B9
  have q0 := P9.1.c0
  have q1 := P9.1.c1
  have q2 := P9.1.c2
  have t0 := HS9.c0
  have t1 := HS9.c1
  have t2 := HS9.c2
  have rK := P9.1.row
  have rS := HS9.row
  clear P9 HS9 B9 B7 B6 HS6 HX6 HY6 HZ6 hT6
  go_upto_region 29 with (first
    | (go_at_call 16; refine (oK _ _ _ _ _ rK rS).mono ?_; rintro e va ⟨rfl, ba⟩; have BW := bth3 BW ba; have hT9 := tabW_below hT9 ba)
    | (go_at_call 17; refine (cpl _).mono ?_; rintro e w' ⟨rfl, h'⟩; subst w'))
  obtain ⟨m1, m2, m3⟩ := hM
  have y5 : (place lo).tmod 2 = 0 ↔ place lo % 2 = 0 := by
    have z1 := Int.tmod_add_mul_tdiv (place lo) 2
    have z2 : (place lo).tmod 2 < 2 := Int.tmod_lt_of_pos _ (by omega)
    have z3 := Int.tmod_lt_of_pos (-place lo) (show (0 : Int) < 2 by omega)
    rw [Int.neg_tmod] at z3
    generalize (place lo).tmod 2 = y at *
    generalize (place lo).tdiv 2 = z at *
    omega
  generalize hpl : (place lo).tmod 2 = t at *
  rcases Int.lt_trichotomy g 0 with c0 | c0 | c0
  · have r := m2 c0
    rw [decide_eq_true r] at x1
    rw [decide_eq_false (by omega)] at x2
    have g1 : ¬ g = 0 := by omega
    have g2 : ¬ 0 < g := by omega
    clear m1 m2 m3 p1 p4 r y5 hpl gb
    go_wp2_with (go_at_call 8; refine (rawake _ hT9).mono ?_; rintro e wz ⟨rfl, bz⟩; replace BW := bth3 BW bz)
    go_ret
    exact ⟨rfl, BW⟩
  · subst c0
    have r := m1 rfl
    by_cases hev : place lo % 2 = 0
    · have r2 := r.2 hev
      rw [decide_eq_true r2] at x1
      rw [decide_eq_false (by omega)] at x2
      have t0' : t = 0 := y5.2 hev
      subst t0'
      clear m1 m2 m3 p1 p4 r r2 y5 hev gb
      go_wp2_with (go_at_call 8; refine (rawake _ hT9).mono ?_; rintro e wz ⟨rfl, bz⟩; replace BW := bth3 BW bz)
      go_ret
      exact ⟨rfl, BW⟩
    · have r2 : ¬ place ne = place lo := fun h => hev (r.1 h)
      rw [decide_eq_false r2] at x1
      rw [decide_eq_true (by omega)] at x2
      have t0' : ¬ t = 0 := fun h => hev (y5.1 h)
      have t3 : (t == 0) = false := by simpa using t0'
      have t4 : (t != 0) = true := by simpa using t0'
      clear m1 m2 m3 p1 p4 r r2 y5 hev gb
      go_wp2_with (go_at_call 8; refine (rawake _ hT9).mono ?_; rintro e wz ⟨rfl, bz⟩; replace BW := bth3 BW bz)
      go_ret
      exact ⟨rfl, BW⟩
  · have r := m3 c0
    rw [decide_eq_false (by omega)] at x1
    rw [decide_eq_true r] at x2
    have g1 : ¬ g = 0 := by omega
    have g2 : ¬ g < 0 := by omega
    clear m1 m2 m3 p1 p4 r y5 hpl gb
    go_wp2_with (go_at_call 8; refine (rawake _ hT9).mono ?_; rintro e wz ⟨rfl, bz⟩; replace BW := bth3 BW bz)
    go_ret
    exact ⟨rfl, BW⟩
set_option maxRecDepth 100000 in
set_option maxHeartbeats 8000000 in
theorem near_2 (x : Int) (a b c : Nat) (hx : x % 4 = 2) (ha : a < 18446744073709551616) (hb : b < 18446744073709551616) (hc : c < 18446744073709551616) (w : World) (hT : TabW w) :
    Calls Tryd.prog 3 #[.int .i64 x, .float .f64 a, .float .f64 b, .float .f64 c] w fun e w' => e = .returned (.bool true) ∧ Below w.heap.size w w' := by
  have HB : Below w.heap.size w w := Below.refl _ _
  have cp := pick4 x 2 hx
  clear hx
  have HBa := bth3 HB (bal w (.cells #[.int .i64 0, .int .i64 1, .int .i64 2, .int .i64 5] 3))
  have hTa := tabW_alloc hT (.cells #[.int .i64 0, .int .i64 1, .int .i64 2, .int .i64 5] 3)
  go_enter Tryd.func3, Tryd.ntmps3
  go_upto_if 35 with (first
    | (go_at_call 6; refine (cp _).mono ?_; rintro e w' ⟨rfl, h'⟩; subst w')
    | (go_at_call 7; refine (asks_all 2 a b c (by omega) ha hb hc _).mono ?_; rintro e wz ⟨B, rfl, hAsk, bz⟩; replace HB := bth3 HBa bz; have hT := tabW_below hTa bz))
  cases B
  · go_wp2_with (go_at_call 8; refine (rawake _ hT).mono ?_; rintro e wz ⟨rfl, bz⟩; replace HB := bth3 HB bz)
    go_ret
    exact ⟨rfl, HB⟩
  have hA := hAsk rfl
  clear hAsk cp HBa hTa
  obtain ⟨lo, hi, ne, e1, e2, e0, kl, kh, kn, hcase⟩ := four_near (by omega) hA
  have d1 := fun w h => did_is (k := 2) (by omega) hA e1 w h
  have d2 := fun w h => did_is (k := 2) (by omega) hA e2 w h
  have d0 := fun w h => did_is (k := 2) (by omega) hA e0 w h
  clear e1 e2 e0
  go_upto_region 5 with (first
    | (go_at_call_of 9 (Value.int IntKind.i8 1); refine (d1 _ hT).mono ?_; rintro e wz ⟨rfl, bz⟩; replace HB := bth3 HB bz; have hT := tabW_below hT bz)
    | (go_at_call_of 9 (Value.int IntKind.i8 2); refine (d2 _ hT).mono ?_; rintro e wz ⟨rfl, bz⟩; replace HB := bth3 HB bz; have hT := tabW_below hT bz)
    | (go_at_call_of 9 (Value.int IntKind.i8 0); refine (d0 _ hT).mono ?_; rintro e wz ⟨rfl, bz⟩; replace HB := bth3 HB bz; have hT := tabW_below hT bz))
  clear d0 d1 d2
  rcases hcase with ⟨p1, p2⟩ | ⟨p1, hX0, p4, hM⟩
  · have o2 := o_eq kl kh (B := true) (decide_eq_true (by omega))
    have o4 := o_eq kn kl (B := true) (decide_eq_true (by omega))
    clear p1 p2
    go_wp2_with (go_at_call 8; refine (rawake _ hT).mono ?_; rintro e wz ⟨rfl, bz⟩; replace HB := bth3 HB bz)
    go_ret
    exact ⟨rfl, HB⟩
  have o2 := o_eq kl kh (B := false) (decide_eq_false (by omega))
  obtain ⟨X, eX, FX⟩ := fd_of hA.fa
  obtain ⟨Y, eY, FY⟩ := fd_of hA.fb
  obtain ⟨Z, eZ, FZ⟩ := fd_of hA.fc
  obtain ⟨L, FL, cL⟩ := ends_any lo kl.1 kl.2.1
  obtain ⟨H, FH, cH⟩ := ends_any hi kh.1 kh.2.1
  have hbm := mid_bl kl kh
  have FS := fd_dz hbm
  have eS := fd_add FL FH hbm
  generalize dz (vI lo * 2 ^ twP + vI hi * 2 ^ twP) = S at *
  have hb3 := ex_bd hA
  have hb2 : bl (vI a * vI b).natAbs ≤ 16384 := (exX_lt hA.fa hA.fb hA.fc).1
  have ev : exO 2 a b c = vI a * vI b := rfl
  have eE := fd_mul FX FY hb2
  have FE := fd_dz hb2
  generalize dz (vI a * vI b) = E at *
  unfold midS at hM
  rw [ev] at hX0 hb3 hM
  have eK := fd_scale FE hX0 hb3
  have FK := fd_dz hb3
  rw [Int.add_mul] at hM
  have hg := fd_cmp FK FS
  generalize dz (2 * (vI a * vI b)) = K at *
  rw [← hg] at hM
  have gb := sgI_bd (qd K - qd S)
  have oK := fun ao bo cap bcap w h1 h2 => Cmp_right K S ao bo cap bcap w h1 h2 FK.2.1 FS.2.1 FK.1 FS.1
  clear hg
  generalize sgI (qd K - qd S) = g at *
  have od := fun w h => dyads_any a b c X Y Z ha hb hc eX eY eZ w h
  have oS := fun ao bo cap bcap w h1 h2 h3 => Add_any L H ao bo cap bcap w h1 h2 FL.2.1 FH.2.1 h3
  rw [eS] at oS
  have oE := fun ao bo cap bcap w h1 h2 h3 => mul_any X Y ao bo cap bcap w h1 h2 FX.2.1 FY.2.1 h3
  rw [eE] at oE
  have oC := fun ao cap w h => scale_any E 1 ao cap w h FE.2.1
  rw [eK] at oC
  have cpl := place_any lo kl.1
  rw [show plc lo = place lo by unfold plc; rw [ok_nan kl]; rfl] at cpl
  have x1 := o_eq kn kl rfl
  have x2 := o_eq kn kh rfl
  clear eX eY eZ eS eE eK FX FY FZ FL FH FS FE FK hbm hb2 hb3 hX0 ev hA
  go_upto_region 8 with (go_at_call 10; refine (od _ hT).mono ?_; rintro e w1 ⟨ax, cx, ay, cy, az, cz, rfl, rx, ry, rz, b1⟩)
  obtain ⟨HX, HY, HZ, s3, B4⟩ := three_box3 (cx := cx) (cy := cy) (cz := cz) rx ry rz
  have hT3 := tabW_below (tabW_below hT b1) B4
  have B3 := bth3 (bth3 HB b1) B4
  generalize ((w1.alloc (.cells #[.bool X.neg, .slice ax X.mag.length cx, .int .i64 X.exp] 32)).alloc (.cells #[.bool Y.neg, .slice ay Y.mag.length cy, .int .i64 Y.exp] 32)).alloc (.cells #[.bool Z.neg, .slice az Z.mag.length cz, .int .i64 Z.exp] 32) = W3 at *
  generalize w1.heap.size = n1 at *
  clear rx ry rz b1 s3 od B4 HB hT
  go_upto_region 9 with (go_at_call 11; refine (cL _ hT3).mono ?_; rintro e w2 ⟨al, cl, rfl, rl, b2⟩)
  have hT4 := tabW_below hT3 (bth3 b2 (bal w2 (.cells #[.bool L.neg, .slice al L.mag.length cl, .int .i64 L.exp] 32)))
  have B4 := bth3 (bth3 B3 b2) (bal w2 (.cells #[.bool L.neg, .slice al L.mag.length cl, .int .i64 L.exp] 32))
  have HX4 := (HX.below b2).below (bal w2 (.cells #[.bool L.neg, .slice al L.mag.length cl, .int .i64 L.exp] 32))
  have HY4 := (HY.below b2).below (bal w2 (.cells #[.bool L.neg, .slice al L.mag.length cl, .int .i64 L.exp] 32))
  have HZ4 := (HZ.below b2).below (bal w2 (.cells #[.bool L.neg, .slice al L.mag.length cl, .int .i64 L.exp] 32))
  have HL4 := Hd.new (d := L) (cap := cl) rl
  generalize w2.alloc (.cells #[.bool L.neg, .slice al L.mag.length cl, .int .i64 L.exp] 32) = W4 at *
  generalize w2.heap.size = n2 at *
  clear rl b2 cL HX HY HZ B3 hT3
  go_upto_region 10 with (go_at_call 11; refine (cH _ hT4).mono ?_; rintro e w3 ⟨ah, ch, rfl, rh, b3⟩)
  have hT5 := tabW_below hT4 (bth3 b3 (bal w3 (.cells #[.bool H.neg, .slice ah H.mag.length ch, .int .i64 H.exp] 32)))
  have B5 := bth3 (bth3 B4 b3) (bal w3 (.cells #[.bool H.neg, .slice ah H.mag.length ch, .int .i64 H.exp] 32))
  have HX5 := (HX4.below b3).below (bal w3 (.cells #[.bool H.neg, .slice ah H.mag.length ch, .int .i64 H.exp] 32))
  have HY5 := (HY4.below b3).below (bal w3 (.cells #[.bool H.neg, .slice ah H.mag.length ch, .int .i64 H.exp] 32))
  have HZ5 := (HZ4.below b3).below (bal w3 (.cells #[.bool H.neg, .slice ah H.mag.length ch, .int .i64 H.exp] 32))
  have HL5 := (HL4.below b3).below (bal w3 (.cells #[.bool H.neg, .slice ah H.mag.length ch, .int .i64 H.exp] 32))
  have HH5 := Hd.new (d := H) (cap := ch) rh
  generalize w3.alloc (.cells #[.bool H.neg, .slice ah H.mag.length ch, .int .i64 H.exp] 32) = W5 at *
  generalize w3.heap.size = n3 at *
  clear rh b3 cH HX4 HY4 HZ4 HL4 B4 hT4
  have l0 := HL5.c0
  have l1 := HL5.c1
  have l2 := HL5.c2
  have h0 := HH5.c0
  have h1 := HH5.c1
  have h2 := HH5.c2
  go_upto_region 13 with (go_at_call 12; refine (oS _ _ _ _ _ HL5.row HH5.row hT5).mono ?_; rintro e w4 ⟨as_, cs, rfl, rs, _, b4⟩)
  have hT6 := tabW_below hT5 (bth3 b4 (bal w4 (.cells #[.bool S.neg, .slice as_ S.mag.length cs, .int .i64 S.exp] 32)))
  have B6 := bth3 (bth3 B5 b4) (bal w4 (.cells #[.bool S.neg, .slice as_ S.mag.length cs, .int .i64 S.exp] 32))
  have HX6 := (HX5.below b4).below (bal w4 (.cells #[.bool S.neg, .slice as_ S.mag.length cs, .int .i64 S.exp] 32))
  have HY6 := (HY5.below b4).below (bal w4 (.cells #[.bool S.neg, .slice as_ S.mag.length cs, .int .i64 S.exp] 32))
  have HZ6 := (HZ5.below b4).below (bal w4 (.cells #[.bool S.neg, .slice as_ S.mag.length cs, .int .i64 S.exp] 32))
  have HS6 := Hd.new (d := S) (cap := cs) rs
  generalize w4.alloc (.cells #[.bool S.neg, .slice as_ S.mag.length cs, .int .i64 S.exp] 32) = V0 at *
  generalize w4.heap.size = n4 at *
  clear rs b4 oS HX5 HY5 HZ5 HL5 HH5 B5 hT5 l0 l1 l2 h0 h1 h2
  have x0 := HX6.c0
  have x3 := HX6.c1
  have x4 := HX6.c2
  go_upto_region 15 with fail
  obtain ⟨V5, hV5⟩ : ∃ V5, V0.alloc (.cells #[.bool X.neg, .slice ax X.mag.length cx, .int .i64 X.exp] 32) = V5 := ⟨_, rfl⟩
  have HE5 : Hd V5 V0.heap.size X ax cx := by rw [← hV5]; exact Hd.new HX6.row
  have ZE5 : Fzr V5 V0.heap.size := by rw [← hV5]; exact fz_new _ _ _ _
  have BV5 : Below V0.heap.size V0 V5 := by rw [← hV5]; exact bal _ _
  have sV5 : V0.heap.size < V5.heap.size := by rw [← hV5]; simp
  rw [hV5]
  clear hV5 x0 x3 x4
  have HX7 := HX6.below BV5
  have HY7 := HY6.below BV5
  have hT7 := tabW_below hT6 BV5
  have x0 := HX7.c0
  have x3 := HX7.c1
  have x4 := HX7.c2
  have y0 := HY7.c0
  have y1 := HY7.c1
  have y2 := HY7.c2
  generalize hP : V0.heap.size = P at *
  go_upto_region 24 with (go_at_call 14; refine (oE _ _ _ _ _ HX7.row HY7.row hT7).mono ?_; rintro e v6 ⟨ae, ce, rfl, re, fe, b6⟩; have HE6 := HE5.six ZE5 b6; have k0 := HE6.1.c0; have k1 := HE6.1.c1; have k2 := HE6.1.c2; obtain ⟨f0, f1, f2⟩ := HE6.2)
  have P3 := put3r (c := ce) (E := E) HE6.1 HE6.2 re fe sV5
  have B7 : Below P V0 _ := (((BV5.trans (b6.mono (Nat.le_of_lt sV5))).setCell (p := ⟨P, 0, none⟩) (Nat.le_refl _) (.bool E.neg)).setCell (p := ⟨P, 1, none⟩) (Nat.le_refl _) (.slice ae E.mag.length ce)).setCell (p := ⟨P, 2, none⟩) (Nat.le_refl _) (.int .i64 E.exp)
  have s7 := World.block_lt_of_cell? _ _ P3.1.c0
  try simp only at s7
  clear k0 k1 k2 f0 f1 f2 HE6 x0 x3 x4 y0 y1 y2
  generalize ((v6.setCell ⟨P, 0, none⟩ (.bool E.neg)).setCell ⟨P, 1, none⟩ (.slice ae E.mag.length ce)).setCell ⟨P, 2, none⟩ (.int .i64 E.exp) = V7 at *
  have q0 := P3.1.c0
  have q1 := P3.1.c1
  have q2 := P3.1.c2
  go_upto_region 25 with (go_at_call 15; refine (oC _ _ _ P3.1.row).mono ?_; rintro e v9 ⟨ak, ck, rfl, rk, fk, b9⟩; have HE6 := P3.1.six P3.2 b9; have k0 := HE6.1.c0; have k1 := HE6.1.c1; have k2 := HE6.1.c2; obtain ⟨f0, f1, f2⟩ := HE6.2)
  have P9 := put3r (c := ck) (E := K) HE6.1 HE6.2 rk fk s7
  have B9 : Below P V0 _ := (((B7.trans (b9.mono (Nat.le_of_lt s7))).setCell (p := ⟨P, 0, none⟩) (Nat.le_refl _) (.bool K.neg)).setCell (p := ⟨P, 1, none⟩) (Nat.le_refl _) (.slice ak K.mag.length ck)).setCell (p := ⟨P, 2, none⟩) (Nat.le_refl _) (.int .i64 K.exp)
  clear k0 k1 k2 f0 f1 f2 HE6 q0 q1 q2
  generalize ((v9.setCell ⟨P, 0, none⟩ (.bool K.neg)).setCell ⟨P, 1, none⟩ (.slice ak K.mag.length ck)).setCell ⟨P, 2, none⟩ (.int .i64 K.exp) = V9 at *
  rw [← hP] at B9
  have HS9 := HS6.below B9
  have hT9 := tabW_below hT6 B9
  have BW := bth3 B6 B9
  have q0 := P9.1.c0
  have q1 := P9.1.c1
  have q2 := P9.1.c2
  have t0 := HS9.c0
  have t1 := HS9.c1
  have t2 := HS9.c2
  have rK := P9.1.row
  have rS := HS9.row
  clear P9 HS9 B9 B7 B6 HS6 HX6 HY6 HZ6 hT6
  go_upto_region 29 with (first
    | (go_at_call 16; refine (oK _ _ _ _ _ rK rS).mono ?_; rintro e va ⟨rfl, ba⟩; have BW := bth3 BW ba; have hT9 := tabW_below hT9 ba)
    | (go_at_call 17; refine (cpl _).mono ?_; rintro e w' ⟨rfl, h'⟩; subst w'))
  obtain ⟨m1, m2, m3⟩ := hM
  have y5 : (place lo).tmod 2 = 0 ↔ place lo % 2 = 0 := by
    have z1 := Int.tmod_add_mul_tdiv (place lo) 2
    have z2 : (place lo).tmod 2 < 2 := Int.tmod_lt_of_pos _ (by omega)
    have z3 := Int.tmod_lt_of_pos (-place lo) (show (0 : Int) < 2 by omega)
    rw [Int.neg_tmod] at z3
    generalize (place lo).tmod 2 = y at *
    generalize (place lo).tdiv 2 = z at *
    omega
  generalize hpl : (place lo).tmod 2 = t at *
  rcases Int.lt_trichotomy g 0 with c0 | c0 | c0
  · have r := m2 c0
    rw [decide_eq_true r] at x1
    rw [decide_eq_false (by omega)] at x2
    have g1 : ¬ g = 0 := by omega
    have g2 : ¬ 0 < g := by omega
    clear m1 m2 m3 p1 p4 r y5 hpl gb
    go_wp2_with (go_at_call 8; refine (rawake _ hT9).mono ?_; rintro e wz ⟨rfl, bz⟩; replace BW := bth3 BW bz)
    go_ret
    exact ⟨rfl, BW⟩
  · subst c0
    have r := m1 rfl
    by_cases hev : place lo % 2 = 0
    · have r2 := r.2 hev
      rw [decide_eq_true r2] at x1
      rw [decide_eq_false (by omega)] at x2
      have t0' : t = 0 := y5.2 hev
      subst t0'
      clear m1 m2 m3 p1 p4 r r2 y5 hev gb
      go_wp2_with (go_at_call 8; refine (rawake _ hT9).mono ?_; rintro e wz ⟨rfl, bz⟩; replace BW := bth3 BW bz)
      go_ret
      exact ⟨rfl, BW⟩
    · have r2 : ¬ place ne = place lo := fun h => hev (r.1 h)
      rw [decide_eq_false r2] at x1
      rw [decide_eq_true (by omega)] at x2
      have t0' : ¬ t = 0 := fun h => hev (y5.1 h)
      have t3 : (t == 0) = false := by simpa using t0'
      have t4 : (t != 0) = true := by simpa using t0'
      clear m1 m2 m3 p1 p4 r r2 y5 hev gb
      go_wp2_with (go_at_call 8; refine (rawake _ hT9).mono ?_; rintro e wz ⟨rfl, bz⟩; replace BW := bth3 BW bz)
      go_ret
      exact ⟨rfl, BW⟩
  · have r := m3 c0
    rw [decide_eq_false (by omega)] at x1
    rw [decide_eq_true r] at x2
    have g1 : ¬ g = 0 := by omega
    have g2 : ¬ g < 0 := by omega
    clear m1 m2 m3 p1 p4 r y5 hpl gb
    go_wp2_with (go_at_call 8; refine (rawake _ hT9).mono ?_; rintro e wz ⟨rfl, bz⟩; replace BW := bth3 BW bz)
    go_ret
    exact ⟨rfl, BW⟩
set_option maxRecDepth 100000 in
set_option maxHeartbeats 8000000 in
theorem near_5 (x : Int) (a b c : Nat) (hx : x % 4 = 3) (ha : a < 18446744073709551616) (hb : b < 18446744073709551616) (hc : c < 18446744073709551616) (w : World) (hT : TabW w) :
    Calls Tryd.prog 3 #[.int .i64 x, .float .f64 a, .float .f64 b, .float .f64 c] w fun e w' => e = .returned (.bool true) ∧ Below w.heap.size w w' := by
  have HB : Below w.heap.size w w := Below.refl _ _
  have cp := pick4 x 3 hx
  clear hx
  have HBa := bth3 HB (bal w (.cells #[.int .i64 0, .int .i64 1, .int .i64 2, .int .i64 5] 3))
  have hTa := tabW_alloc hT (.cells #[.int .i64 0, .int .i64 1, .int .i64 2, .int .i64 5] 3)
  go_enter Tryd.func3, Tryd.ntmps3
  go_upto_if 35 with (first
    | (go_at_call 6; refine (cp _).mono ?_; rintro e w' ⟨rfl, h'⟩; subst w')
    | (go_at_call 7; refine (asks_all 5 a b c (by omega) ha hb hc _).mono ?_; rintro e wz ⟨B, rfl, hAsk, bz⟩; replace HB := bth3 HBa bz; have hT := tabW_below hTa bz))
  cases B
  · go_wp2_with (go_at_call 8; refine (rawake _ hT).mono ?_; rintro e wz ⟨rfl, bz⟩; replace HB := bth3 HB bz)
    go_ret
    exact ⟨rfl, HB⟩
  have hA := hAsk rfl
  clear hAsk cp HBa hTa
  obtain ⟨lo, hi, ne, e1, e2, e0, kl, kh, kn, hcase⟩ := four_near (by omega) hA
  have d1 := fun w h => did_is (k := 5) (by omega) hA e1 w h
  have d2 := fun w h => did_is (k := 5) (by omega) hA e2 w h
  have d0 := fun w h => did_is (k := 5) (by omega) hA e0 w h
  clear e1 e2 e0
  go_upto_region 5 with (first
    | (go_at_call_of 9 (Value.int IntKind.i8 1); refine (d1 _ hT).mono ?_; rintro e wz ⟨rfl, bz⟩; replace HB := bth3 HB bz; have hT := tabW_below hT bz)
    | (go_at_call_of 9 (Value.int IntKind.i8 2); refine (d2 _ hT).mono ?_; rintro e wz ⟨rfl, bz⟩; replace HB := bth3 HB bz; have hT := tabW_below hT bz)
    | (go_at_call_of 9 (Value.int IntKind.i8 0); refine (d0 _ hT).mono ?_; rintro e wz ⟨rfl, bz⟩; replace HB := bth3 HB bz; have hT := tabW_below hT bz))
  clear d0 d1 d2
  rcases hcase with ⟨p1, p2⟩ | ⟨p1, hX0, p4, hM⟩
  · have o2 := o_eq kl kh (B := true) (decide_eq_true (by omega))
    have o4 := o_eq kn kl (B := true) (decide_eq_true (by omega))
    clear p1 p2
    go_wp2_with (go_at_call 8; refine (rawake _ hT).mono ?_; rintro e wz ⟨rfl, bz⟩; replace HB := bth3 HB bz)
    go_ret
    exact ⟨rfl, HB⟩
  have o2 := o_eq kl kh (B := false) (decide_eq_false (by omega))
  obtain ⟨X, eX, FX⟩ := fd_of hA.fa
  obtain ⟨Y, eY, FY⟩ := fd_of hA.fb
  obtain ⟨Z, eZ, FZ⟩ := fd_of hA.fc
  obtain ⟨L, FL, cL⟩ := ends_any lo kl.1 kl.2.1
  obtain ⟨H, FH, cH⟩ := ends_any hi kh.1 kh.2.1
  have hbm := mid_bl kl kh
  have FS := fd_dz hbm
  have eS := fd_add FL FH hbm
  generalize dz (vI lo * 2 ^ twP + vI hi * 2 ^ twP) = S at *
  have hb3 := ex_bd hA
  have hb2 : bl (vI a * vI b).natAbs ≤ 16384 := (exX_lt hA.fa hA.fb hA.fc).1
  have eE := fd_mul FX FY hb2
  have FE := fd_dz hb2
  generalize dz (vI a * vI b) = E at *
  have hb4 := (exX_lt hA.fa hA.fb hA.fc).2
  rw [exX_sum] at hb4
  have ev : exO 5 a b c = vI a * vI b + vI c * 2 ^ twP := by show exX a b c = _; rw [exX_sum]
  have eG := fd_add FE FZ hb4
  have FG := fd_dz hb4
  generalize dz (vI a * vI b + vI c * 2 ^ twP) = G at *
  unfold midS at hM
  rw [ev] at hX0 hb3 hM
  have eK := fd_scale FG hX0 hb3
  have FK := fd_dz hb3
  rw [Int.add_mul] at hM
  have hg := fd_cmp FK FS
  generalize dz (2 * (vI a * vI b + vI c * 2 ^ twP)) = K at *
  rw [← hg] at hM
  have gb := sgI_bd (qd K - qd S)
  have oK := fun ao bo cap bcap w h1 h2 => Cmp_right K S ao bo cap bcap w h1 h2 FK.2.1 FS.2.1 FK.1 FS.1
  clear hg
  generalize sgI (qd K - qd S) = g at *
  have od := fun w h => dyads_any a b c X Y Z ha hb hc eX eY eZ w h
  have oS := fun ao bo cap bcap w h1 h2 h3 => Add_any L H ao bo cap bcap w h1 h2 FL.2.1 FH.2.1 h3
  rw [eS] at oS
  have oE := fun ao bo cap bcap w h1 h2 h3 => mul_any X Y ao bo cap bcap w h1 h2 FX.2.1 FY.2.1 h3
  rw [eE] at oE
  have oG := fun ao bo cap bcap w h1 h2 h3 => Add_any E Z ao bo cap bcap w h1 h2 FE.2.1 FZ.2.1 h3
  rw [eG] at oG
  have oC := fun ao cap w h => scale_any G 1 ao cap w h FG.2.1
  rw [eK] at oC
  have cpl := place_any lo kl.1
  rw [show plc lo = place lo by unfold plc; rw [ok_nan kl]; rfl] at cpl
  have x1 := o_eq kn kl rfl
  have x2 := o_eq kn kh rfl
  clear eX eY eZ eS eE eK FX FY FZ FL FH FS FE FK hbm hb2 hb3 hX0 ev hA eG FG hb4
  go_upto_region 8 with (go_at_call 10; refine (od _ hT).mono ?_; rintro e w1 ⟨ax, cx, ay, cy, az, cz, rfl, rx, ry, rz, b1⟩)
  obtain ⟨HX, HY, HZ, s3, B4⟩ := three_box3 (cx := cx) (cy := cy) (cz := cz) rx ry rz
  have hT3 := tabW_below (tabW_below hT b1) B4
  have B3 := bth3 (bth3 HB b1) B4
  generalize ((w1.alloc (.cells #[.bool X.neg, .slice ax X.mag.length cx, .int .i64 X.exp] 32)).alloc (.cells #[.bool Y.neg, .slice ay Y.mag.length cy, .int .i64 Y.exp] 32)).alloc (.cells #[.bool Z.neg, .slice az Z.mag.length cz, .int .i64 Z.exp] 32) = W3 at *
  generalize w1.heap.size = n1 at *
  clear rx ry rz b1 s3 od B4 HB hT
  go_upto_region 9 with (go_at_call 11; refine (cL _ hT3).mono ?_; rintro e w2 ⟨al, cl, rfl, rl, b2⟩)
  have hT4 := tabW_below hT3 (bth3 b2 (bal w2 (.cells #[.bool L.neg, .slice al L.mag.length cl, .int .i64 L.exp] 32)))
  have B4 := bth3 (bth3 B3 b2) (bal w2 (.cells #[.bool L.neg, .slice al L.mag.length cl, .int .i64 L.exp] 32))
  have HX4 := (HX.below b2).below (bal w2 (.cells #[.bool L.neg, .slice al L.mag.length cl, .int .i64 L.exp] 32))
  have HY4 := (HY.below b2).below (bal w2 (.cells #[.bool L.neg, .slice al L.mag.length cl, .int .i64 L.exp] 32))
  have HZ4 := (HZ.below b2).below (bal w2 (.cells #[.bool L.neg, .slice al L.mag.length cl, .int .i64 L.exp] 32))
  have HL4 := Hd.new (d := L) (cap := cl) rl
  generalize w2.alloc (.cells #[.bool L.neg, .slice al L.mag.length cl, .int .i64 L.exp] 32) = W4 at *
  generalize w2.heap.size = n2 at *
  clear rl b2 cL HX HY HZ B3 hT3
  go_upto_region 10 with (go_at_call 11; refine (cH _ hT4).mono ?_; rintro e w3 ⟨ah, ch, rfl, rh, b3⟩)
  have hT5 := tabW_below hT4 (bth3 b3 (bal w3 (.cells #[.bool H.neg, .slice ah H.mag.length ch, .int .i64 H.exp] 32)))
  have B5 := bth3 (bth3 B4 b3) (bal w3 (.cells #[.bool H.neg, .slice ah H.mag.length ch, .int .i64 H.exp] 32))
  have HX5 := (HX4.below b3).below (bal w3 (.cells #[.bool H.neg, .slice ah H.mag.length ch, .int .i64 H.exp] 32))
  have HY5 := (HY4.below b3).below (bal w3 (.cells #[.bool H.neg, .slice ah H.mag.length ch, .int .i64 H.exp] 32))
  have HZ5 := (HZ4.below b3).below (bal w3 (.cells #[.bool H.neg, .slice ah H.mag.length ch, .int .i64 H.exp] 32))
  have HL5 := (HL4.below b3).below (bal w3 (.cells #[.bool H.neg, .slice ah H.mag.length ch, .int .i64 H.exp] 32))
  have HH5 := Hd.new (d := H) (cap := ch) rh
  generalize w3.alloc (.cells #[.bool H.neg, .slice ah H.mag.length ch, .int .i64 H.exp] 32) = W5 at *
  generalize w3.heap.size = n3 at *
  clear rh b3 cH HX4 HY4 HZ4 HL4 B4 hT4
  have l0 := HL5.c0
  have l1 := HL5.c1
  have l2 := HL5.c2
  have h0 := HH5.c0
  have h1 := HH5.c1
  have h2 := HH5.c2
  go_upto_region 13 with (go_at_call 12; refine (oS _ _ _ _ _ HL5.row HH5.row hT5).mono ?_; rintro e w4 ⟨as_, cs, rfl, rs, _, b4⟩)
  have hT6 := tabW_below hT5 (bth3 b4 (bal w4 (.cells #[.bool S.neg, .slice as_ S.mag.length cs, .int .i64 S.exp] 32)))
  have B6 := bth3 (bth3 B5 b4) (bal w4 (.cells #[.bool S.neg, .slice as_ S.mag.length cs, .int .i64 S.exp] 32))
  have HX6 := (HX5.below b4).below (bal w4 (.cells #[.bool S.neg, .slice as_ S.mag.length cs, .int .i64 S.exp] 32))
  have HY6 := (HY5.below b4).below (bal w4 (.cells #[.bool S.neg, .slice as_ S.mag.length cs, .int .i64 S.exp] 32))
  have HZ6 := (HZ5.below b4).below (bal w4 (.cells #[.bool S.neg, .slice as_ S.mag.length cs, .int .i64 S.exp] 32))
  have HS6 := Hd.new (d := S) (cap := cs) rs
  generalize w4.alloc (.cells #[.bool S.neg, .slice as_ S.mag.length cs, .int .i64 S.exp] 32) = V0 at *
  generalize w4.heap.size = n4 at *
  clear rs b4 oS HX5 HY5 HZ5 HL5 HH5 B5 hT5 l0 l1 l2 h0 h1 h2
  have x0 := HX6.c0
  have x3 := HX6.c1
  have x4 := HX6.c2
  go_upto_region 15 with fail
  obtain ⟨V5, hV5⟩ : ∃ V5, V0.alloc (.cells #[.bool X.neg, .slice ax X.mag.length cx, .int .i64 X.exp] 32) = V5 := ⟨_, rfl⟩
  have HE5 : Hd V5 V0.heap.size X ax cx := by rw [← hV5]; exact Hd.new HX6.row
  have ZE5 : Fzr V5 V0.heap.size := by rw [← hV5]; exact fz_new _ _ _ _
  have BV5 : Below V0.heap.size V0 V5 := by rw [← hV5]; exact bal _ _
  have sV5 : V0.heap.size < V5.heap.size := by rw [← hV5]; simp
  rw [hV5]
  clear hV5 x0 x3 x4
  have HX7 := HX6.below BV5
  have HY7 := HY6.below BV5
  have hT7 := tabW_below hT6 BV5
  have x0 := HX7.c0
  have x3 := HX7.c1
  have x4 := HX7.c2
  have y0 := HY7.c0
  have y1 := HY7.c1
  have y2 := HY7.c2
  generalize hP : V0.heap.size = P at *
  go_upto_region 17 with (go_at_call 14; refine (oE _ _ _ _ _ HX7.row HY7.row hT7).mono ?_; rintro e v6 ⟨ae, ce, rfl, re, fe, b6⟩; have HE6 := HE5.six ZE5 b6; have k0 := HE6.1.c0; have k1 := HE6.1.c1; have k2 := HE6.1.c2; obtain ⟨f0, f1, f2⟩ := HE6.2)
  have P3 := put3r (c := ce) (E := E) HE6.1 HE6.2 re fe sV5
  have B7 : Below P V0 _ := (((BV5.trans (b6.mono (Nat.le_of_lt sV5))).setCell (p := ⟨P, 0, none⟩) (Nat.le_refl _) (.bool E.neg)).setCell (p := ⟨P, 1, none⟩) (Nat.le_refl _) (.slice ae E.mag.length ce)).setCell (p := ⟨P, 2, none⟩) (Nat.le_refl _) (.int .i64 E.exp)
  have s7 := World.block_lt_of_cell? _ _ P3.1.c0
  try simp only at s7
  clear k0 k1 k2 f0 f1 f2 HE6 x0 x3 x4 y0 y1 y2
  generalize ((v6.setCell ⟨P, 0, none⟩ (.bool E.neg)).setCell ⟨P, 1, none⟩ (.slice ae E.mag.length ce)).setCell ⟨P, 2, none⟩ (.int .i64 E.exp) = V7 at *
  have q0 := P3.1.c0
  have q1 := P3.1.c1
  have q2 := P3.1.c2
  have HZ7 := (show Hd _ _ _ _ _ from by rw [← hP] at B7; exact HZ6.below B7)
  have hT8 := (show TabW _ from by rw [← hP] at B7; exact tabW_below hT6 B7)
  have z0 := HZ7.c0
  have z1 := HZ7.c1
  have z2 := HZ7.c2
  go_upto_region 24 with (go_at_call 12; refine (oG _ _ _ _ _ P3.1.row HZ7.row hT8).mono ?_; rintro e v7 ⟨ag, cg, rfl, rg, fg, b7⟩; have HE6 := P3.1.six P3.2 b7; have k0 := HE6.1.c0; have k1 := HE6.1.c1; have k2 := HE6.1.c2; obtain ⟨f0, f1, f2⟩ := HE6.2)
  have P4 := put3r (c := cg) (E := G) HE6.1 HE6.2 rg fg s7
  have B8 : Below P V0 _ := (((B7.trans (b7.mono (Nat.le_of_lt s7))).setCell (p := ⟨P, 0, none⟩) (Nat.le_refl _) (.bool G.neg)).setCell (p := ⟨P, 1, none⟩) (Nat.le_refl _) (.slice ag G.mag.length cg)).setCell (p := ⟨P, 2, none⟩) (Nat.le_refl _) (.int .i64 G.exp)
  have s8 := World.block_lt_of_cell? _ _ P4.1.c0
  try simp only at s8
  clear k0 k1 k2 f0 f1 f2 HE6 q0 q1 q2 z0 z1 z2
  generalize ((v7.setCell ⟨P, 0, none⟩ (.bool G.neg)).setCell ⟨P, 1, none⟩ (.slice ag G.mag.length cg)).setCell ⟨P, 2, none⟩ (.int .i64 G.exp) = V8 at *
  have q0 := P4.1.c0
  have q1 := P4.1.c1
  have q2 := P4.1.c2
  go_upto_region 25 with (go_at_call 15; refine (oC _ _ _ P4.1.row).mono ?_; rintro e v9 ⟨ak, ck, rfl, rk, fk, b9⟩; have HE6 := P4.1.six P4.2 b9; have k0 := HE6.1.c0; have k1 := HE6.1.c1; have k2 := HE6.1.c2; obtain ⟨f0, f1, f2⟩ := HE6.2)
  have P9 := put3r (c := ck) (E := K) HE6.1 HE6.2 rk fk s8
  have B9 : Below P V0 _ := (((B8.trans (b9.mono (Nat.le_of_lt s8))).setCell (p := ⟨P, 0, none⟩) (Nat.le_refl _) (.bool K.neg)).setCell (p := ⟨P, 1, none⟩) (Nat.le_refl _) (.slice ak K.mag.length ck)).setCell (p := ⟨P, 2, none⟩) (Nat.le_refl _) (.int .i64 K.exp)
  clear k0 k1 k2 f0 f1 f2 HE6 q0 q1 q2
  generalize ((v9.setCell ⟨P, 0, none⟩ (.bool K.neg)).setCell ⟨P, 1, none⟩ (.slice ak K.mag.length ck)).setCell ⟨P, 2, none⟩ (.int .i64 K.exp) = V9 at *
  rw [← hP] at B9
  have HS9 := HS6.below B9
  have hT9 := tabW_below hT6 B9
  have BW := bth3 B6 B9
  have q0 := P9.1.c0
  have q1 := P9.1.c1
  have q2 := P9.1.c2
  have t0 := HS9.c0
  have t1 := HS9.c1
  have t2 := HS9.c2
  have rK := P9.1.row
  have rS := HS9.row
  clear P9 HS9 B9 B8 B6 HS6 HX6 HY6 HZ6 hT6
  go_upto_region 29 with (first
    | (go_at_call 16; refine (oK _ _ _ _ _ rK rS).mono ?_; rintro e va ⟨rfl, ba⟩; have BW := bth3 BW ba; have hT9 := tabW_below hT9 ba)
    | (go_at_call 17; refine (cpl _).mono ?_; rintro e w' ⟨rfl, h'⟩; subst w'))
  obtain ⟨m1, m2, m3⟩ := hM
  have y5 : (place lo).tmod 2 = 0 ↔ place lo % 2 = 0 := by
    have z1 := Int.tmod_add_mul_tdiv (place lo) 2
    have z2 : (place lo).tmod 2 < 2 := Int.tmod_lt_of_pos _ (by omega)
    have z3 := Int.tmod_lt_of_pos (-place lo) (show (0 : Int) < 2 by omega)
    rw [Int.neg_tmod] at z3
    generalize (place lo).tmod 2 = y at *
    generalize (place lo).tdiv 2 = z at *
    omega
  generalize hpl : (place lo).tmod 2 = t at *
  rcases Int.lt_trichotomy g 0 with c0 | c0 | c0
  · have r := m2 c0
    rw [decide_eq_true r] at x1
    rw [decide_eq_false (by omega)] at x2
    have g1 : ¬ g = 0 := by omega
    have g2 : ¬ 0 < g := by omega
    clear m1 m2 m3 p1 p4 r y5 hpl gb
    go_wp2_with (go_at_call 8; refine (rawake _ hT9).mono ?_; rintro e wz ⟨rfl, bz⟩; replace BW := bth3 BW bz)
    go_ret
    exact ⟨rfl, BW⟩
  · subst c0
    have r := m1 rfl
    by_cases hev : place lo % 2 = 0
    · have r2 := r.2 hev
      rw [decide_eq_true r2] at x1
      rw [decide_eq_false (by omega)] at x2
      have t0' : t = 0 := y5.2 hev
      subst t0'
      clear m1 m2 m3 p1 p4 r r2 y5 hev gb
      go_wp2_with (go_at_call 8; refine (rawake _ hT9).mono ?_; rintro e wz ⟨rfl, bz⟩; replace BW := bth3 BW bz)
      go_ret
      exact ⟨rfl, BW⟩
    · have r2 : ¬ place ne = place lo := fun h => hev (r.1 h)
      rw [decide_eq_false r2] at x1
      rw [decide_eq_true (by omega)] at x2
      have t0' : ¬ t = 0 := fun h => hev (y5.1 h)
      have t3 : (t == 0) = false := by simpa using t0'
      have t4 : (t != 0) = true := by simpa using t0'
      clear m1 m2 m3 p1 p4 r r2 y5 hev gb
      go_wp2_with (go_at_call 8; refine (rawake _ hT9).mono ?_; rintro e wz ⟨rfl, bz⟩; replace BW := bth3 BW bz)
      go_ret
      exact ⟨rfl, BW⟩
  · have r := m3 c0
    rw [decide_eq_false (by omega)] at x1
    rw [decide_eq_true r] at x2
    have g1 : ¬ g = 0 := by omega
    have g2 : ¬ g < 0 := by omega
    clear m1 m2 m3 p1 p4 r y5 hpl gb
    go_wp2_with (go_at_call 8; refine (rawake _ hT9).mono ?_; rintro e wz ⟨rfl, bz⟩; replace BW := bth3 BW bz)
    go_ret
    exact ⟨rfl, BW⟩
theorem nearest_law (x : Int) (a b c : Nat) (ha : a < 18446744073709551616) (hb : b < 18446744073709551616) (hc : c < 18446744073709551616) (w : World) (hT : TabW w) :
    Calls Tryd.prog 3 #[.int .i64 x, .float .f64 a, .float .f64 b, .float .f64 c] w fun e w' => e = .returned (.bool true) ∧ Below w.heap.size w w' := by
  rcases (show x % 4 = 0 ∨ x % 4 = 1 ∨ x % 4 = 2 ∨ x % 4 = 3 by omega) with h | h | h | h
  · exact near_0 x a b c h ha hb hc w hT
  · exact near_1 x a b c h ha hb hc w hT
  · exact near_2 x a b c h ha hb hc w hT
  · exact near_5 x a b c h ha hb hc w hT
end Go.Proofs.YtalkdjgmblabgabDoor
