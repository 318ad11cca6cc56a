/- SumsLost: what an addition, a product of two floats loses is told exactly. -/
import Derived.Test.YtemkcachndfncaaDoorLo1
import Derived.Test.YtemkcachndfncaaDoorLo3
import Derived.Test.YtemkcachndfncaaDoorZ8
namespace Go.Proofs.YtemkcachndfncaaDoor
open Go.RowKit

theorem pair_row (w : World) (x y : Nat) (t : TypeId) : GRow (w.alloc (.cells #[.float .f64 x, .float .f64 y] t)) (some ⟨w.heap.size, 0, none⟩) [x, y] := by
  refine Or.inr ⟨w.heap.size, 0, rfl, fun j hj => ?_⟩
  have hj' : j < 2 := hj
  rcases (by omega : j = 0 ∨ j = 1) with rfl | rfl
  · go_simp
  · go_simp
theorem fw_two {x y : Nat} (hx : x < 18446744073709551616) (hy : y < 18446744073709551616) : FW [x, y] := by
  intro z hz
  simp only [List.mem_cons, List.not_mem_nil, or_false] at hz
  rcases hz with rfl | rfl
  · exact hx
  · exact hy
theorem fin_two {x y : Nat} (hx : finB x = true) (hy : finB y = true) : [x, y].all finB = true := by simp [hx, hy]
theorem sI_two (x y : Nat) : sI [x, y] 2 = vI x + vI y := by
  show (0 : Int) + vI x + vI y = vI x + vI y
  rw [Int.zero_add]
theorem lsum_two (x y : Nat) (hx : x < 18446744073709551616) (hy : y < 18446744073709551616) (fx : finB x = true) (fy : finB y = true) (t : TypeId) (w : World) (hT : TabW w) :
    Calls Tryd.prog 10 #[.slice (some ⟨w.heap.size, 0, none⟩) 2 2] (w.alloc (.cells #[.float .f64 x, .float .f64 y] t)) (GaveSum (w.alloc (.cells #[.float .f64 x, .float .f64 y] t)) (sD [x, y] 2) (sD ([x, y].map rung) 2)) :=
  lsum_fin [x, y] _ 2 _ (tabW_alloc hT _) (pair_row w x y t) (fw_two hx hy) (show 2 ≤ 1125899906842624 by decide) (fin_two fx fy)
theorem sD_two {x y : Nat} (fx : finB x = true) (fy : finB y = true) {K : Nat} (hK : K = 64462) : rightB (sD [x, y] 2) = true ∧ Lm (sD [x, y] 2).mag ∧ qd (sD [x, y] 2) = (vI x + vI y) * 2 ^ K := by
  have := sD_qd (xs := [x, y]) (fin_two fx fy) (show 2 ≤ 1125899906842624 by decide) (k := 2) (show 2 ≤ 2 by decide) hK
  rw [sI_two] at this
  exact this
/-- Below 2^1022: four times that is no more than the greatest float. -/
theorem small_top {x W : Nat} (hW : IsTop W) (h : rung x < 9209861237972664320) : finB x = true ∧ 4 * (vI x).natAbs ≤ W := by
  refine ⟨by unfold finB; exact decide_eq_true (by omega), ?_⟩
  obtain ⟨U, hU⟩ : ∃ U : Nat, U = 2043 := ⟨_, rfl⟩
  have e1 := (d_val_kept (U := U) (k := 9007199254740991) (by omega) (Or.inr (by omega))).1
  have e2 := (d_val_kept (U := U + 2) (k := 9007199254740991) (by omega) (Or.inr (by omega))).1
  rw [show U * 4503599627370496 + 9007199254740991 = 9209861237972664319 by omega] at e1
  rw [show (U + 2) * 4503599627370496 + 9007199254740991 = 9218868437227405311 by omega, Nat.pow_add] at e2
  have h1 : (vI x).natAbs = val (rung x) := by unfold vI; split <;> omega
  have h2 := val_le_D (show rung x ≤ 9209861237972664319 by omega)
  unfold IsTop at hW
  rw [hW, h1, e2]
  rw [e1] at h2
  generalize (2 : Nat) ^ U = w at *
  generalize val (rung x) = v at *
  omega
theorem same_eq {s : Nat} (hs : s < 18446744073709551616) (fs : finB s = true) : (FloatKind.f64.format.order s s != some .eq) = false := by
  have := fin_rung fs
  rw [ord_eq hs hs (rung_nan (by omega)) (rung_nan (by omega)) rfl]; rfl
theorem lost_cmp {a b p r : Nat} (fp : finB p = true) (fr : finB r = true) (h : vI a * vI b = (vI p + vI r) * 2 ^ twP) {E : Dy} (FE : Fd E (vI a * vI b)) : sgI (qd E - qd (sD [p, r] 2)) = 0 := by
  rw [FE.2.2, (sD_two fp fr rfl).2.2, h, Int.mul_assoc, ← Int.pow_add, show twP + puH = 64462 from rfl, Int.sub_self]; rfl
set_option maxRecDepth 100000 in
set_option maxHeartbeats 8000000 in
theorem lost_law (a b : Nat) (ha : a < 18446744073709551616) (hb : b < 18446744073709551616) (w : World) (hT : TabW w) :
    Calls Tryd.prog 3 #[.float .f64 a, .float .f64 b] w fun e w' => e = .returned (.bool true) ∧ Below w.heap.size w w' := by
  have HB : Below w.heap.size w w := Below.refl _ _
  have cc : ∀ W, Calls Tryd.prog 8 #[.slice (some ⟨World.heap W |>.size, 0, none⟩) 2 2, .int .i64 1022] (World.alloc W (.cells #[.float .f64 a, .float .f64 b] 22)) fun e w' => e = .returned (.tuple #[.slice (some ⟨World.heap W |>.size, 0, none⟩) 2 2, .bool ([a, b].all fun x => decide (rung x < 9209861237972664320))]) ∧ w' = World.alloc W (.cells #[.float .f64 a, .float .f64 b] 22) := fun W =>
    lcut_any [a, b] (some ⟨World.heap W |>.size, 0, none⟩) 2 1022 9209861237972664320 _ (pair_row W a b _) (fw_two ha hb) (show 2 ≤ 200 by decide) (by decide) (ldexp_pow 1022 9209861237972664320 (by decide) (by decide) (by decide))
  obtain ⟨ok, hok⟩ : ∃ ok, ([a, b].all fun x => decide (rung x < 9209861237972664320)) = ok := ⟨_, rfl⟩
  rw [hok] at cc
  go_enter Tryd.func3, Tryd.ntmps3
  go_upto_if 36 with (first
    | (go_at_call 7; refine (uawake _ hT).mono ?_; rintro e w1 ⟨rfl, b1⟩)
    | (go_at_call 8; refine (cc _).mono ?_; rintro e w' ⟨rfl, h'⟩; subst w'))
  have g1 := pair_row w1 a b 22
  replace HB := (HB.trans b1).trans ((bal w1 (.cells #[.float .f64 a, .float .f64 b] 22)).mono (HB.trans b1).size)
  clear b1 cc
  obtain ⟨P1, hP1⟩ : ∃ P, P = w1.heap.size := ⟨_, rfl⟩
  rw [← hP1] at g1 ⊢
  have T1 := tabW_below hT HB
  generalize w1.alloc (.cells #[.float .f64 a, .float .f64 b] 22) = W1 at *
  clear hP1
  go_cut [7] from 8 (fun _ wx => Below w.heap.size w wx)
  case first =>
    cases ok
    · go_wp2_with fail
      go_meet
      exact HB
    · have k1 : rung a < 9209861237972664320 ∧ rung b < 9209861237972664320 := by simpa using hok
      obtain ⟨Wt, hW⟩ : ∃ Wt, IsTop Wt := ⟨_, rfl⟩
      obtain ⟨fa, ta⟩ := small_top hW k1.1
      obtain ⟨fb, tb⟩ := small_top hW k1.2
      obtain ⟨s, r, es, e1, e2, hs, fs, hr, fr, hv⟩ := twosum_exact ha hb fa fb hW ta tb
      have ct := fun W => twosum_any a b ha hb W
      rw [e1, e2] at ct
      have hDD : sD [s, r] 2 = sD [a, b] 2 := by unfold sD; rw [sI_two, sI_two, hv]
      have cs1 : ∀ W, TabW W → GRow W (some ⟨P1, 0, none⟩) [a, b] → Calls Tryd.prog 10 #[.slice (some ⟨P1, 0, none⟩) 2 2] W (GaveSum W (sD [a, b] 2) (sD ([a, b].map rung) 2)) := fun W h1 h2 => lsum_fin [a, b] _ 2 W h1 h2 (fw_two ha hb) (show 2 ≤ 1125899906842624 by decide) (fin_two fa fb)
      have cs2 := fun W h => lsum_two s r hs hr fs fr 22 W h
      rw [hDD] at cs2
      obtain ⟨rD, lD, _⟩ := sD_two fa fb (K := 64462) rfl
      have cm := fun ao bo cap bcap w h1 h2 => Cmp_right (sD [a, b] 2) (sD [a, b] 2) ao bo cap bcap w h1 h2 lD lD rD rD
      rw [Int.sub_self] at cm
      have qs := same_eq hs fs
      have hm := fun w => run_float_arith (P := Tryd.prog) w .add 22 .f64 _ _ _ es
      clear hok k1 ta tb e1 e2 hv hDD rD lD fa fb fs fr es hW ha hb hs hr
      generalize sD [a, b] 2 = D at *
      generalize sD ([a, b].map rung) 2 = Z at *
      generalize sD ([s, r].map rung) 2 = Z2 at *
      go_upto_region 6 with (go_at_call 9; refine (ct _).mono ?_; rintro e w2 ⟨s', r', rfl, n1, n2, b2⟩; obtain rfl := n1.2; obtain rfl := n2.2)
      replace HB := bth3 HB b2
      have T2 := tabW_below hT HB
      replace g1 := g1.below b2
      clear b2 ct T1 n1 n2
      go_upto_region 7 with (go_at_call 10; refine (cs1 _ T2 g1).mono ?_; rintro e w3 ⟨oa, ca, ob, cb, rfl, ra, rb, b3⟩)
      obtain ⟨V1, hV1⟩ : ∃ V, (w3.alloc (.cells #[.bool D.neg, .slice oa D.mag.length ca, .int .i64 D.exp] 31)).alloc (.cells #[.bool Z.neg, .slice ob Z.mag.length cb, .int .i64 Z.exp] 31) = V := ⟨_, rfl⟩
      have B1 : Below w3.heap.size w3 V1 := by rw [← hV1]; exact bth3 (bal _ _) (bal _ _)
      have HD : Hd V1 w3.heap.size D oa ca := by rw [← hV1]; exact (Hd.new ra).below (bal _ _)
      rw [hV1]
      replace HB := bth3 (bth3 HB b3) B1
      have T3 := tabW_below hT HB
      clear hV1 B1 ra rb b3 g1 T2 cs1
      generalize w3.heap.size = PD at *
      go_upto_region 8 with (go_at_call 10; refine (cs2 _ T3).mono ?_; rintro e w4 ⟨oc, cc, od, cd, rfl, rc, rd, b4⟩)
      obtain ⟨V2, hV2⟩ : ∃ V, (w4.alloc (.cells #[.bool D.neg, .slice oc D.mag.length cc, .int .i64 D.exp] 31)).alloc (.cells #[.bool Z2.neg, .slice od Z2.mag.length cd, .int .i64 Z2.exp] 31) = V := ⟨_, rfl⟩
      have B2 : Below w4.heap.size w4 V2 := by rw [← hV2]; exact bth3 (bal _ _) (bal _ _)
      have HE : Hd V2 w4.heap.size D oc cc := by rw [← hV2]; exact (Hd.new rc).below (bal _ _)
      rw [hV2]
      have B3 := bth3 (bth3 (bal V1 (.cells #[.float .f64 s', .float .f64 r'] 22)) b4) B2
      replace HD := HD.below B3
      replace HB := bth3 HB B3
      clear hV2 B2 B3 rc rd b4 T3 cs2
      generalize w4.heap.size = PE at *
      obtain ⟨x0, x1, x2, xr⟩ := id HD
      obtain ⟨y0, y1, y2, yr⟩ := id HE
      go_wp2_with (go_at_call 11; refine (cm _ _ _ _ _ xr yr).mono ?_; rintro e w5 ⟨rfl, b5⟩)
      go_meet
      exact bth3 HB b5
  clear hok g1 T1 HB
  have HB := hcut
  have T1 := tabW_below hT HB
  clear hcut hT
  generalize wc = W1 at *
  go_upto_region 12 with (go_at_call 12; refine (twoprod_any a b ha hb _ T1).mono ?_; rintro e w2 ⟨p, r, rfl, n1, n2, b2⟩)
  replace HB := bth3 HB b2
  replace T1 := tabW_below T1 b2
  clear b2
  cases fa : finB a
  · have c1 := fin_no a ha fa
    clear n1 n2
    go_wp2_with (go_at_call_of 13 (Value.float FloatKind.f64 a); refine (c1 _).mono ?_; rintro e w' ⟨rfl, h'⟩; subst w')
    go_ret
    exact ⟨rfl, HB.drew⟩
  cases fb : finB b
  · have c1 := fin_yes a ha fa
    have c2 := fin_no b hb fb
    clear n1 n2
    go_wp2_with (first
      | (go_at_call_of 13 (Value.float FloatKind.f64 a); refine (c1 _).mono ?_; rintro e w' ⟨rfl, h'⟩; subst w')
      | (go_at_call_of 13 (Value.float FloatKind.f64 b); refine (c2 _).mono ?_; rintro e w' ⟨rfl, h'⟩; subst w'))
    go_ret
    exact ⟨rfl, HB.drew⟩
  obtain ⟨q, hq⟩ : ∃ q, floatBits .mul .f64 a b = some q := by
    rw [(fbits_map a b).2.2.1, read_fin ha fa, read_fin hb fb]; exact ⟨_, rfl⟩
  rw [hq] at n1
  obtain ⟨hp, rfl⟩ := n1
  have c1 := fin_yes a ha fa
  have c2 := fin_yes b hb fb
  cases fp : finB p
  · have c3 := fin_no p hp fp
    clear n2 hq
    go_wp2_with (first
      | (go_at_call_of 13 (Value.float FloatKind.f64 a); refine (c1 _).mono ?_; rintro e w' ⟨rfl, h'⟩; subst w')
      | (go_at_call_of 13 (Value.float FloatKind.f64 b); refine (c2 _).mono ?_; rintro e w' ⟨rfl, h'⟩; subst w')
      | (go_at_call_of 13 (Value.float FloatKind.f64 p); refine (c3 _).mono ?_; rintro e w' ⟨rfl, h'⟩; subst w'))
    go_ret
    exact ⟨rfl, HB.drew⟩
  have c3 := fin_yes p hp fp
  have za := zero_ne ha
  have zb := zero_ne hb
  have cab := abs_any p hp
  have cld := ldexp_pow (-969) 243194379878006784 (by decide) (by decide) (by decide)
  have zl := lt_sizes p (M := 243194379878006784) (by decide)
  by_cases hc : rung a ≠ 0 ∧ rung b ≠ 0 ∧ rung p < 243194379878006784
  · obtain ⟨h1, h2, h3⟩ := hc
    rw [show (rung a != 0) = true by simpa using h1] at za
    rw [show (rung b != 0) = true by simpa using h2] at zb
    rw [decide_eq_true h3] at zl
    clear h1 h2 h3 n2 hq
    go_wp2_with (first
      | (go_at_call_of 13 (Value.float FloatKind.f64 a); refine (c1 _).mono ?_; rintro e w' ⟨rfl, h'⟩; subst w')
      | (go_at_call_of 13 (Value.float FloatKind.f64 b); refine (c2 _).mono ?_; rintro e w' ⟨rfl, h'⟩; subst w')
      | (go_at_call_of 13 (Value.float FloatKind.f64 p); refine (c3 _).mono ?_; rintro e w' ⟨rfl, h'⟩; subst w')
      | (go_at_call 14; refine (cab _).mono ?_; rintro e w' ⟨rfl, h'⟩; subst w')
      | (go_at_call 15; refine (cld _).mono ?_; rintro e w' ⟨rfl, h'⟩; subst w'))
    go_ret
    exact ⟨rfl, HB⟩
  obtain ⟨r0, hr0, hr, fr, hv⟩ := twoprod_exact ha hb fa fb hq hp fp (by omega)
  rw [hr0] at n2
  obtain rfl := n2.2
  obtain ⟨X, eX, FX⟩ := fd_of fa
  obtain ⟨Y, eY, FY⟩ := fd_of fb
  obtain ⟨V', hV'⟩ : ∃ V : Nat, V = 2098 := ⟨_, rfl⟩
  have va := vI_lt fa hV'
  have vb := vI_lt fb hV'
  have hbl : bl (vI a * vI b).natAbs ≤ 16384 := bl_sm (n := V' + V') (by rw [Int.natAbs_mul, Nat.pow_add]; exact Nat.mul_lt_mul'' va vb) (by omega)
  have FE := fd_dz hbl
  have eE := fd_mul FX FY hbl
  have o1 := fun W h => Of_any a ha W h
  have o2 := fun W h => Of_any b hb W h
  rw [eX] at o1
  rw [eY] at o2
  have om := fun ao bo cap bcap w h1 h2 h3 => mul_any X Y ao bo cap bcap w h1 h2 FX.2.1 FY.2.1 h3
  rw [eE] at om
  have lc := lost_cmp fp fr hv FE
  obtain ⟨rS, lS, _⟩ := sD_two fp fr (K := 64462) rfl
  have oc := fun ao bo cap bcap w h1 h2 => Cmp_right (dz (vI a * vI b)) (sD [p, r] 2) ao bo cap bcap w h1 h2 FE.2.1 lS FE.1 rS
  rw [lc] at oc
  have os := fun W h => lsum_two p r hp hr fp fr 22 W h
  clear n2 hr0 hv eX eY FX FY va vb hbl FE eE lc rS lS hV' hq
  generalize dz (vI a * vI b) = E at *
  generalize sD [p, r] 2 = S at *
  generalize sD ([p, r].map rung) 2 = Z at *
  have hc' : (rung a != 0) = false ∨ ((rung a != 0) = true ∧ (rung b != 0) = false) ∨ ((rung a != 0) = true ∧ (rung b != 0) = true ∧ decide (rung p < 243194379878006784) = false) := by
    by_cases h1 : rung a = 0
    · exact Or.inl (by simpa using h1)
    · by_cases h2 : rung b = 0
      · exact Or.inr (Or.inl ⟨by simpa using h1, by simpa using h2⟩)
      · exact Or.inr (Or.inr ⟨by simpa using h1, by simpa using h2, decide_eq_false (fun h3 => hc ⟨h1, h2, h3⟩)⟩)
  clear hc
  go_cut [116] from 90 (fun s116 wx => s116 = .bool false ∧ wx = w2)
  case first =>
    rcases hc' with h1 | ⟨h1, h2⟩ | ⟨h1, h2, h3⟩
    · rw [h1] at za
      go_wp2_with (first
        | (go_at_call_of 13 (Value.float FloatKind.f64 a); refine (c1 _).mono ?_; rintro e w' ⟨rfl, h'⟩; subst w')
        | (go_at_call_of 13 (Value.float FloatKind.f64 b); refine (c2 _).mono ?_; rintro e w' ⟨rfl, h'⟩; subst w')
        | (go_at_call_of 13 (Value.float FloatKind.f64 p); refine (c3 _).mono ?_; rintro e w' ⟨rfl, h'⟩; subst w')
        | (go_at_call 14; refine (cab _).mono ?_; rintro e w' ⟨rfl, h'⟩; subst w')
        | (go_at_call 15; refine (cld _).mono ?_; rintro e w' ⟨rfl, h'⟩; subst w'))
      go_meet
      exact ⟨rfl, rfl⟩
    · rw [h1] at za
      rw [h2] at zb
      go_wp2_with (first
        | (go_at_call_of 13 (Value.float FloatKind.f64 a); refine (c1 _).mono ?_; rintro e w' ⟨rfl, h'⟩; subst w')
        | (go_at_call_of 13 (Value.float FloatKind.f64 b); refine (c2 _).mono ?_; rintro e w' ⟨rfl, h'⟩; subst w')
        | (go_at_call_of 13 (Value.float FloatKind.f64 p); refine (c3 _).mono ?_; rintro e w' ⟨rfl, h'⟩; subst w')
        | (go_at_call 14; refine (cab _).mono ?_; rintro e w' ⟨rfl, h'⟩; subst w')
        | (go_at_call 15; refine (cld _).mono ?_; rintro e w' ⟨rfl, h'⟩; subst w'))
      go_meet
      exact ⟨rfl, rfl⟩
    · rw [h1] at za
      rw [h2] at zb
      rw [h3] at zl
      go_wp2_with (first
        | (go_at_call_of 13 (Value.float FloatKind.f64 a); refine (c1 _).mono ?_; rintro e w' ⟨rfl, h'⟩; subst w')
        | (go_at_call_of 13 (Value.float FloatKind.f64 b); refine (c2 _).mono ?_; rintro e w' ⟨rfl, h'⟩; subst w')
        | (go_at_call_of 13 (Value.float FloatKind.f64 p); refine (c3 _).mono ?_; rintro e w' ⟨rfl, h'⟩; subst w')
        | (go_at_call 14; refine (cab _).mono ?_; rintro e w' ⟨rfl, h'⟩; subst w')
        | (go_at_call 15; refine (cld _).mono ?_; rintro e w' ⟨rfl, h'⟩; subst w'))
      go_meet
      exact ⟨rfl, rfl⟩
  obtain ⟨rfl, rfl⟩ := hcut
  clear hc' za zb zl cab cld c1 c2 c3
  go_upto_region 15 with (go_at_call 16; refine (o1 _ T1).mono ?_; rintro e w3 ⟨ax, cx, rfl, rx, _, b3⟩)
  obtain ⟨V1, hV1⟩ : ∃ V, w3.alloc (.cells #[.bool X.neg, .slice ax X.mag.length cx, .int .i64 X.exp] 31) = V := ⟨_, rfl⟩
  have B1 : Below wc.heap.size wc V1 := by rw [← hV1]; exact bth3 b3 (bal _ _)
  have HX : Hd V1 w3.heap.size X ax cx := by rw [← hV1]; exact Hd.new rx
  rw [hV1]
  replace HB := bth3 HB B1
  replace T1 := tabW_below T1 B1
  clear hV1 B1 b3 rx o1
  generalize w3.heap.size = PX at *
  go_upto_region 16 with (go_at_call 16; refine (o2 _ T1).mono ?_; rintro e w4 ⟨ay, cy, rfl, ry, _, b4⟩)
  obtain ⟨V2, hV2⟩ : ∃ V, w4.alloc (.cells #[.bool Y.neg, .slice ay Y.mag.length cy, .int .i64 Y.exp] 31) = V := ⟨_, rfl⟩
  have B2 : Below V1.heap.size V1 V2 := by rw [← hV2]; exact bth3 b4 (bal _ _)
  have HY : Hd V2 w4.heap.size Y ay cy := by rw [← hV2]; exact Hd.new ry
  rw [hV2]
  replace HX := HX.below B2
  replace HB := bth3 HB B2
  replace T1 := tabW_below T1 B2
  clear hV2 B2 b4 ry o2
  generalize w4.heap.size = PY at *
  obtain ⟨x0, x1, x2, xr⟩ := id HX
  obtain ⟨y0, y1, y2, yr⟩ := id HY
  go_upto_region 19 with (go_at_call 17; refine (om _ _ _ _ _ xr yr T1).mono ?_; rintro e w5 ⟨ae, ce, rfl, re, _, b5⟩)
  obtain ⟨V3, hV3⟩ : ∃ V, w5.alloc (.cells #[.bool E.neg, .slice ae E.mag.length ce, .int .i64 E.exp] 31) = V := ⟨_, rfl⟩
  have B3 : Below V2.heap.size V2 V3 := by rw [← hV3]; exact bth3 b5 (bal _ _)
  have HE : Hd V3 w5.heap.size E ae ce := by rw [← hV3]; exact Hd.new re
  rw [hV3]
  replace HB := bth3 HB B3
  replace T1 := tabW_below T1 B3
  clear hV3 B3 b5 re om x0 x1 x2 xr y0 y1 y2 yr HX HY
  generalize w5.heap.size = PE at *
  go_upto_region 20 with (go_at_call 10; refine (os _ T1).mono ?_; rintro e w6 ⟨ob, cb, od, cd, rfl, rb, rd, b6⟩)
  obtain ⟨V4, hV4⟩ : ∃ V, (w6.alloc (.cells #[.bool S.neg, .slice ob S.mag.length cb, .int .i64 S.exp] 31)).alloc (.cells #[.bool Z.neg, .slice od Z.mag.length cd, .int .i64 Z.exp] 31) = V := ⟨_, rfl⟩
  have B4 : Below w6.heap.size w6 V4 := by rw [← hV4]; exact bth3 (bal _ _) (bal _ _)
  have HS : Hd V4 w6.heap.size S ob cb := by rw [← hV4]; exact (Hd.new rb).below (bal _ _)
  rw [hV4]
  have B5 := bth3 (bth3 (bal V3 (.cells #[.float .f64 p, .float .f64 r] 22)) b6) B4
  replace HE := HE.below B5
  replace HB := bth3 HB B5
  clear hV4 B4 B5 b6 rb rd os T1
  generalize w6.heap.size = PS at *
  obtain ⟨x0, x1, x2, xr⟩ := id HE
  obtain ⟨y0, y1, y2, yr⟩ := id HS
  go_wp2_with (go_at_call 11; refine (oc _ _ _ _ _ xr yr).mono ?_; rintro e w7 ⟨rfl, b7⟩)
  go_ret
  exact ⟨rfl, bth3 HB b7⟩
end Go.Proofs.YtemkcachndfncaaDoor
