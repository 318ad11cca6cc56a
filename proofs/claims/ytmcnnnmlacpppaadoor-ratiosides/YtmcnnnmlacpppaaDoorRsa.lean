/- RatioSides: the walk. (Written by mkrsa.py.) -/
import Derived.Test.YtmcnnnmlacpppaaDoorRs9
import Derived.Deep.CutBlock
namespace Go.Proofs.YtmcnnnmlacpppaaDoor
open Go.RowKit

/-- What Of has told: a float's ratio, or that there is none. -/
def OfS (x : Nat) (g : Nat) (er : Int) (w : World) : Prop :=
  (er = 0 ∧ finB x = true ∧ ∃ (sa : Bool) (Na Da : Nat) (fo go : Option Addr) (fc gc : Nat), FlQ x sa Na Da ∧ B3q w g (.bool sa) (.slice fo (nl Na) fc) (.slice go (nl Da) gc) ∧ LS w fo fc (lo Na) ∧ LS w go gc (lo Da)) ∨ (er = 5 ∧ finB x = false)
theorem OfS.below {x g : Nat} {er : Int} {w w' : World} (h : OfS x g er w) (hb : Below w.heap.size w w') : OfS x g er w' := by
  rcases h with ⟨h1, h2, sa, Na, Da, fo, go, fc, gc, q, b, p1, p2⟩ | h
  · exact Or.inl ⟨h1, h2, sa, Na, Da, fo, go, fc, gc, q, b.below hb, p1.below hb, p2.below hb⟩
  · exact Or.inr h
set_option maxRecDepth 100000 in
set_option maxHeartbeats 16000000 in
theorem sides_law (n : Bool) (xs ys : List Nat) (ao bo : Option Addr) (ac bc : Nat) (x : Nat) (hx : x < 18446744073709551616) (w : World) (a1 : LS w ao ac xs) (b1 : LS w bo bc ys) (l1 : Lm xs) (m1 : Lm ys) (s1 : xs.length ≤ 17592186044416) (t1 : ys.length ≤ 17592186044416) (hT : TabW w) :
    Calls Tryd.prog 6 #[.agg #[.bool n, .slice ao xs.length ac, .slice bo ys.length bc], .float .f64 x] w fun e w' => e = .returned (.bool true) ∧ Below w.heap.size w w' := by
  have hTb : ∀ {w'}, Below w.heap.size w w' → TabW w' := fun h => tabW_below hT h
  have X0 := B3q.new w (.bool n) (.slice ao xs.length ac) (.slice bo ys.length bc) 25
  have hb := bal7q w (.cells #[.bool n, .slice ao xs.length ac, .slice bo ys.length bc] 25)
  have A := a1.below hb
  have B := b1.below hb
  go_enter Tryd.func6, Tryd.ntmps6
  go_upto_region 1 with fail
  generalize w.alloc (.cells #[.bool n, .slice ao xs.length ac, .slice bo ys.length bc] 25) = W0 at *
  clear a1 b1
  have caw := fun W hW => rawake_any W hW
  obtain ⟨x0, x1, x2, _, _, _, _, xlt⟩ := id X0
  by_cases hbig : 80 < xs.length + ys.length
  · have i1 : (80 : Int) < (xs.length : Int) + (ys.length : Int) := by omega
    go_wp2_with (go_at_call 22; refine (caw _ (hTb hb)).mono ?_; rintro e w2 ⟨rfl, q2⟩)
    go_ret
    exact ⟨rfl, hb.trans (q2.mono hb.size)⟩
  have i1 : ¬ (80 : Int) < (xs.length : Int) + (ys.length : Int) := by omega
  go_upto_region 3 with fail
  clear i1 x0 x1 x2
  go_cut [5, 6] from 20 (fun s5 s6 wx => ∃ (g : Nat) (er : Int), s5 = .pointer (some ⟨g, 0, none⟩) ∧ s6 = .int .i64 er ∧ OfS x g er wx ∧ Below W0.heap.size W0 wx)
  case first =>
    have c1 := rof_any x hx W0 (hTb hb)
    cases hf : finB x
    · rw [of_inf hf] at c1
      unfold GaveR at c1
      simp only at c1
      go_wp2_with (go_at_call 7; refine c1.mono ?_; rintro e w1 ⟨rfl, d1⟩)
      go_meet
      exact ⟨_, _, rfl, rfl, Or.inr ⟨rfl, hf⟩, bthq d1 (bal7q _ _)⟩
    · obtain ⟨sa, Na, Da, hQ⟩ := of_about hf
      rw [hQ.of] at c1
      unfold GaveR at c1
      simp only at c1
      go_wp2_with (go_at_call 7; refine c1.mono ?_; rintro e w1 ⟨fo, fc, go, gc, rfl, p1, q1, d1⟩)
      go_meet
      exact ⟨_, _, rfl, rfl, Or.inl ⟨rfl, hf, sa, Na, Da, fo, go, fc, gc, hQ, B3q.new _ _ _ _ _, p1.made _, q1.made _⟩, bthq d1 (bal7q _ _)⟩
  obtain ⟨g5, er, rfl, rfl, hO, d3⟩ := hcut
  replace X0 := X0.below d3
  replace A := A.below d3
  replace B := B.below d3
  replace hb := hb.trans (d3.mono hb.size)
  generalize wc = W3 at *
  clear d3
  go_upto_region 4 with fail
  go_cut [40] from 41 (fun s40 wx => s40 = .bool false ∧ Below W3.heap.size W3 wx)
  case first =>
    rcases id hO with ⟨rfl, hf, _⟩ | ⟨rfl, hf⟩
    · have hm := fun w => run_float_arith (P := Tryd.prog) w .sub 29 .f64 _ _ _ (sub_self hx hf)
      have ho : (FloatKind.f64.format.order 0 0 == some .eq) = true := by kernel_rfl
      clear hO
      go_wp2
      go_meet
      exact ⟨rfl, Below.refl _ _⟩
    · have hm := run_nan (P := Tryd.prog) .sub (Or.inl rfl) 29 x x (sub_inf hx hf) W3
      obtain ⟨h1, h2⟩ := nanW_nan x x W3
      have ho : (FloatKind.f64.format.order (nanW x x W3) 0 == some .eq) = false := by rw [ord_nan h2 (by omega) (Or.inl h1)]; rfl
      clear hO
      go_wp2
      go_meet
      exact ⟨rfl, (Below.refl _ _).drew⟩
  obtain ⟨rfl, d4⟩ := hcut
  replace X0 := X0.below d4
  replace A := A.below d4
  replace B := B.below d4
  replace hO := hO.below d4
  replace hb := hb.trans (d4.mono hb.size)
  generalize wc = W4 at *
  clear d4
  go_upto_block 0 with fail
  go_cut [7] from 8 (fun _ wx => Below W4.heap.size W4 wx)
  case first =>
    go_wp2_with fail
    go_loopg [7] 5 (fun g i wr => ∃ k : Nat, k ≤ 4 ∧ g = 5 - k ∧ i = .int .i8 k ∧ Below W4.heap.size W4 wr)
    case atStart => exact ⟨0, by omega, rfl, rfl, Below.refl _ _⟩
    case round =>
      obtain ⟨k, hk, hg, rfl, hbr⟩ := hrel
      have HG : Hid (_ = 5 - k) := hg
      clear hg
      rcases id (hO.below hbr) with ⟨rfl, hf, sa, Na, Da, fo, go, fc, gc, hQ, FB, p1, q1⟩ | ⟨rfl, hf⟩
      · clear hO
        by_cases hlt : k < 4
        · have j1 : (k : Int) ≤ 3 := by omega
          have hbk := rn_back hx hf hQ (k : Int)
          have cR := rround_any sa Na Da fo go fc gc (k : Int) wr p1 q1 (hTb (hb.trans (hbr.mono hb.size))) hQ.R
          generalize rnR sa Na Da (k : Int) = y at *
          have hwr : IntKind.i8.wrap ((k : Int) + 1) = ((k + 1 : Nat) : Int) := by
            have : k = 0 ∨ k = 1 ∨ k = 2 ∨ k = 3 := by omega
            rcases this with rfl | rfl | rfl | rfl <;> rfl
          obtain ⟨z0, z1, z2, _, _, _, _, _⟩ := id FB
          clear hQ FB p1 q1
          go_wp2_with (go_at_call 17; refine cR.mono ?_; rintro e w5 ⟨rfl, d5⟩)
          go_roundg (5 - (k + 1))
          case measure => rw [HG.out]; omega
          case rel => exact ⟨k + 1, by omega, rfl, by go_num, bthq hbr d5⟩
        · obtain rfl : k = 4 := by omega
          go_wp2
          go_meet
          exact hbr
      · clear hO
        go_wp2
        go_meet
        exact hbr
  replace X0 := X0.below hcut
  replace A := A.below hcut
  replace B := B.below hcut
  replace hb := hb.trans (hcut.mono hb.size)
  generalize wc = W5 at *
  clear hcut hO
  go_upto_region 12 with fail
  have ck := known_any n xs ys ao bo ac bc W5 A B l1 m1 (by omega) (by omega) (hTb hb)
  have R := knQ_right n (vl xs) (vl ys)
  obtain ⟨⟨k, N, D⟩, ek⟩ : ∃ r, knQ n (vl xs) (vl ys) = r := ⟨_, rfl⟩
  rw [ek] at ck R
  unfold GaveI at ck
  simp only at ck R
  clear ek A B
  obtain ⟨x0, x1, x2, xf0, xf1, xf2, _, _⟩ := id X0
  go_upto_region 13 with (go_at_call 23; refine ck.mono ?_; rintro e w6 ⟨po, pc, qo, qc, rfl, P, Qr, d6⟩; have X6 := X0.below d6; obtain ⟨y0, y1, y2, yf0, yf1, yf2, _, _⟩ := id X6)
  have XB := X6.fill (.bool k) (.slice po (nl N) pc) (.slice qo (nl D) qc)
  replace P := P.threeB X6 (.bool k) (.slice po (nl N) pc) (.slice qo (nl D) qc)
  replace Qr := Qr.threeB X6 (.bool k) (.slice po (nl N) pc) (.slice qo (nl D) qc)
  have hb6 := below_three (hb.trans (d6.mono hb.size)) (Nat.le_refl _) (.bool k) (.slice po (nl N) pc) (.slice qo (nl D) qc)
  generalize ((w6.setCell ⟨w.heap.size, 0, none⟩ (.bool k)).setCell ⟨w.heap.size, 1, none⟩ (.slice po (nl N) pc)).setCell ⟨w.heap.size, 2, none⟩ (.slice qo (nl D) qc) = W6 at *
  clear hb d6 X0 X6 x0 x1 x2 xf0 xf1 xf2 y0 y1 y2 yf0 yf1 yf2 ck l1 m1 s1 t1 hbig
  obtain ⟨kd, ku, kn, kz, S⟩ := sides_any R
  have c1 := fun W h1 h2 hW => rround_any k N D po qo pc qc 1 W h1 h2 hW R
  have c2 := fun W h1 h2 hW => rround_any k N D po qo pc qc 2 W h1 h2 hW R
  have c0 := fun W h1 h2 hW => rround_any k N D po qo pc qc 0 W h1 h2 hW R
  have c3 := fun W h1 h2 hW => rround_any k N D po qo pc qc 3 W h1 h2 hW R
  have cs := fun W h1 h2 hW => rsign_any k N D po qo pc qc W h1 h2 hW R
  rw [S.d] at c1
  rw [S.u] at c2
  rw [S.e] at c0
  rw [S.z] at c3
  have dl := (wd_rung (n := k) S.ld).2.2.1
  have ul := (wd_rung (n := k) S.lu).2.2.1
  have cB := fun W h1 h2 hW => below_any (wd k kd) dl k N D R S.bel po qo pc qc W h1 h2 hW
  have cA := fun W h1 h2 hW => above_any (wd k ku) ul k N D R S.abv po qo pc qc W h1 h2 hW
  have cE := fun (h : kd = ku) W h1 h2 hW => exact_any (wd k kd) dl k N D R S.bel (h ▸ S.abv) po qo pc qc W h1 h2 hW
  have cN := fun W h1 h2 hW => nearer_any k N D kd ku kn kz R S po qo pc qc W h1 h2 hW
  have cX := fun (h : kd ≠ ku) W => nextaft_any k kd S.ld (fun q => by have := (S.next h).1 q; have := S.lu; omega) (fun q => by have := (S.next h).2 q; omega) W
  have cX' : kd ≠ ku → (if k then kd - 1 else kd + 1) = ku := fun h => by
    cases k
    · simp only [Bool.false_eq_true, if_false]; exact ((S.next h).1 rfl).symm
    · simp only [if_true]; have := (S.next h).2 rfl; omega
  have o1 := wd_ne (n := k) S.le S.ld
  have o2 := wd_ne (n := k) S.le S.lu
  have o3 := wd_ne (n := k) S.ld S.lu
  have o4 := wd_eq (n := k) S.ld S.lu
  have o5 := wd_ne (n := k) S.lz S.ld
  have o6 := wd_ne (n := k) S.lz S.lu
  have o7 := wd_ne (n := k) S.lu S.lu
  have hnr := S.near
  have hzd := S.zd
  have hzu := S.zu
  generalize sgR k N = sg at *
  clear S
  have cXx : kd ≠ ku → ∀ W, Calls Tryd.prog 30 #[.float .f64 (wd k kd), .float .f64 9218868437227405312] W fun e w' => e = .returned (.float .f64 (wd k ku)) ∧ w' = W := fun h W => by have := cX h W; rw [cX' h] at this; exact this
  clear cX cX' dl ul
  generalize wd k kd = xd at *
  generalize wd k ku = xu at *
  generalize wd k kn = xn at *
  generalize wd k kz = xz at *
  obtain ⟨x0, x1, x2, _, _, _, _, _⟩ := id XB
  go_upto_region 14 with (go_at_call 17; refine (c1 _ P Qr (hTb hb6)).mono ?_; rintro e W13 ⟨rfl, d13⟩)
  replace XB := XB.below d13
  replace P := P.below d13
  replace Qr := Qr.below d13
  replace hb6 := hb6.trans (d13.mono hb6.size)
  clear x0 x1 x2 d13 c1
  obtain ⟨x0, x1, x2, _, _, _, _, _⟩ := id XB
  go_upto_region 15 with (go_at_call 17; refine (c2 _ P Qr (hTb hb6)).mono ?_; rintro e W14 ⟨rfl, d14⟩)
  replace XB := XB.below d14
  replace P := P.below d14
  replace Qr := Qr.below d14
  replace hb6 := hb6.trans (d14.mono hb6.size)
  clear x0 x1 x2 d14 c2
  obtain ⟨x0, x1, x2, _, _, _, _, _⟩ := id XB
  go_upto_region 16 with (go_at_call 17; refine (c0 _ P Qr (hTb hb6)).mono ?_; rintro e W15 ⟨rfl, d15⟩)
  replace XB := XB.below d15
  replace P := P.below d15
  replace Qr := Qr.below d15
  replace hb6 := hb6.trans (d15.mono hb6.size)
  clear x0 x1 x2 d15 c0
  obtain ⟨x0, x1, x2, _, _, _, _, _⟩ := id XB
  go_upto_region 17 with (go_at_call 17; refine (c3 _ P Qr (hTb hb6)).mono ?_; rintro e W16 ⟨rfl, d16⟩)
  replace XB := XB.below d16
  replace P := P.below d16
  replace Qr := Qr.below d16
  replace hb6 := hb6.trans (d16.mono hb6.size)
  clear x0 x1 x2 d16 c3
  obtain ⟨x0, x1, x2, _, _, _, _, _⟩ := id XB
  go_upto_region 18 with (go_at_call 16; refine (cs _ P.1 Qr.1 (hTb hb6)).mono ?_; rintro e W17 ⟨rfl, d17⟩)
  replace XB := XB.below d17
  replace P := P.below d17
  replace Qr := Qr.below d17
  replace hb6 := hb6.trans (d17.mono hb6.size)
  clear x0 x1 x2 d17 cs
  go_cut [128] from 129 (fun s wx => s = .bool false ∧ Below W17.heap.size W17 wx)
  case first =>
    have hne : Nonempty (LO7 W17) := LO7.any _
    have kb := fun u : LO7 W17 => (LO7.box XB u)
    simp only [forall_and] at kb
    obtain ⟨k0, k1, k2⟩ := kb
    have hTw := hTb hb6
    have cB' := fun u : LO7 W17 => cB u.val (P.below u.below) (Qr.below u.below) (tabW_below hTw u.below)
    have cA' := fun u : LO7 W17 => cA u.val (P.below u.below) (Qr.below u.below) (tabW_below hTw u.below)
    clear cB cA cE cN cXx caw
    have hcs : kn = kd ∨ (kn ≠ kd ∧ kn = ku) := by
      rcases hnr with h | h
      · exact Or.inl h
      · by_cases q : kn = kd
        · exact Or.inl q
        · exact Or.inr ⟨q, h⟩
    rcases hcs with h | ⟨h, h'⟩
    · rw [decide_eq_false (fun c => c h)] at o1
      clear h o2 o3 o4 o5 o6 o7 hnr hzd hzu
      refine region_plain7 (fun O hO => ?_)
      repeat (quiet_step (first
        | (go_at_call 28; exact later7 (cB' _))
        | (go_at_call 29; exact later7 (cA' _))))
      refine wpQuiet_nil ?_
      rintro wd7 ⟨u7, rfl⟩
      have d7 := u7.below
      go_wp2
      go_meet
      exact ⟨rfl, d7⟩
    · rw [decide_eq_true h] at o1
      rw [decide_eq_false (fun c => c h')] at o2
      clear h h' o3 o4 o5 o6 o7 hnr hzd hzu
      refine region_plain7 (fun O hO => ?_)
      repeat (quiet_step (first
        | (go_at_call 28; exact later7 (cB' _))
        | (go_at_call 29; exact later7 (cA' _))))
      refine wpQuiet_nil ?_
      rintro wd7 ⟨u7, rfl⟩
      have d7 := u7.below
      go_wp2
      go_meet
      exact ⟨rfl, d7⟩
  obtain ⟨rfl, d18⟩ := hcut
  replace XB := XB.below d18
  replace P := P.below d18
  replace Qr := Qr.below d18
  replace hb6 := hb6.trans (d18.mono hb6.size)
  generalize wc = W18 at *
  clear d18
  clear cB cA o1 o2 hnr
  go_upto_region 20 with fail
  go_cut [167] from 168 (fun s wx => s = .bool false ∧ Below W18.heap.size W18 wx)
  case first =>
    have hne : Nonempty (LO7 W18) := LO7.any _
    have kb := fun u : LO7 W18 => (LO7.box XB u)
    simp only [forall_and] at kb
    obtain ⟨k0, k1, k2⟩ := kb
    have hTw := hTb hb6
    have cE' := fun (h : kd = ku) (u : LO7 W18) => cE h u.val (P.below u.below) (Qr.below u.below) (tabW_below hTw u.below)
    have hsg : (sg ≤ 0 ∧ ¬ 0 ≤ sg) ∨ (0 ≤ sg ∧ ¬ sg ≤ 0) ∨ sg = 0 := by omega
    clear cE cN caw
    by_cases hk : kd = ku
    · have cE2 := cE' hk
      rw [decide_eq_false (fun c => c hk)] at o3
      rw [decide_eq_true hk] at o4
      have hX : True := trivial
      rcases hsg with ⟨h1, h2⟩ | ⟨h1, h2⟩ | h1
      · have hz := hzu h1
        rw [decide_eq_false (fun c => c hz)] at o6
        clear o5 hz
        clear hk hzd hzu cE' cXx o7
        refine region_plain7 (fun O hO => ?_)
        repeat (quiet_step (first
          | (go_at_call 31; exact later7s (inf_any _))
          | (go_at_call 30; exact later7s (cX2 _))
          | (go_at_call 32; exact later7 (cE2 _))))
        refine wpQuiet_nil ?_
        rintro wd7 ⟨u7, rfl⟩
        have d7 := u7.below
        go_wp2
        go_meet
        exact ⟨rfl, d7⟩
      · have hz := hzd h1
        rw [decide_eq_false (fun c => c hz)] at o5
        clear o6 hz
        clear hk hzd hzu cE' cXx o7
        refine region_plain7 (fun O hO => ?_)
        repeat (quiet_step (first
          | (go_at_call 31; exact later7s (inf_any _))
          | (go_at_call 30; exact later7s (cX2 _))
          | (go_at_call 32; exact later7 (cE2 _))))
        refine wpQuiet_nil ?_
        rintro wd7 ⟨u7, rfl⟩
        have d7 := u7.below
        go_wp2
        go_meet
        exact ⟨rfl, d7⟩
      · have hz1 := hzd (by omega)
        have hz2 := hzu (by omega)
        rw [decide_eq_false (fun c => c hz1)] at o5
        rw [decide_eq_false (fun c => c hz2)] at o6
        subst h1
        clear hz1 hz2
        clear hk hzd hzu cE' cXx o7
        refine region_plain7 (fun O hO => ?_)
        repeat (quiet_step (first
          | (go_at_call 31; exact later7s (inf_any _))
          | (go_at_call 30; exact later7s (cX2 _))
          | (go_at_call 32; exact later7 (cE2 _))))
        refine wpQuiet_nil ?_
        rintro wd7 ⟨u7, rfl⟩
        have d7 := u7.below
        go_wp2
        go_meet
        exact ⟨rfl, d7⟩
    · have cX2 := cXx hk
      rw [decide_eq_true hk] at o3
      rw [decide_eq_false hk] at o4
      rw [decide_eq_false (fun c => c rfl)] at o7
      rcases hsg with ⟨h1, h2⟩ | ⟨h1, h2⟩ | h1
      · have hz := hzu h1
        rw [decide_eq_false (fun c => c hz)] at o6
        clear o5 hz
        clear hk hzd hzu cE' cXx
        refine region_plain7 (fun O hO => ?_)
        repeat (quiet_step (first
          | (go_at_call 31; exact later7s (inf_any _))
          | (go_at_call 30; exact later7s (cX2 _))
          | (go_at_call 32; exact later7 (cE2 _))))
        refine wpQuiet_nil ?_
        rintro wd7 ⟨u7, rfl⟩
        have d7 := u7.below
        go_wp2
        go_meet
        exact ⟨rfl, d7⟩
      · have hz := hzd h1
        rw [decide_eq_false (fun c => c hz)] at o5
        clear o6 hz
        clear hk hzd hzu cE' cXx
        refine region_plain7 (fun O hO => ?_)
        repeat (quiet_step (first
          | (go_at_call 31; exact later7s (inf_any _))
          | (go_at_call 30; exact later7s (cX2 _))
          | (go_at_call 32; exact later7 (cE2 _))))
        refine wpQuiet_nil ?_
        rintro wd7 ⟨u7, rfl⟩
        have d7 := u7.below
        go_wp2
        go_meet
        exact ⟨rfl, d7⟩
      · exact absurd ((hzd (by omega)).symm.trans (hzu (by omega))) hk
  obtain ⟨rfl, d20⟩ := hcut
  replace XB := XB.below d20
  replace P := P.below d20
  replace Qr := Qr.below d20
  replace hb6 := hb6.trans (d20.mono hb6.size)
  generalize wc = W20 at *
  clear d20
  clear cE cXx o3 o4 o5 o6 o7 hzd hzu
  go_upto_region 22 with fail
  have hne : Nonempty (LO7 W20) := LO7.any _
  have kb := fun u : LO7 W20 => (LO7.box XB u)
  simp only [forall_and] at kb
  obtain ⟨k0, k1, k2⟩ := kb
  have hTw := hTb hb6
  have cN' := fun u : LO7 W20 => cN u.val (P.below u.below) (Qr.below u.below) (tabW_below hTw u.below)
  have cW' := fun u : LO7 W20 => caw u.val (tabW_below hTw u.below)
  clear cN caw
  refine region_plain7 (fun O hO => ?_)
  repeat (quiet_step (first
    | (go_at_call 33; exact later7 (cN' _))
    | (go_at_call 22; exact later7 (cW' _))))
  refine wpQuiet_nil ?_
  rintro wd7 ⟨u7, rfl⟩
  have d7 := u7.below
  go_wp2
  go_ret
  exact ⟨rfl, hb6.trans (d7.mono hb6.size)⟩
end Go.Proofs.YtmcnnnmlacpppaaDoor
