/- The document's Left: the walk. -/
import Derived.Test.YtmbcmhncicbbjaaGreatDoorLF
import Derived.Test.YtmbcmhncicbbjaaGreatDoorXM
namespace Go.Proofs.YtmbcmhncicbbjaaGreatDoor
open Go.RowKit

/-- A number's limbs, not in the box P. -/
def NBk (w : World) (D : Dy) (o : Option Addr) (c P : Nat) : Prop := NS w o c D.mag ∧ ∀ b off, o = some ⟨b, off, none⟩ → D.mag.length ≠ 0 → b ≠ P
theorem NBk.below {w w' : World} {D : Dy} {o : Option Addr} {c P : Nat} (h : NBk w D o c P) (hb : Below w.heap.size w w') : NBk w' D o c P := ⟨h.1.below hb, h.2⟩
theorem NBk.nb {w : World} {D : Dy} {o : Option Addr} {c P : Nat} (h : NBk w D o c P) : Nb w D o P 0 := ⟨h.1.1, fun _ _ => Nat.zero_le _, h.2⟩
theorem NBk.put {w : World} {D : Dy} {o : Option Addr} {c P : Nat} (h : NBk w D o c P) (x y z : Value) : NBk (((w.setCell ⟨P, 0, none⟩ x).setCell ⟨P, 1, none⟩ y).setCell ⟨P, 2, none⟩ z) D o c P :=
  ⟨⟨((h.1.1.setCell x h.2).setCell y h.2).setCell z h.2, h.1.2⟩, h.2⟩
theorem NBk.new {w : World} {D : Dy} {o : Option Addr} {c : Nat} (h : NS w o c D.mag) (ob : Obj) : NBk (w.alloc ob) D o c w.heap.size := ⟨h.below ((Below.refl _ _).alloc (Nat.le_refl _) _), fun _b _off e l => Nat.ne_of_lt (by
  rcases h.1 with q | ⟨b', off', e', hc⟩
  · exact absurd q l
  · rw [e] at e'
    cases e'
    exact World.block_lt_of_cell? w _ (hc 0 (by omega)))⟩
theorem f2_len (x : Nat) : (f2D x).mag.length ≤ 1 := by
  have h1 : spF x < 9007199254740992 := by
    unfold spF
    split
    · omega
    · exact Nat.lt_of_le_of_lt (Nat.div_le_self _ _) (mg_lt (rung x))
  have hL : Lm [spF x] := fun y hy => by simp at hy; omega
  have h2 := lo_len hL
  rw [show vl [spF x] = spF x by simp [vl]] at h2
  exact h2
theorem rwL_fin2 {R C i : Nat} {ms : List Nat} (h : ms.all finB = true) (e : ms.length = R * C) (hi : i < R) : (rwL C ms i).all finB = true :=
  all_good fun j hj => by
    rw [rwL_len] at hj
    rw [rwL_at hj]
    exact fin_at h (by rw [e]; exact at_lt hi hj)
theorem zs_eq {R C : Nat} {ms xs bs zs : List Nat} (hl : zs.length = R) (hv : ∀ j, j < R → zs.getD j 0 = lfW (rwL C ms j) xs (bs.getD j 0)) : zs = lfL R C ms xs bs := by
  unfold lfL
  apply List.ext_getElem (by rw [toL'_len, hl])
  intro j h1 h2
  have h3 := hv j (by omega)
  rw [List.getD_eq_getElem?_getD, List.getElem?_eq_getElem h1] at h3
  simp only [Option.getD_some] at h3
  rw [h3]
  simp [toL']
set_option maxRecDepth 100000 in
set_option maxHeartbeats 4000000 in
theorem dleft_ok (R C n : Nat) (ms xs bs : List Nat) (ao xo bo : Option Addr) (cap xc bc : Nat) (w : World) (hM : GRow w ao ms) (hX : GRow w xo xs) (hB : GRow w bo bs) (fM : FW ms) (fX : FW xs) (fB : FW bs) (hR : R ≤ 48) (hC : C ≤ 48) (eM : Hid (ms.length = R * C)) (eN : Hid (ms.length = n)) (eX : Hid (xs.length = C)) (eB : Hid (bs.length = R)) (aM : ms.all finB = true) (aX : xs.all finB = true) (aB : bs.all finB = true)
    (cf : ∀ W, Calls Tryz.prog 27 #[mxV R C ao n cap, .slice xo C xc, .slice bo R bc] W fun e w' => e = .returned (.bool true) ∧ Below W.heap.size W w') :
    Calls Tryz.prog 11 #[mxV R C ao n cap, .slice xo C xc, .slice bo R bc] w fun e w' => GaveE w (if (lfL R C ms xs bs).all finB then (lfL R C ms xs bs, 0) else ([], 6)) e w' := by
  obtain ⟨A, hA⟩ : ∃ A, (if (lfL R C ms xs bs).all finB then (lfL R C ms xs bs, (0 : Int)) else ([], 6)) = A := ⟨_, rfl⟩
  have HA : Hid ((if (lfL R C ms xs bs).all finB then (lfL R C ms xs bs, (0 : Int)) else ([], 6)) = A) := hA
  rw [hA]
  clear hA
  have lM : ms.length ≤ 2304 := by rw [eM.out]; exact mul48 hR hC
  have cm := fun W h => rfinite14 ms ao cap W h fM (by omega)
  have cx := fun W h => rfinite14 xs xo xc W h fX (by rw [eX.out]; omega)
  have cb := fun W h => rfinite14 bs bo bc W h fB (by rw [eB.out]; omega)
  rw [aM, eN.out] at cm
  rw [aX, eX.out] at cx
  rw [aB, eB.out] at cb
  have M0 := B3.new w (.int .i64 R) (.int .i64 C) (.slice ao n cap) 24
  have bb0 : Below w.heap.size w (w.alloc (.cells #[.int .i64 R, .int .i64 C, .slice ao n cap] 24)) := below_one w _
  obtain ⟨i0, hi, hz0, hz1, hz2⟩ := info_parts Tryz.infoF
  go_enter Tryz.func11, Tryz.ntmps11
  go_upto_region 5 with (first
    | (go_at_call 27; refine (cf _).mono ?_; rintro e w1 ⟨rfl, b1⟩; have M1 := M0.below b1; obtain ⟨m0, m1, m2, _⟩ := id M1; have bb := bb0.trans (b1.mono bb0.size))
    | (go_at_call_of 28 (Value.slice ao n cap); refine (cm _ (hM.below bb)).mono ?_; rintro e w2 ⟨rfl, b2⟩; have M2 := M1.below b2; have bb2 := bb.trans (b2.mono bb.size))
    | (go_at_call_of 28 (Value.slice xo C xc); refine (cx _ (hX.below bb2)).mono ?_; rintro e w3 ⟨rfl, b3⟩; have M3 := M2.below b3; have bb3 := bb2.trans (b3.mono bb2.size))
    | (go_at_call_of 28 (Value.slice bo R bc); refine (cb _ (hB.below bb3)).mono ?_; rintro e w4 ⟨rfl, b4⟩; have M4 := M3.below b4; have bb4 := bb3.trans (b4.mono bb3.size)))
  clear cf cm cx cb M0 bb0 b1 b2 b3 b4 m0 m1 m2 M1 M2 M3 bb bb2 bb3
  go_wp2
  go_loopg [8, 9] R (fun gg v s wr => ∃ (i : Nat) (zs : List Nat), i ≤ R ∧ gg = R - i ∧ s = .int .i64 i ∧ Hid (zs.length = i) ∧ Hid (∀ j, j < i → zs.getD j 0 = lfW (rwL C ms j) xs (bs.getD j 0)) ∧ wr.ownsRow (w.heap.size + 1) 48 1 v i (fv zs) ∧ B3 wr w.heap.size (.int .i64 R) (.int .i64 C) (.slice ao n cap) ∧ w.heap.size + 1 ≤ wr.heap.size ∧ Below w.heap.size w wr)
  case atStart => exact ⟨0, [], Nat.zero_le _, rfl, rfl, rfl, fun j hj => by omega, World.ownsRow_nil _ _ _ _, M4, M4.2.2.2.2.2.2, bb4⟩
  case round =>
    clear M4 bb4
    obtain ⟨i, zs, hi', hgg, rfl, hzl, hzv, hown, MA, hsz, hb⟩ := hrel
    have HG : Hid (gk = R - i) := hgg
    clear hgg
    have a0 := MA.1
    by_cases hlt : i < R
    · have j1 : (i : Int) < (R : Int) := by omega
      have qb : i < bs.length := by rw [eB.out]; exact hlt
      rcases hB with h | ⟨bB, oB, rfl, hcB⟩
      · omega
      have lB := World.block_lt_of_cell? w _ (hcB i qb)
      have g3 := (hb.cell (p := ⟨bB, oB + i, none⟩) lB).trans (hcB i qb)
      have fb := fin_at aB qb
      have wb := fB.at qb
      obtain ⟨y0, ey0⟩ : ∃ y0, bs.getD i 0 = y0 := ⟨_, rfl⟩
      rw [ey0] at g3 fb wb
      have hF0 := fun W => rnum_any y0 wb fb W
      have hL0 : LfX (rwL C ms i) xs y0 0 (f2D y0) := lfX_zero fb
      generalize wr = wv at *
      go_upto_region 10 with (go_at_call 29; refine (hF0 _).mono ?_; rintro e w5 ⟨o5, c5, rfl, n5, f5, b5⟩)
      have i1' : Hd (w5.alloc (.cells #[.bool (f2D y0).neg, .slice o5 (f2D y0).mag.length c5, .int .i64 (f2D y0).exp] 56)) w5.heap.size (f2D y0) o5 c5 := ⟨by go_simp, by go_simp, by go_simp, n5.1.below ((Below.refl _ _).alloc (Nat.le_refl _) _)⟩
      have i2' : Fz (w5.alloc (.cells #[.bool (f2D y0).neg, .slice o5 (f2D y0).mag.length c5, .int .i64 (f2D y0).exp] 56)) w5.heap.size := ⟨by go_simp, by go_simp, by go_simp⟩
      have i3' : NBk (w5.alloc (.cells #[.bool (f2D y0).neg, .slice o5 (f2D y0).mag.length c5, .int .i64 (f2D y0).exp] 56)) (f2D y0) o5 c5 w5.heap.size := NBk.new n5 _
      have i4' : Below w5.heap.size w5 (w5.alloc (.cells #[.bool (f2D y0).neg, .slice o5 (f2D y0).mag.length c5, .int .i64 (f2D y0).exp] 56)) := (Below.refl _ _).alloc (Nat.le_refl _) _
      have hb5 := hb.trans (b5.mono hb.size)
      have own5 := own_later hown b5
      have MA5 := MA.below b5
      have hsz5 : w.heap.size + 1 ≤ w5.heap.size := Nat.le_trans hsz b5.size
      generalize w5.alloc (.cells #[.bool (f2D y0).neg, .slice o5 (f2D y0).mag.length c5, .int .i64 (f2D y0).exp] 56) = W5 at *
      generalize hd5 : f2D y0 = d5 at *
      obtain ⟨n5', m5', e5'⟩ := d5
      clear b5 hown MA hsz hb a0 g3 hF0 f5 n5 hd5 wb lB
      have HP : Hid (w.heap.size + 1 ≤ w5.heap.size) := hsz5
      generalize hPe : w5.heap.size = P at *
      go_wp2
      go_loopg [11] C (fun gg q wr => ∃ (k : Nat) (z : Dy) (zo : Option Addr) (zc : Nat), k ≤ C ∧ gg = C - k ∧ q = .int .i64 k ∧ Hid (LfX (rwL C ms i) xs y0 k z) ∧ Hid (Hd wr P z zo zc) ∧ Hid (Fz wr P) ∧ Hid (NBk wr z zo zc P) ∧ Hid (Below P w5 wr))
      case atStart => exact ⟨0, ⟨n5', m5', e5'⟩, o5, c5, Nat.zero_le _, rfl, rfl, hL0, i1', i2', i3', i4'⟩
      case round =>
        obtain ⟨k, z, zo, zc, hk, hgg, rfl, hSz, hH, hZ, hN, hBl⟩ := hrel
        have HG3 : Hid (gk = C - k) := hgg
        clear hgg i1' i2' i3' i4' hL0
        by_cases hlt3 : k < C
        · have j3 : (k : Int) < (C : Int) := by omega
          have bl3 := hBl.out
          rw [← hPe] at bl3
          have M9 := MA5.below bl3
          have bwr := hb5.trans (bl3.mono hb5.size)
          obtain ⟨p0, hp0⟩ : ∃ p0, i * C = p0 := ⟨_, rfl⟩
          obtain ⟨pk, hpk⟩ : ∃ pk, p0 + k = pk := ⟨_, rfl⟩
          have hpm : i * C + k < ms.length := by rw [eM.out]; exact at_lt hlt hlt3
          have hpx : k < xs.length := by rw [eX.out]; exact hlt3
          have l48 := mul48 hR hC
          have hpR : i * C + k < R * C := at_lt hlt hlt3
          have ex : (rwL C ms i).getD k 0 = ms.getD (i * C + k) 0 := rwL_at hlt3
          rw [hp0, hpk] at hpm ex hpR
          rcases hM with h | ⟨bM, oM, rfl, hcM⟩
          · omega
          rcases hX with h | ⟨bX, oX, rfl, hcX⟩
          · omega
          have lbM := World.block_lt_of_cell? w _ (hcM pk hpm)
          have lbX := World.block_lt_of_cell? w _ (hcX k hpx)
          have g1 := (bwr.cell (p := ⟨bM, oM + pk, none⟩) lbM).trans (hcM pk hpm)
          have g2 := (bwr.cell (p := ⟨bX, oX + k, none⟩) lbX).trans (hcX k hpx)
          have fx := fin_at aM hpm
          have fy := fin_at aX hpx
          have wx := fM.at hpm
          have wy := fX.at hpx
          obtain ⟨x, exx⟩ : ∃ x, ms.getD pk 0 = x := ⟨_, rfl⟩
          obtain ⟨y, eyy⟩ : ∃ y, xs.getD k 0 = y := ⟨_, rfl⟩
          rw [exx] at g1 fx wx ex
          rw [eyy] at g2 fy wy
          have hpn : (pk : Int) < (n : Int) := by rw [← eN.out]; omega
          have hw5 : IntKind.i64.wrap ((i : Int) * (C : Int)) = (p0 : Int) := by
            rw [← Int.natCast_mul, hp0]
            simp only [IntKind.wrap_i64]
            omega
          have hw7 : IntKind.i64.wrap ((p0 : Int) + (k : Int)) = (pk : Int) := by
            simp only [IntKind.wrap_i64]
            omega
          have aR : (rwL C ms i).all finB = true := rwL_fin2 aM eM.out hlt
          have lz := (lfX_len aR aX fb (by rw [eX.out, rwL_len]) (by rw [rwL_len]; exact hC) (k := k) (by rw [rwL_len]; exact hk) hSz.out).1
          have hX9 := fun W => rnum_any x wx fx W
          have hY9 := fun W => rnum_any y wy fy W
          have vx := f2_val fx
          have vy := f2_val fy
          have lx := f2_len x
          have ly := f2_len y
          have hTm : ∀ o c o' c' W, NS W o c (f2D x).mag → NS W o' c' (f2D y).mag → Calls Tryz.prog 30 #[.agg #[.bool (f2D x).neg, .slice o (f2D x).mag.length c, .int .i64 (f2D x).exp], .agg #[.bool (f2D y).neg, .slice o' (f2D y).mag.length c', .int .i64 (f2D y).exp]] W (GaveM W (t2D x y)) := fun o c o' c' W h1 h2 =>
            times_any (f2D x) (f2D y) o o' c c' W h1 h2 (lo_lm _) (lo_lm _) (by omega) (by omega) ⟨by have := vx.2.1; omega, by have := vx.2.2.1; omega⟩ ⟨by have := vy.2.1; omega, by have := vy.2.2.1; omega⟩
          obtain ⟨t1, t2, t3, t4, _, t6⟩ := t2_val fx fy
          have q1 := hSz.out.1
          have q3 := hSz.out.2.2.1
          have q4 := hSz.out.2.2.2.1
          have hPl := fun o c W (h1 : NS W zo zc z.mag) (h2 : NS W o c (t2D x y).mag) => plus_any z (mnD (t2D x y)) zo o zc c W h1 h2 q1 t1 (by omega) (by show (t2D x y).mag.length ≤ _; omega) (by omega) (by omega) (by show _ ≤ (t2D x y).exp; omega) (by show (t2D x y).exp ≤ _; omega)
          have HSt : Hid (∀ q, PlusV z (mnD (t2D x y)) q → (q.mag = lo (vl q.mag) ∨ q.mag = z.mag ∨ q.mag = (mnD (t2D x y)).mag) → LfX (rwL C ms i) xs y0 (k + 1) q) := fun q h1 h2 => lfX_step ex eyy fx fy hSz.out h1 h2
          obtain ⟨a0, a1, a2, _⟩ := id M9
          have qA : w.heap.size < wr.heap.size := M9.2.2.2.2.2.2
          have qM : bM < wr.heap.size := Nat.lt_of_lt_of_le lbM bwr.size
          have qX : bX < wr.heap.size := Nat.lt_of_lt_of_le lbX bwr.size
          have hPw : P < wr.heap.size := World.block_lt_of_cell? wr _ hH.out.c0
          have hX := hX9
          have hY := hY9
          obtain ⟨B, hBe⟩ : ∃ B, wr.heap.size = B := ⟨_, rfl⟩
          have HH := hH.out
          have HZ := hZ.out
          have HN := hN.out
          clear hX9 hY9 vx vy lx ly t1 t2 t3 t4 t6 q1 q3 q4 lz aR fx fy wx wy ex exx eyy hcM hcX hpm hpx hpR l48 hSz hH hZ hN fb hzv hzl own5 MA5
          generalize hTe : t2D x y = T at *
          go_upto_region 13 with fail
          go_cut [12] from 49 to 69 (fun s12 wx => ∃ p ap cp, s12 = .pointer (some ⟨p, 0, none⟩) ∧ Hd wx p T ap cp ∧ Nc2 wx T ap cp p B ∧ B ≤ p ∧ Below wr.heap.size wr wx)
          case first =>
            refine region_inv (by kernel_rfl) (fun L a w' => ∃ v p, a = ⟨#[mxV R C (some ⟨bM, oM, none⟩) n cap, .slice (some ⟨bX, oX, none⟩) C xc, .slice (some ⟨bB, oB, none⟩) R bc, .pointer (some ⟨w.heap.size, 0, none⟩), undef, undef, .slice none 0 0, .int .i64 0, u8, .int .i64 i, .pointer (some ⟨P, 0, none⟩), .int .i64 k, v 17, .agg #[.int .i64 R, .int .i64 C, .slice (some ⟨bM, oM, none⟩) n cap], .slice (some ⟨bX, oX, none⟩) C xc, .slice (some ⟨bB, oB, none⟩) R bc, .bool true, .bool false, .pointer (some ⟨w.heap.size, 2, none⟩), .slice (some ⟨bM, oM, none⟩) n cap, .bool true, .bool false, .bool false, .slice (some ⟨bX, oX, none⟩) C xc, .bool true, .bool false, .bool false, .bool false, .slice (some ⟨bB, oB, none⟩) R bc, .bool true, .bool false, .bool false, .int .i64 i, .pointer (some ⟨w.heap.size, 0, none⟩), .int .i64 R, .bool true, u36, u37, .slice (some ⟨bB, oB, none⟩) R bc, .int .i64 i, .pointer (some ⟨bB, oB + i, none⟩), .float .f64 y0, .agg #[.bool n5', .slice o5 m5'.length c5, .int .i64 e5'], .int .i64 k, .pointer (some ⟨w.heap.size, 1, none⟩), .int .i64 C, .bool true, u47, u48, v 0, v 1, v 2, v 3, v 4, v 5, v 6, v 7, v 8, v 9, v 10, v 11, v 12, v 13, v 14, v 15, v 16, u66, u67, u68, u69, u70, u71, u72, u73, u74, undef, undef, undef, undef], []⟩ ∧ LxS (fun j => match j with | 0 => .pointer (some ⟨w.heap.size, 2, none⟩) | 1 => .slice (some ⟨bM, oM, none⟩) n cap | 2 => .int .i64 i | 3 => .pointer (some ⟨w.heap.size, 1, none⟩) | 4 => .int .i64 C | 5 => .int .i64 p0 | 6 => .int .i64 k | 7 => .int .i64 pk | 8 => .pointer (some ⟨bM, oM + pk, none⟩) | 9 => .float .f64 x | 11 => .slice (some ⟨bX, oX, none⟩) C xc | 12 => .int .i64 k | 13 => .pointer (some ⟨bX, oX + k, none⟩) | 14 => .float .f64 y | _ => undef) (f2D x) (f2D y) T B wr L w' v p) ?_ ?_ ?_
            · exact ⟨fun j => match j with | 0 => u49 | 1 => u50 | 2 => u51 | 3 => u52 | 4 => u53 | 5 => u54 | 6 => u55 | 7 => u56 | 8 => u57 | 9 => u58 | 10 => u59 | 11 => u60 | 12 => u61 | 13 => u62 | 14 => u63 | 15 => u64 | 16 => u65 | 17 => u12 | _ => undef, P, rfl, ⟨(Below.refl _ _).drew, hPw, fun h => absurd h on_no, fun j h => absurd h on_no⟩⟩
            · rintro L a w' i' hL ⟨v, p, rfl, hS⟩ hi
              obtain ⟨h1, h2, h3⟩ := mem_ready hi
              have h1 : i' < 19 := h1
              have hL : L.size = 19 := hL
              have hno := off_on (by rw [hL]; exact h1) h2
              have hcs : i' = 0 ∨ i' = 1 ∨ i' = 2 ∨ i' = 3 ∨ i' = 4 ∨ i' = 5 ∨ i' = 6 ∨ i' = 7 ∨ i' = 8 ∨ i' = 9 ∨ i' = 10 ∨ i' = 11 ∨ i' = 12 ∨ i' = 13 ∨ i' = 14 ∨ i' = 15 ∨ i' = 16 ∨ i' = 17 ∨ i' = 18 := by omega
              have bl := hS.bel
              have hws := bl.size
              rw [hBe] at hws
              have a1' := (bl.cell (p := ⟨w.heap.size, 1, none⟩) qA).trans a1
              have a2' := (bl.cell (p := ⟨w.heap.size, 2, none⟩) qA).trans a2
              have g1' := (bl.cell (p := ⟨bM, oM + pk, none⟩) qM).trans g1
              have g2' := (bl.cell (p := ⟨bX, oX + k, none⟩) qX).trans g2
              have ste := fun (w2 : World) (u : Value) (h18 : i' ≠ 18) hb hu => LxS.step (w' := w2) (u := u) hS (by rw [hL]; exact h1) h18 hb hu
              rcases hcs with rfl | rfl | rfl | rfl | rfl | rfl | rfl | rfl | rfl | rfl | rfl | rfl | rfl | rfl | rfl | rfl | rfl | rfl | rfl
              · refine wpOp_any (fun K hK => ?_)
                unfold wpOp
                go_simp
                refine Or.inl ?_
                exact hK _ _ ⟨_, p, rfl, ste _ _ (by decide) (Below.refl _ _) rfl⟩
              · have dn0 := ready_dep hi 0 (by kernel_rfl)
                have e0 : v 0 = .pointer (some ⟨w.heap.size, 2, none⟩) := hS.d 0 dn0
                refine wpOp_any (fun K hK => ?_)
                unfold wpOp
                go_simp
                refine Or.inl ?_
                exact hK _ _ ⟨_, p, (by simp [upd, e0]), ste _ _ (by decide) (Below.refl _ _) rfl⟩
              · refine wpOp_any (fun K hK => ?_)
                unfold wpOp
                go_simp
                refine Or.inl ?_
                exact hK _ _ ⟨_, p, rfl, ste _ _ (by decide) (Below.refl _ _) rfl⟩
              · refine wpOp_any (fun K hK => ?_)
                unfold wpOp
                go_simp
                refine Or.inl ?_
                exact hK _ _ ⟨_, p, rfl, ste _ _ (by decide) (Below.refl _ _) rfl⟩
              · have dn3 := ready_dep hi 3 (by kernel_rfl)
                have e3 : v 3 = .pointer (some ⟨w.heap.size, 1, none⟩) := hS.d 3 dn3
                refine wpOp_any (fun K hK => ?_)
                unfold wpOp
                go_simp
                refine Or.inl ?_
                exact hK _ _ ⟨_, p, (by simp [upd, e3]), ste _ _ (by decide) (Below.refl _ _) rfl⟩
              · have dn2 := ready_dep hi 2 (by kernel_rfl)
                have e2 : v 2 = .int .i64 i := hS.d 2 dn2
                have dn4 := ready_dep hi 4 (by kernel_rfl)
                have e4 : v 4 = .int .i64 C := hS.d 4 dn4
                refine wpOp_any (fun K hK => ?_)
                unfold wpOp
                go_simp
                refine Or.inl ?_
                exact hK _ _ ⟨_, p, (by simp [upd, e2, e4]), ste _ _ (by decide) (Below.refl _ _) rfl⟩
              · refine wpOp_any (fun K hK => ?_)
                unfold wpOp
                go_simp
                refine Or.inl ?_
                exact hK _ _ ⟨_, p, rfl, ste _ _ (by decide) (Below.refl _ _) rfl⟩
              · have dn5 := ready_dep hi 5 (by kernel_rfl)
                have e5 : v 5 = .int .i64 p0 := hS.d 5 dn5
                have dn6 := ready_dep hi 6 (by kernel_rfl)
                have e6 : v 6 = .int .i64 k := hS.d 6 dn6
                refine wpOp_any (fun K hK => ?_)
                unfold wpOp
                go_simp
                refine Or.inl ?_
                exact hK _ _ ⟨_, p, (by simp [upd, e5, e6]), ste _ _ (by decide) (Below.refl _ _) rfl⟩
              · have dn1 := ready_dep hi 1 (by kernel_rfl)
                have e1 : v 1 = .slice (some ⟨bM, oM, none⟩) n cap := hS.d 1 dn1
                have dn7 := ready_dep hi 7 (by kernel_rfl)
                have e7 : v 7 = .int .i64 pk := hS.d 7 dn7
                refine wpOp_any (fun K hK => ?_)
                unfold wpOp
                go_simp
                refine Or.inl ?_
                exact hK _ _ ⟨_, p, (by simp [upd, e1, e7]), ste _ _ (by decide) (Below.refl _ _) rfl⟩
              · have dn8 := ready_dep hi 8 (by kernel_rfl)
                have e8 : v 8 = .pointer (some ⟨bM, oM + pk, none⟩) := hS.d 8 dn8
                refine wpOp_any (fun K hK => ?_)
                unfold wpOp
                go_simp
                refine Or.inl ?_
                exact hK _ _ ⟨_, p, (by simp [upd, e8]), ste _ _ (by decide) (Below.refl _ _) rfl⟩
              · have dn9 := ready_dep hi 9 (by kernel_rfl)
                have e9 : v 9 = .float .f64 x := hS.d 9 dn9
                refine wpOp_any (fun K hK => ?_)
                unfold wpOp
                go_simp
                refine Or.inl ?_
                refine (hX _).mono (fun e w1 => ?_)
                rintro ⟨ox, cx, rfl, n1, f1, b1⟩
                exact hK _ _ ⟨_, p, (by simp [upd, e9]), ste _ _ (by decide) b1 ⟨ox, cx, rfl, Nc2.new n1 f1 hS.pl hws⟩⟩
              · refine wpOp_any (fun K hK => ?_)
                unfold wpOp
                go_simp
                refine Or.inl ?_
                exact hK _ _ ⟨_, p, rfl, ste _ _ (by decide) (Below.refl _ _) rfl⟩
              · refine wpOp_any (fun K hK => ?_)
                unfold wpOp
                go_simp
                refine Or.inl ?_
                exact hK _ _ ⟨_, p, rfl, ste _ _ (by decide) (Below.refl _ _) rfl⟩
              · have dn11 := ready_dep hi 11 (by kernel_rfl)
                have e11 : v 11 = .slice (some ⟨bX, oX, none⟩) C xc := hS.d 11 dn11
                have dn12 := ready_dep hi 12 (by kernel_rfl)
                have e12 : v 12 = .int .i64 k := hS.d 12 dn12
                refine wpOp_any (fun K hK => ?_)
                unfold wpOp
                go_simp
                refine Or.inl ?_
                exact hK _ _ ⟨_, p, (by simp [upd, e11, e12]), ste _ _ (by decide) (Below.refl _ _) rfl⟩
              · have dn13 := ready_dep hi 13 (by kernel_rfl)
                have e13 : v 13 = .pointer (some ⟨bX, oX + k, none⟩) := hS.d 13 dn13
                refine wpOp_any (fun K hK => ?_)
                unfold wpOp
                go_simp
                refine Or.inl ?_
                exact hK _ _ ⟨_, p, (by simp [upd, e13]), ste _ _ (by decide) (Below.refl _ _) rfl⟩
              · have dn14 := ready_dep hi 14 (by kernel_rfl)
                have e14 : v 14 = .float .f64 y := hS.d 14 dn14
                refine wpOp_any (fun K hK => ?_)
                unfold wpOp
                go_simp
                refine Or.inl ?_
                refine (hY _).mono (fun e w1 => ?_)
                rintro ⟨ox, cx, rfl, n1, f1, b1⟩
                exact hK _ _ ⟨_, p, (by simp [upd, e14]), ste _ _ (by decide) b1 ⟨ox, cx, rfl, Nc2.new n1 f1 hS.pl hws⟩⟩
              · have dn10 := ready_dep hi 10 (by kernel_rfl)
                have dn15 := ready_dep hi 15 (by kernel_rfl)
                obtain ⟨a1, c1, e1, n1⟩ : TM2 (f2D x) w' (v 10) p B := hS.d 10 dn10
                obtain ⟨a2, c2, e2, n2⟩ : TM2 (f2D y) w' (v 15) p B := hS.d 15 dn15
                refine wpOp_any (fun K hK => ?_)
                unfold wpOp
                go_simp
                refine Or.inl ?_
                refine (hTm _ _ _ _ _ n1.1 n2.1).mono (fun e w1 => ?_)
                rintro ⟨ox, cx, rfl, n3, f3, b3⟩
                exact hK _ _ ⟨_, p, (by simp [upd, e1, e2]), ste _ _ (by decide) b3 ⟨ox, cx, rfl, Nc2.new n3 f3 hS.pl hws⟩⟩
              · refine wpOp_any (fun K hK => ?_)
                unfold wpOp
                go_simp
                refine Or.inl ?_
                exact hK _ _ ⟨_, w'.heap.size, rfl, hS.stepA (by rw [hL]; decide) hno hws _⟩
              · have dn16 := ready_dep hi 16 (by kernel_rfl)
                have dn17 := ready_dep hi 17 (by kernel_rfl)
                obtain ⟨ap, cp, e1, n1⟩ : TM2 T w' (v 16) p B := hS.d 16 dn16
                obtain ⟨e2, hpW, ⟨G, o, c, hG⟩, z0, z1, z2⟩ : v 17 = .pointer (some ⟨p, 0, none⟩) ∧ B ≤ p ∧ (∃ G o c, Hd w' p G o c) ∧ Fz w' p := hS.d 17 dn17
                have q0 := hG.c0
                have q1 := hG.c1
                have q2 := hG.c2
                refine wpOp_any (fun K hK => ?_)
                unfold wpOp
                go_simp
                refine Or.inl ?_
                exact hK _ _ ⟨_, p, (by simp [upd, e1, e2]), hS.stepS (c := cp) (by rw [hL]; decide) dn17 (by rw [hBe]; exact hpW) n1 undef⟩
            · rintro L a w' hL ⟨v, p, rfl, hS⟩ hr
              have on := all_done hL hr (by kernel_rfl)
              obtain ⟨e2, hpW, _, _⟩ : v 17 = .pointer (some ⟨p, 0, none⟩) ∧ B ≤ p ∧ (∃ G o c, Hd w' p G o c) ∧ Fz w' p := hS.d 17 (on 17 (by decide))
              obtain ⟨ap, cp, hHp, hNp⟩ : ∃ ao cap, Hd w' p T ao cap ∧ Nc2 w' T ao cap p B := hS.d 18 (on 18 (by decide))
              have bl := hS.bel
              rw [e2]
              clear hS on hr
              generalize v 0 = x0
              generalize v 1 = x1
              generalize v 2 = x2
              generalize v 3 = x3
              generalize v 4 = x4
              generalize v 5 = x5
              generalize v 6 = x6
              generalize v 7 = x7
              generalize v 8 = x8
              generalize v 9 = x9
              generalize v 10 = x10
              generalize v 11 = x11
              generalize v 12 = x12
              generalize v 13 = x13
              generalize v 14 = x14
              generalize v 15 = x15
              generalize v 16 = x16
              dsimp only
              go_wp2
              go_meet
              case rel => exact ⟨p, ap, cp, rfl, hHp, hNp, hpW, bl⟩
          case rest =>
            obtain ⟨p, ap, cp, rfl, Hp, Np, hBp, bl4⟩ := hcut
            have H4 := HH.below bl4
            have F4 := HZ.below hPw bl4
            have N4 := HN.below bl4
            have hPc : P < wc.heap.size := Nat.lt_of_lt_of_le hPw bl4.size
            have bl5 : Below P w5 wc := by
              have hq := hBl.out
              exact hq.trans (bl4.mono (Nat.le_of_lt hPw))
            have hPB : P < B := by rw [← hBe]; exact hPw
            clear HH HZ HN bl4 M9 a0 a1 a2 g1 g2 qA qM qX hPw hX hY hTm hw5 hw7 hpn bwr bl3
            have r0 := H4.c0
            have r1 := H4.c1
            have r2 := H4.c2
            have s0 := Hp.c0
            have s1 := Hp.c1
            have s2 := Hp.c2
            have hMi := fun W => minus_any T ap cp W
            go_upto_region 14 with fail
            go_region_with (first
              | (go_at_call 32; refine (hMi _).mono ?_; rintro e v1 ⟨rfl, y1⟩; have z1 := undrew y1; have h5 := H4.below z1; have r0 := h5.c0; have r1 := h5.c1; have r2 := h5.c2)
              | (go_at_call 31; refine (hPl ap cp _ (N4.below z1).1 (Np.below z1).1).mono ?_; rintro e v2 ⟨q, qo, qc, rfl, hv, ⟨_, hln⟩, _, n3, y3⟩; have z2 := z1.trans (y3.mono z1.size); have h6 := H4.below z2; have f6 := F4.below hPc z2; have r0 := h6.c0; have r1 := h6.c1; have r2 := h6.c2; obtain ⟨f0, f1, f2⟩ := id f6))
            all_goals
              have hsz2 := z1.size
              have NQ : NBk v2 q qo qc P := ⟨n3, fun b off e l => by
                rcases hln with ⟨_, g⟩ | ⟨g, g'⟩ | ⟨g, g'⟩
                · have h := g _ e
                  simp only at h
                  omega
                · rw [g'] at e
                  rw [g] at l
                  exact N4.2 b off e l
                · rw [g'] at e
                  have h := Np.2.1 _ e
                  simp only at h
                  omega⟩
              have HQ := hd_put (c := qc) h6 NQ.nb
              have FQ : Fz (((v2.setCell ⟨P, 0, none⟩ (.bool q.neg)).setCell ⟨P, 1, none⟩ (.slice qo q.mag.length qc)).setCell ⟨P, 2, none⟩ (.int .i64 q.exp)) P := ⟨by simp [go_sem, f0], by simp [go_sem, f1], by simp [go_sem, f2]⟩
              have NP := NQ.put (.bool q.neg) (.slice qo q.mag.length qc) (.int .i64 q.exp)
              have BQ : Below P w5 (((v2.setCell ⟨P, 0, none⟩ (.bool q.neg)).setCell ⟨P, 1, none⟩ (.slice qo q.mag.length qc)).setCell ⟨P, 2, none⟩ (.int .i64 q.exp)) := (((bl5.trans (z2.mono (Nat.le_of_lt hPc))).setCell (Nat.le_refl _) _).setCell (Nat.le_refl _) _).setCell (Nat.le_refl _) _
              have HL1 : Hid (LfX (rwL C ms i) xs y0 (k + 1) q) := HSt.out q hv (hln.imp (fun h => h.1) (fun h => h.imp (fun h => h.1) (fun h => h.1)))
              go_wp2
              go_roundg (C - (k + 1))
              case measure => rw [HG3.out]; omega
              case rel => exact ⟨k + 1, q, qo, qc, by omega, rfl, by go_num, HL1, HQ, FQ, NP, BQ⟩
        · have ek : k = C := by omega
          subst ek
          have j3 : ¬ (k : Int) < (k : Int) := by omega
          have bl3 := hBl.out
          rw [← hPe] at bl3
          have M9 := MA5.below bl3
          obtain ⟨a0, a1, a2, _⟩ := id M9
          have bwr := hb5.trans (bl3.mono hb5.size)
          have own9 := own_later own5 bl3
          have hsz9 : w.heap.size + 1 ≤ wr.heap.size := Nat.le_trans hsz5 (by rw [← hPe]; exact bl3.size)
          have aR : (rwL k ms i).all finB = true := rwL_fin2 aM eM.out hlt
          have hz' := hSz.out
          have hlr : (rwL k ms i).length = k := rwL_len _ _ _
          have rnd := fun W (h : NS W zo zc z.mag) => rnd_lf aR aX fb (by rw [eX.out, hlr]) (by rw [hlr]; exact hC) z (by rw [hlr]; exact hz') zo zc W h
          obtain ⟨t, ht⟩ : ∃ t, lfW (rwL k ms i) xs y0 = t := ⟨_, rfl⟩
          rw [ht] at rnd
          have HSN : Hid ((zs ++ [t]).length = i + 1 ∧ ∀ j, j < i + 1 → (zs ++ [t]).getD j 0 = lfW (rwL k ms j) xs (bs.getD j 0)) := (show _ ∧ _ from by
            have h1 := hzl.out
            refine ⟨by rw [List.length_append, h1]; rfl, fun j hj => ?_⟩
            by_cases e : j = i
            · subst e
              rw [List.getD_eq_getElem?_getD, List.getElem?_append_right (by omega), h1, Nat.sub_self, ey0, ht]; rfl
            · rw [List.getD_eq_getElem?_getD, List.getElem?_append_left (by omega), ← List.getD_eq_getElem?_getD]
              exact hzv.out j (by omega))
          have HH := hH.out
          have HN := hN.out
          have r0 := HH.c0
          have r1 := HH.c1
          have r2 := HH.c2
          clear hSz hH hZ hN hBl hz' aR hlr hzv hzl own5 MA5 ht
          go_wp2_with (first
            | (go_at_call 33; refine (rnd _ HN.1).mono ?_; rintro e w6 ⟨rfl, b6⟩; have own6 := own_later own9 b6; have hsz6 : w.heap.size + 1 ≤ w6.heap.size := Nat.le_trans hsz9 b6.size; have M6 := M9.below b6; have bw6 := bwr.trans (b6.mono bwr.size); have HW : ∀ o, w.heap.size + 1 ≤ (w6.alloc o).heap.size := (fun o => by simp; omega))
            | (at_builtin; refine wpList_append_own _ rfl _ _ 22 rfl (w.heap.size + 1) 48 i0 (.float .f64 0) 1 8 Tryz.underlying22 hi hz0 hz1 hz2 rfl (by decide) _ _ _ rfl (own6.alloc _) _ 1 1 [.float .f64 t] rfl rfl (World.news_of_block (cs := #[.float .f64 t]) (t := 48) (fr := (0, 0)) (heap_alloc_new _ _)) (by simp [Value.oneCell']) (by unfold maxLen; omega) (by omega) (HW _) ?_; intro v' w7 hown1 hgrow _))
          have hb7 : Below (w.heap.size + 1) w6 w7 := ((Below.refl _ _).alloc hsz6 _).grown hgrow (HW _) (fun k hk => (own6.lt k hk).1)
          have hown3 : w7.ownsRow (w.heap.size + 1) 48 1 v' (i + 1) (fv (zs ++ [t])) := by rw [fv_snoc]; exact hown1
          have MA3 : B3 w7 w.heap.size (.int .i64 R) (.int .i64 k) (.slice ao n cap) := M6.past hb7 (by omega)
          have hb4 := bw6.trans (hb7.mono (by omega))
          have hsz4 : w.heap.size + 1 ≤ w7.heap.size := Nat.le_trans hsz6 hb7.size
          clear hown1 hgrow HW own6 hb7
          go_roundg (R - (i + 1))
          case measure => rw [HG.out]; omega
          case rel => exact ⟨i + 1, zs ++ [t], by omega, rfl, by go_num, HSN.out.1, HSN.out.2, hown3, MA3, hsz4, hb4⟩
    · have ei : i = R := by omega
      subst ei
      have j1 : ¬ (i : Int) < (i : Int) := by omega
      have ez : zs = lfL i C ms xs bs := zs_eq hzl.out hzv.out
      obtain ⟨zo, zc, e, q1, q2, q3⟩ := owned_grow (xs := zs) (by rw [hzl.out]; exact hown)
      have fz : FW zs := by rw [ez]; exact lfL_fw i C ms xs bs
      have cz := fun W h => rfinite14 zs zo zc W h fz (by rw [hzl.out]; omega)
      obtain ⟨L, eL⟩ : ∃ L, zs.length = L := ⟨_, rfl⟩
      rw [eL] at e
      subst e
      clear hown hzv
      have hA := HA.out
      rw [← ez] at hA
      clear HA
      have EL : Hid (zs.length = L) := eL
      have q1' := fun W (h : Below wr.heap.size wr W) => q1.below h
      have Q1 : Hid (GRow wr zo zs) := q1
      have FZ : Hid (FW zs) := fz
      have Q2 : Hid (zs.length ≤ zc) := q2
      have cz' := cz _ q1
      rw [eL] at cz'
      clear ez cz fz q1 q2 hzl eL q1'
      cases fa : zs.all finB
      · rw [fa] at cz'
        rw [fa, if_neg (by decide)] at hA
        subst hA
        clear fa
        go_wp2_with (go_at_call 28; refine cz'.mono ?_; rintro e w9 ⟨rfl, b9⟩)
        exact bodyPost_ret (v := .tuple #[.slice none 0 0, .int .i64 6]) (by simp [results, Tryz.results11, go_sem]) rfl (GaveE.none 6 (hb.trans (b9.mono hb.size)))
      · rw [fa] at cz'
        rw [fa, if_pos rfl] at hA
        subst hA
        clear fa
        go_wp2_with (go_at_call 28; refine cz'.mono ?_; rintro e w9 ⟨rfl, b9⟩)
        exact bodyPost_ret (v := .tuple #[.slice zo L zc, .int .i64 0]) (by simp [results, Tryz.results11, go_sem]) rfl ⟨zo, zc, by rw [EL.out], Q1.out.below b9, FZ.out, Q2.out, q3.mono (by omega), hb.trans (b9.mono hb.size)⟩
end Go.Proofs.YtmbcmhncicbbjaaGreatDoor
