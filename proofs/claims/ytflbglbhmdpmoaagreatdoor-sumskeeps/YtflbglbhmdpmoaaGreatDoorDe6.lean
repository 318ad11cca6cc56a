/- What the document's DotExact (layer 6) answers. -/
import Derived.Test.YtflbglbhmdpmoaaGreatDoorDe5
import Derived.Test.YtflbglbhmdpmoaaGreatDoorDE
import Derived.Test.YtflbglbhmdpmoaaGreatDoorRB
namespace Go.Proofs.YtflbglbhmdpmoaaGreatDoor
open Go.RowKit

theorem Bhd.fresh {P n : Nat} {o : Option Addr} {w : World} (h : Frs w.heap.size o) (hp : P < w.heap.size) : Bhd P o n := Bhd.of_frs h hp
set_option maxRecDepth 100000 in
set_option maxHeartbeats 4000000 in
theorem rdotx_any (xs ys : List Nat) (ao bo : Option Addr) (cap cap2 : Nat) (m : Int) (w : World) (hr : GRow w ao xs) (hs : GRow w bo ys) (hF : FW xs) (hG : FW ys) (hn : xs.length ≤ 1125899906842624) (hm : ys.length ≤ 1125899906842624) :
    Calls Tryz.prog 10 #[.slice ao xs.length cap, .slice bo ys.length cap2, .int .i8 m] w fun e w' => e = .returned (.tuple #[.float .f64 (dxA xs ys m).1, .int .i64 (dxA xs ys m).2]) ∧ Below w.heap.size w w' := by
  have ca := fun w h => rall_any xs ao cap w h hF hn
  have cb := fun w h => rall_any ys bo cap2 w h hG hm
  by_cases hl : ys.length = xs.length
  case neg =>
    have e1 : dxA xs ys m = (0, 4) := by unfold dxA; rw [if_neg hl]
    have i1 : ((xs.length : Int) != (ys.length : Int)) = true := dxlen_ne (fun h => hl h.symm)
    rw [e1]
    clear hl e1
    go_enter Tryz.func10, Tryz.ntmps10
    go_wp2
    exact bodyPost_ret (v := .tuple #[.float .f64 0, .int .i64 4]) (by simp [results, Tryz.results10, go_sem]) rfl ⟨rfl, Below.refl _ _⟩
  have i1 : ((xs.length : Int) != (ys.length : Int)) = false := by simp; omega
  cases hf : xs.all finB
  · have e1 : dxA xs ys m = (0, 5) := by unfold dxA; rw [if_pos hl, hf]; rfl
    rw [hf] at ca
    rw [e1]
    clear hl e1 hf
    go_enter Tryz.func10, Tryz.ntmps10
    go_wp2_with (go_at_call 39; refine (ca _ hr).mono ?_; rintro e w1 ⟨rfl, b1⟩)
    exact bodyPost_ret (v := .tuple #[.float .f64 0, .int .i64 5]) (by simp [results, Tryz.results10, go_sem]) rfl ⟨rfl, b1⟩
  rw [hf] at ca
  cases hg : ys.all finB
  · have e1 : dxA xs ys m = (0, 5) := by unfold dxA; rw [if_pos hl, hf, hg]; rfl
    rw [hg] at cb
    rw [e1]
    clear hl e1 hf hg
    go_enter Tryz.func10, Tryz.ntmps10
    go_wp2_with (first
      | (go_at_call_of 39 (Value.slice ao xs.length cap); refine (ca _ hr).mono ?_; rintro e w1 ⟨rfl, b1⟩)
      | (go_at_call 39; refine (cb _ (hs.below b1)).mono ?_; rintro e w2 ⟨rfl, b2⟩))
    exact bodyPost_ret (v := .tuple #[.float .f64 0, .int .i64 5]) (by simp [results, Tryz.results10, go_sem]) rfl ⟨rfl, b1.trans (b2.mono b1.size)⟩
  rw [hg] at cb
  rw [dx_yes hl hf hg]
  have hX0 : ∀ W : World, Calls Tryz.prog 40 #[.float .f64 0] W (GaveM W (flD 0)) := fun W => exact00_any 0 (by omega) W
  have hS0 : DotX xs ys 0 (flD 0) := by
    obtain ⟨a1, a2, a3, a4, a5⟩ := fl_sum (x := 0) (by decide)
    refine ⟨a1, a2, by omega, by omega, ?_⟩
    have e0 : sv (flD 0) = 0 := by kernel_rfl
    rw [e0, Int.zero_mul]; rfl
  have hdl : Hid ((flD 0).mag.length = 0) := (show _ = _ by decide)
  have hOf := fun z h a c W => of_dotX xs ys hf hg hl hn z h m a c W
  obtain ⟨R, hR⟩ : ∃ R, dxW xs ys m = R := ⟨_, rfl⟩
  simp only [hR] at hOf ⊢
  clear hR
  generalize flD 0 = d0 at *
  obtain ⟨dn, dm, de⟩ := d0
  have HLN : Hid (ys.length = xs.length) := hl
  obtain ⟨n, hn'⟩ : ∃ n, ys.length = n := ⟨_, rfl⟩
  have HNY : Hid (ys.length = n) := hn'
  rw [hn'] at i1 cb ⊢
  clear hl hn' hm
  go_enter Tryz.func10, Tryz.ntmps10
  go_upto_region 7 with (first
    | (go_at_call_of 39 (Value.slice ao xs.length cap); refine (ca _ hr).mono ?_; rintro e w0 ⟨rfl, b0⟩)
    | (go_at_call 39; refine (cb _ (hs.below b0)).mono ?_; rintro e w1 ⟨rfl, b1'⟩; have b1 := b0.trans (b1'.mono b0.size))
    | (go_at_call 40; refine (hX0 _).mono ?_; rintro e w2 ⟨o2, c2, rfl, n2, f2, b2⟩; have B2 := b1.trans (b2.mono b1.size)))
  have i1' : Hd (w2.alloc (.cells #[.bool dn, .slice o2 dm.length c2, .int .i64 de] 53)) w2.heap.size ⟨dn, dm, de⟩ o2 c2 := Hd.newT (d := ⟨dn, dm, de⟩) n2.1
  have i2 : Fz (w2.alloc (.cells #[.bool dn, .slice o2 dm.length c2, .int .i64 de] 53)) w2.heap.size := ⟨by go_simp, by go_simp, by go_simp⟩
  have i3 : Bhd w2.heap.size o2 dm.length := fun _ _ _ h => absurd hdl.out h
  have i4 : Below w.heap.size w (w2.alloc (.cells #[.bool dn, .slice o2 dm.length c2, .int .i64 de] 53)) := B2.alloc B2.size _
  generalize hW0 : w2.alloc (.cells #[.bool dn, .slice o2 dm.length c2, .int .i64 de] 53) = W0 at *
  have i5 := n2.2
  have B3 := B2.size
  clear hW0 hX0 hdl f2 n2 b2 B2 ca cb b0 b1 b1'
  have HWP : Hid (w.heap.size ≤ w2.heap.size) := B3
  clear B3
  generalize w2.heap.size = P at *
  go_loopg [9] xs.length (fun g i wr => ∃ (k : Nat) (z : Dy) (zo : Option Addr) (zc : Nat), k ≤ xs.length ∧ g = xs.length - k ∧ i = .int .i64 k ∧ Hid (DotX xs ys k z) ∧ Hid (Hd wr P z zo zc) ∧ Hid (Fz wr P) ∧ Hid (Bhd P zo z.mag.length) ∧ Hid ((zo = none → zc = 0 ∧ z.mag.length = 0) ∧ z.mag.length ≤ zc) ∧ Hid (Below w.heap.size w wr))
  case atStart => exact ⟨0, ⟨dn, dm, de⟩, o2, c2, Nat.zero_le _, rfl, rfl, hS0, i1', i2, i3, i5, i4⟩
  case round =>
    clear i1' i2 i3 i4 i5 hS0
    obtain ⟨k, z, zo, zc, hk, hg', rfl, hSz, hH, hZ, hBh, hC, hBl⟩ := hrel
    have HG : Hid (gk = xs.length - k) := hg'
    clear hg'
    have hP : P < wr.heap.size := World.block_lt_of_cell? wr _ hH.out.c0
    by_cases hlt : k < xs.length
    · have hlt2 : k < ys.length := by rw [HLN.out]; exact hlt
      rcases hr with h | ⟨b, off, rfl, hc⟩
      · omega
      rcases hs with h | ⟨b2, off2, rfl, hd⟩
      · omega
      have qb := World.block_lt_of_cell? w _ (hc k hlt)
      have qd := World.block_lt_of_cell? w _ (hd k hlt2)
      have g1 := (hBl.out.cell (p := ⟨b, off + k, none⟩) qb).trans (hc k hlt)
      have g2 := (hBl.out.cell (p := ⟨b2, off2 + k, none⟩) qd).trans (hd k hlt2)
      have hx := hF.at hlt
      have hy := hG.at hlt2
      have fx := fin_at hf hlt
      have fy := fin_at hg hlt2
      obtain ⟨x, ex⟩ : ∃ x, xs.getD k 0 = x := ⟨_, rfl⟩
      rw [ex] at g1 hx fx
      obtain ⟨y, ey⟩ : ∃ y, ys.getD k 0 = y := ⟨_, rfl⟩
      rw [ey] at g2 hy fy
      have hX := fun W => exact00_any x hx W
      have hY := fun W => exact00_any y hy W
      have l1 := (dotX_len hf hg HLN.out hn hk hSz.out).1
      obtain ⟨t1, t2, t3, t4, _, t6⟩ := tm_sum fx fy
      have q1 := hSz.out.1
      have q3 := hSz.out.2.2.1
      have q4 := hSz.out.2.2.2.1
      have lx : (flD x).mag.length ≤ 1 := by
        show (lo _).length ≤ 1
        rw [lo_length]
        exact nl_le (n := 1) (by have := mg_lt53 (rung x); omega)
      have ly : (flD y).mag.length ≤ 1 := by
        show (lo _).length ≤ 1
        rw [lo_length]
        exact nl_le (n := 1) (by have := mg_lt53 (rung y); omega)
      have ux := fl_sum fx
      have uy := fl_sum fy
      have hTm : ∀ o c o' c' W, NS W o c (flD x).mag → NS W o' c' (flD y).mag → Calls Tryz.prog 42 #[.agg #[.bool (flD x).neg, .slice o (flD x).mag.length c, .int .i64 (flD x).exp], .agg #[.bool (flD y).neg, .slice o' (flD y).mag.length c', .int .i64 (flD y).exp]] W (GaveM W (tmD x y)) := fun o c o' c' W h1 h2 =>
        times_any (flD x) (flD y) o o' c c' W h1 h2 ux.1 uy.1 (by omega) (by omega) ⟨by have := ux.2.2.1; omega, by have := ux.2.2.2.1; omega⟩ ⟨by have := uy.2.2.1; omega, by have := uy.2.2.2.1; omega⟩
      have hPl := fun o c W (h1 : NS W zo zc z.mag) (h2 : NS W o c (tmD x y).mag) => plus_any z (tmD x y) zo o zc c W h1 h2 q1 t1 (by omega) (by omega) (by omega) (by omega) (by omega) (by omega)
      have HSt : Hid (∀ q, PlusV z (tmD x y) q → (q.mag = lo (vl q.mag) ∨ q.mag = z.mag ∨ q.mag = (tmD x y).mag) → DotX xs ys (k + 1) q) := fun q h1 h2 => dotX_step ex ey fx fy hSz.out h1 h2
      have HH := hH.out
      have HZ := hZ.out
      have HB := hBl.out
      have HZR : NBh wr z zo zc P := ⟨⟨HH.row, hC.out⟩, hBh.out⟩
      have j1 : (k : Int) < (xs.length : Int) := by omega
      have j2 : (k : Int) < (n : Int) := by rw [← HNY.out]; omega
      clear hSz hH hZ hBl hc hd ex ey q1 q3 q4 t1 t2 t3 t4 t6 l1 hOf hF hG lx ly ux uy hBh hC hf hg
      generalize tmD x y = tm at *
      generalize flD x = fdx at *
      generalize flD y = fdy at *
      go_wp2
      refine region_inv (by kernel_rfl) (fun L a w' => ∃ v, a = ⟨#[.slice (some ⟨b, off, none⟩) xs.length cap, .slice (some ⟨b2, off2, none⟩) n cap2, .int .i8 m, undef, undef, undef, .float .f64 0, .int .i64 0, .pointer (some ⟨P, 0, none⟩), .int .i64 k, .slice (some ⟨b, off, none⟩) xs.length cap, .int .i64 xs.length, .slice (some ⟨b2, off2, none⟩) n cap2, .int .i64 n, .bool false, .slice (some ⟨b, off, none⟩) xs.length cap, .bool true, .bool false, .bool false, .slice (some ⟨b2, off2, none⟩) n cap2, .bool true, .bool false, .bool false, .agg #[.bool dn, .slice o2 dm.length c2, .int .i64 de], .int .i64 k, .slice (some ⟨b, off, none⟩) xs.length cap, .int .i64 xs.length, .bool true, u28, u29, v 0, v 1, v 2, v 3, v 4, v 5, v 6, v 7, v 8, v 9, v 10, v 11, v 12, undef, undef, undef], []⟩ ∧ DoS P z zo zc (.slice (some ⟨b, off, none⟩) xs.length cap) (.slice (some ⟨b2, off2, none⟩) n cap2) (.pointer (some ⟨b, off + k, none⟩)) (.pointer (some ⟨b2, off2 + k, none⟩)) k x y fdx fdy tm wr L w' v) ?_ ?_ ?_
      · exact ⟨fun j => match j with | 0 => u30 | 1 => u31 | 2 => u32 | 3 => u33 | 4 => u34 | 5 => u35 | 6 => u36 | 7 => u37 | 8 => u38 | 9 => u39 | 10 => u40 | 11 => u41 | 12 => u42 | _ => undef, rfl, ⟨(Below.refl _ _).drew, Nat.le_refl _, HZR, ⟨z, zo, zc, HH.below (Below.refl _ _).drew⟩, HZ, fun _ => HH.below (Below.refl _ _).drew, fun h => absurd h on_no, fun j h => absurd h on_no⟩⟩
      · rintro L a w' i hL ⟨v, rfl, hS⟩ hi
        obtain ⟨h1, h2, h3⟩ := mem_ready hi
        have h1 : i < 14 := h1
        have hL : L.size = 14 := hL
        have hno := off_on (by rw [hL]; exact h1) h2
        have hcs : i = 0 ∨ i = 1 ∨ i = 2 ∨ i = 3 ∨ i = 4 ∨ i = 5 ∨ i = 6 ∨ i = 7 ∨ i = 8 ∨ i = 9 ∨ i = 10 ∨ i = 11 ∨ i = 12 ∨ i = 13 := by omega
        have bl := hS.bel
        have hPw : P < w'.heap.size := Nat.lt_of_lt_of_le hP hS.siz
        have hwP := HWP.out
        have g1 := (bl.cell (p := ⟨b, off + k, none⟩) (by show b < P; omega)).trans g1
        have g2 := (bl.cell (p := ⟨b2, off2 + k, none⟩) (by show b2 < P; omega)).trans g2
        have ste := fun (w2 : World) (u : Value) (h13 : i ≠ 13) hb hu => DoS.step (w' := w2) (u := u) hS (by rw [hL]; exact h1) h13 hb hu
        rcases hcs with rfl | rfl | rfl | rfl | rfl | rfl | rfl | rfl | rfl | rfl | rfl | rfl | rfl | rfl
        · have hO := hS.old (fun g => hno (hS.c g))
          have q0 := hO.c0
          have q1 := hO.c1
          have q2 := hO.c2
          refine wpOp_any (fun K hK => ?_)
          unfold wpOp
          go_simp
          refine Or.inl ?_
          exact hK _ _ ⟨_, rfl, ste _ _ (by decide) (Below.refl _ _) rfl⟩
        · refine wpOp_any (fun K hK => ?_)
          unfold wpOp
          go_simp
          refine Or.inl ?_
          exact hK _ _ ⟨_, rfl, ste _ _ (by decide) (Below.refl _ _) rfl⟩
        · refine wpOp_any (fun K hK => ?_)
          unfold wpOp
          go_simp
          refine Or.inl ?_
          exact hK _ _ ⟨_, rfl, ste _ _ (by decide) (Below.refl _ _) rfl⟩
        · have dn1 := ready_dep hi 1 (by kernel_rfl)
          have dn2 := ready_dep hi 2 (by kernel_rfl)
          have e0 : v 1 = .slice (some ⟨b, off, none⟩) xs.length cap := hS.d 1 dn1
          have e1 : v 2 = .int .i64 k := hS.d 2 dn2
          refine wpOp_any (fun K hK => ?_)
          unfold wpOp
          go_simp
          refine Or.inl ?_
          exact hK _ _ ⟨_, (by simp [upd, e0, e1]), ste _ _ (by decide) (Below.refl _ _) rfl⟩
        · have dn3 := ready_dep hi 3 (by kernel_rfl)
          have e2 : v 3 = .pointer (some ⟨b, off + k, none⟩) := hS.d 3 dn3
          refine wpOp_any (fun K hK => ?_)
          unfold wpOp
          go_simp
          refine Or.inl ?_
          exact hK _ _ ⟨_, (by simp [upd, e2]), ste _ _ (by decide) (Below.refl _ _) rfl⟩
        · have dn4 := ready_dep hi 4 (by kernel_rfl)
          have es : v 4 = .float .f64 x := hS.d 4 dn4
          refine wpOp_any (fun K hK => ?_)
          unfold wpOp
          go_simp
          refine Or.inl ?_
          refine (hX _).mono (fun e w1 => ?_)
          rintro ⟨ox, cx, rfl, n1, f1, b1⟩
          exact hK _ _ ⟨_, (by simp [upd, es]), ste _ _ (by decide) b1 ⟨ox, cx, rfl, n1, Bhd.of_frs f1 hPw⟩⟩
        · refine wpOp_any (fun K hK => ?_)
          unfold wpOp
          go_simp
          refine Or.inl ?_
          exact hK _ _ ⟨_, rfl, ste _ _ (by decide) (Below.refl _ _) rfl⟩
        · refine wpOp_any (fun K hK => ?_)
          unfold wpOp
          go_simp
          refine Or.inl ?_
          exact hK _ _ ⟨_, rfl, ste _ _ (by decide) (Below.refl _ _) rfl⟩
        · have dn6 := ready_dep hi 6 (by kernel_rfl)
          have dn7 := ready_dep hi 7 (by kernel_rfl)
          have e0 : v 6 = .slice (some ⟨b2, off2, none⟩) n cap2 := hS.d 6 dn6
          have e1 : v 7 = .int .i64 k := hS.d 7 dn7
          refine wpOp_any (fun K hK => ?_)
          unfold wpOp
          go_simp
          refine Or.inl ?_
          exact hK _ _ ⟨_, (by simp [upd, e0, e1]), ste _ _ (by decide) (Below.refl _ _) rfl⟩
        · have dn8 := ready_dep hi 8 (by kernel_rfl)
          have e2 : v 8 = .pointer (some ⟨b2, off2 + k, none⟩) := hS.d 8 dn8
          refine wpOp_any (fun K hK => ?_)
          unfold wpOp
          go_simp
          refine Or.inl ?_
          exact hK _ _ ⟨_, (by simp [upd, e2]), ste _ _ (by decide) (Below.refl _ _) rfl⟩
        · have dn9 := ready_dep hi 9 (by kernel_rfl)
          have es : v 9 = .float .f64 y := hS.d 9 dn9
          refine wpOp_any (fun K hK => ?_)
          unfold wpOp
          go_simp
          refine Or.inl ?_
          refine (hY _).mono (fun e w1 => ?_)
          rintro ⟨ox, cx, rfl, n1, f1, b1⟩
          exact hK _ _ ⟨_, (by simp [upd, es]), ste _ _ (by decide) b1 ⟨ox, cx, rfl, n1, Bhd.of_frs f1 hPw⟩⟩
        · have dn5 := ready_dep hi 5 (by kernel_rfl)
          have dn10 := ready_dep hi 10 (by kernel_rfl)
          obtain ⟨a1, c1, e1, n1⟩ : TN fdx w' (v 5) P := hS.d 5 dn5
          obtain ⟨a2, c2, e2, n2⟩ : TN fdy w' (v 10) P := hS.d 10 dn10
          refine wpOp_any (fun K hK => ?_)
          unfold wpOp
          go_simp
          refine Or.inl ?_
          refine (hTm _ _ _ _ _ n1.1 n2.1).mono (fun e w1 => ?_)
          rintro ⟨ox, cx, rfl, n3, f3, b3⟩
          exact hK _ _ ⟨_, (by simp [upd, e1, e2]), ste _ _ (by decide) b3 ⟨ox, cx, rfl, n3, Bhd.of_frs f3 hPw⟩⟩
        · have dn0 := ready_dep hi 0 (by kernel_rfl)
          have dn11 := ready_dep hi 11 (by kernel_rfl)
          have e0 : v 0 = .agg #[.bool z.neg, .slice zo z.mag.length zc, .int .i64 z.exp] := hS.d 0 dn0
          obtain ⟨a2, c2, e2, n2⟩ : TN tm w' (v 11) P := hS.d 11 dn11
          refine wpOp_any (fun K hK => ?_)
          unfold wpOp
          go_simp
          refine Or.inl ?_
          refine (hPl _ _ _ hS.zr.1 n2.1).mono (fun e w1 => ?_)
          rintro ⟨q, qo, qc, rfl, hv, hln, _, n3, b3⟩
          have hBq : Bhd P qo q.mag.length := by
            rcases hln.2 with ⟨_, h⟩ | ⟨h1, h2⟩ | ⟨h1, h2⟩
            · exact Bhd.of_frs h hPw
            · rw [h1, h2]; exact hS.zr.2
            · rw [h1, h2]; exact n2.2
          exact hK _ _ ⟨_, (by simp [upd, e0, e2]), ste _ _ (by decide) b3 ⟨q, hv, hln.2.imp (fun h => h.1) (fun h => h.imp (fun h => h.1) (fun h => h.1)), qo, qc, rfl, n3, hBq⟩⟩
        · have dn12 := ready_dep hi 12 (by kernel_rfl)
          have dn0 : On L 0 := ready_dep hi 0 (by kernel_rfl)
          obtain ⟨q, hv, ht, a1, c1, e1, n1⟩ : ∃ q, PlusV z tm q ∧ (q.mag = lo (vl q.mag) ∨ q.mag = z.mag ∨ q.mag = tm.mag) ∧ TN q w' (v 12) P := hS.d 12 dn12
          obtain ⟨G, go, gc, hG⟩ := id hS.box
          have q0 := hG.c0
          have q1 := hG.c1
          have q2 := hG.c2
          obtain ⟨z0, z1, z2⟩ := id hS.fz
          refine wpOp_any (fun K hK => ?_)
          unfold wpOp
          go_simp
          refine Or.inl ?_
          exact hK _ _ ⟨_, (by simp [upd, e1]), hS.stepS (by rw [hL]; decide) dn0 hv ht n1 undef⟩
      · rintro L a w' hL ⟨v, rfl, hS⟩ hr'
        have on := all_done hL hr' (by kernel_rfl)
        obtain ⟨q, qo, qc, hv, ht, hH2, hN2⟩ : ∃ q o c, PlusV z tm q ∧ (q.mag = lo (vl q.mag) ∨ q.mag = z.mag ∨ q.mag = tm.mag) ∧ Hd w' P q o c ∧ NBh w' q o c P := hS.d 13 (on 13 (by decide))
        have hS5 := HSt.out q hv ht
        have hBz := HB.trans (hS.bel.mono HWP.out)
        have hfz := hS.fz
        clear hS on hr' hX hY hTm hPl HSt HH HZ HZR
        generalize v 0 = y0
        generalize v 1 = y1
        generalize v 2 = y2
        generalize v 3 = y3
        generalize v 4 = y4
        generalize v 5 = y5
        generalize v 6 = y6
        generalize v 7 = y7
        generalize v 8 = y8
        generalize v 9 = y9
        generalize v 10 = y10
        generalize v 11 = y11
        generalize v 12 = y12
        go_wp2
        go_roundg (xs.length - (k + 1))
        case measure => rw [HG.out]; omega
        case rel => exact ⟨k + 1, q, qo, qc, by omega, rfl, by go_num, hS5, hH2, hfz, hN2.2, hN2.1.2, hBz⟩
    · have ek : k = xs.length := by omega
      subst ek
      have HH := hH.out
      have k0 := HH.c0
      have k1 := HH.c1
      have k2 := HH.c2
      have hc := fun W h => hOf z hSz.out zo zc W h
      have hrow : NS wr zo zc z.mag := ⟨HH.row, hC.out⟩
      have HB := hBl.out
      have j1 : ¬ (xs.length : Int) < (xs.length : Int) := by omega
      clear hOf hSz hH hZ hBh hC hBl
      obtain ⟨zn, zm, ze⟩ := z
      simp only at k0 k1 k2 hc hrow
      go_wp2_with (go_at_call 43; refine (hc _ hrow).mono ?_; rintro e w3 ⟨rfl, b3⟩)
      exact bodyPost_ret (v := .tuple #[.float .f64 R, .int .i64 0]) (by simp [results, Tryz.results10, go_sem]) rfl ⟨rfl, HB.trans (b3.mono HB.size)⟩
end Go.Proofs.YtflbglbhmdpmoaaGreatDoor
