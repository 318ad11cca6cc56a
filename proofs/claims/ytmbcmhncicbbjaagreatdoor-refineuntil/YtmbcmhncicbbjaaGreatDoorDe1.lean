/- What DotExact's closure answers. -/
import Derived.Test.YtmbcmhncicbbjaaGreatDoorDe0
namespace Go.Proofs.YtmbcmhncicbbjaaGreatDoor
open Go.RowKit

set_option maxRecDepth 100000 in
set_option maxHeartbeats 4000000 in
theorem dx1_any (n m b off cap b2 off2 cap2 A B k x y : Nat) (X Y P : Dy) (w : World) (hT : TabW w) (hx : x < 18446744073709551616) (hy : y < 18446744073709551616) (eX : ofD x = (X, 0)) (eY : ofD y = (Y, 0)) (eP : mulD X Y = (P, 0)) (lX : Lm X.mag) (lY : Lm Y.mag)
    (hc : w.cell? ⟨b, off + k, none⟩ = some (.float .f64 x)) (hd : w.cell? ⟨b2, off2 + k, none⟩ = some (.float .f64 y)) (hk : k < n) (hl : k < m) (hA : w.cell? ⟨A, 0, none⟩ = some (.slice (some ⟨b, off, none⟩) n cap)) (hB : w.cell? ⟨B, 0, none⟩ = some (.slice (some ⟨b2, off2, none⟩) m cap2)) :
    Calls Tryz.prog 80 #[.int .i64 k, .pointer (some ⟨A, 0, none⟩), .pointer (some ⟨B, 0, none⟩)] w (GaveD w P) := by
  have cx := fun W h => sexact_any x X hx eX W h
  have cy := fun W h => sexact_any y Y hy eY W h
  have om := fun ao bo cap bcap w h1 h2 h3 => mul_any X Y ao bo cap bcap w h1 h2 lX lY h3
  rw [eP] at om
  have i1 : (k : Int) < (n : Int) := by omega
  have i2 : (k : Int) < (m : Int) := by omega
  clear eX eY eP lX lY hx hy hk hl
  have qA := World.block_lt_of_cell? w _ hA
  have qB := World.block_lt_of_cell? w _ hB
  have qx := World.block_lt_of_cell? w _ hc
  have qy := World.block_lt_of_cell? w _ hd
  simp only at qA qB qx qy
  have hBq : Below w.heap.size w (w.alloc (.cells #[.bool false, .slice none 0 0, .int .i64 0] 99)) := (Below.refl _ _).alloc (Nat.le_refl _) _
  have hTq : TabW (w.alloc (.cells #[.bool false, .slice none 0 0, .int .i64 0] 99)) := tabW_alloc hT _
  have G0 : Hd (w.alloc (.cells #[.bool false, .slice none 0 0, .int .i64 0] 99)) w.heap.size dy0 none 0 := Hd.new (d := dy0) (Or.inl rfl)
  have Z0 : Fz (w.alloc (.cells #[.bool false, .slice none 0 0, .int .i64 0] 99)) w.heap.size := ⟨by go_simp, by go_simp, by go_simp⟩
  have hsz : (w.alloc (.cells #[.bool false, .slice none 0 0, .int .i64 0] 99)).heap.size = w.heap.size + 1 := by go_simp
  go_enter Tryz.func80, Tryz.ntmps80
  go_upto_region 1 with fail
  obtain ⟨wq, hwq⟩ : ∃ wq, w.alloc (.cells #[.bool false, .slice none 0 0, .int .i64 0] 99) = wq := ⟨_, rfl⟩
  rw [hwq] at hBq hTq G0 Z0 hsz ⊢
  clear hwq
  have kA := (hBq.cell (p := ⟨A, 0, none⟩) qA).trans hA
  have kB := (hBq.cell (p := ⟨B, 0, none⟩) qB).trans hB
  have kx := (hBq.cell (p := ⟨b, off + k, none⟩) qx).trans hc
  have ky := (hBq.cell (p := ⟨b2, off2 + k, none⟩) qy).trans hd
  clear hA hB hc hd
  refine region_inv (by kernel_rfl) (fun L a w' => ∃ v p, a = ⟨#[.int .i64 k, .pointer (some ⟨A, 0, none⟩), .pointer (some ⟨B, 0, none⟩), undef, .pointer (some ⟨w.heap.size, 0, none⟩), v 14, v 16, v 11, v 0, v 1, v 2, v 3, v 4, v 5, v 6, v 7, v 8, v 9, v 10, v 12, v 13, undef], []⟩ ∧ DxS (.slice (some ⟨b, off, none⟩) n cap) (.slice (some ⟨b2, off2, none⟩) m cap2) (.pointer (some ⟨b, off + k, none⟩)) (.pointer (some ⟨b2, off2 + k, none⟩)) k x y X Y P wq.heap.size wq L w' v p) ?_ ?_ ?_
  · exact ⟨fun _ => undef, w.heap.size, rfl, ⟨(Below.refl _ _).drew, by rw [show wq.drew.heap.size = wq.heap.size from rfl]; omega, fun h => absurd h on_no, fun j h => absurd h on_no⟩⟩
  · rintro L a w' i hL ⟨v, p, rfl, hS⟩ hi
    obtain ⟨h1, h2, h3⟩ := mem_ready hi
    have h1 : i < 17 := h1
    have hL : L.size = 17 := hL
    have hno := off_on (by rw [hL]; exact h1) h2
    have hcs : i = 0 ∨ i = 1 ∨ i = 2 ∨ i = 3 ∨ i = 4 ∨ i = 5 ∨ i = 6 ∨ i = 7 ∨ i = 8 ∨ i = 9 ∨ i = 10 ∨ i = 11 ∨ i = 12 ∨ i = 13 ∨ i = 14 ∨ i = 15 ∨ i = 16 := by omega
    have bl := hS.bel
    have hws := bl.size
    have kA := (bl.cell (p := ⟨A, 0, none⟩) (by show A < _; omega)).trans kA
    have kB := (bl.cell (p := ⟨B, 0, none⟩) (by show B < _; omega)).trans kB
    have kx := (bl.cell (p := ⟨b, off + k, none⟩) (by show b < _; omega)).trans kx
    have ky := (bl.cell (p := ⟨b2, off2 + k, none⟩) (by show b2 < _; omega)).trans ky
    have hT' := tabW_below hTq bl
    have ste := fun (w2 : World) (u : Value) (h15 : i ≠ 15) hb hu => DxS.step (w' := w2) (u := u) hS (by rw [hL]; exact h1) h15 hb hu
    rcases hcs with rfl | rfl | rfl | rfl | rfl | rfl | rfl | rfl | rfl | rfl | rfl | rfl | rfl | rfl | rfl | rfl | rfl
    · refine wpOp_any (fun K hK => ?_)
      unfold wpOp
      go_simp
      refine Or.inl ?_
      exact hK _ _ ⟨_, p, rfl, ste _ _ (by decide) (Below.refl _ _) rfl⟩
    · refine wpOp_any (fun K hK => ?_)
      unfold wpOp
      go_simp
      refine Or.inl ?_
      exact hK _ _ ⟨_, p, rfl, ste _ _ (by decide) (Below.refl _ _) rfl⟩
    · have dn0 := ready_dep hi 0 (by kernel_rfl)
      have dn1 := ready_dep hi 1 (by kernel_rfl)
      have e0 : v 0 = .slice (some ⟨b, off, none⟩) n cap := hS.d 0 dn0
      have e1 : v 1 = .int .i64 k := hS.d 1 dn1
      refine wpOp_any (fun K hK => ?_)
      unfold wpOp
      go_simp
      refine Or.inl ?_
      exact hK _ _ ⟨_, p, (by simp [upd, e0, e1]), ste _ _ (by decide) (Below.refl _ _) rfl⟩
    · have dn2 := ready_dep hi 2 (by kernel_rfl)
      have e2 : v 2 = .pointer (some ⟨b, off + k, none⟩) := hS.d 2 dn2
      refine wpOp_any (fun K hK => ?_)
      unfold wpOp
      go_simp
      refine Or.inl ?_
      exact hK _ _ ⟨_, p, (by simp [upd, e2]), ste _ _ (by decide) (Below.refl _ _) rfl⟩
    · have dn3 := ready_dep hi 3 (by kernel_rfl)
      have es : v 3 = .float .f64 x := hS.d 3 dn3
      refine wpOp_any (fun K hK => ?_)
      unfold wpOp
      go_simp
      refine Or.inl ?_
      refine (cx _ hT').mono (fun e w1 => ?_)
      rintro ⟨ax, cax, rfl, r1, f1, b1⟩
      exact hK _ _ ⟨_, p, (by simp [upd, es]), ste _ _ (by decide) b1 ⟨ax, cax, rfl, Nb.new r1 f1 hS.pl hws⟩⟩
    · refine wpOp_any (fun K hK => ?_)
      unfold wpOp
      go_simp
      refine Or.inl ?_
      exact hK _ _ ⟨_, p, rfl, ste _ _ (by decide) (Below.refl _ _) rfl⟩
    · refine wpOp_any (fun K hK => ?_)
      unfold wpOp
      go_simp
      refine Or.inl ?_
      exact hK _ _ ⟨_, p, rfl, ste _ _ (by decide) (Below.refl _ _) rfl⟩
    · have dn5 := ready_dep hi 5 (by kernel_rfl)
      have dn6 := ready_dep hi 6 (by kernel_rfl)
      have e0 : v 5 = .slice (some ⟨b2, off2, none⟩) m cap2 := hS.d 5 dn5
      have e1 : v 6 = .int .i64 k := hS.d 6 dn6
      refine wpOp_any (fun K hK => ?_)
      unfold wpOp
      go_simp
      refine Or.inl ?_
      exact hK _ _ ⟨_, p, (by simp [upd, e0, e1]), ste _ _ (by decide) (Below.refl _ _) rfl⟩
    · have dn7 := ready_dep hi 7 (by kernel_rfl)
      have e2 : v 7 = .pointer (some ⟨b2, off2 + k, none⟩) := hS.d 7 dn7
      refine wpOp_any (fun K hK => ?_)
      unfold wpOp
      go_simp
      refine Or.inl ?_
      exact hK _ _ ⟨_, p, (by simp [upd, e2]), ste _ _ (by decide) (Below.refl _ _) rfl⟩
    · have dn8 := ready_dep hi 8 (by kernel_rfl)
      have es : v 8 = .float .f64 y := hS.d 8 dn8
      refine wpOp_any (fun K hK => ?_)
      unfold wpOp
      go_simp
      refine Or.inl ?_
      refine (cy _ hT').mono (fun e w1 => ?_)
      rintro ⟨ax, cax, rfl, r1, f1, b1⟩
      exact hK _ _ ⟨_, p, (by simp [upd, es]), ste _ _ (by decide) b1 ⟨ax, cax, rfl, Nb.new r1 f1 hS.pl hws⟩⟩
    · have dn4 := ready_dep hi 4 (by kernel_rfl)
      have dn9 := ready_dep hi 9 (by kernel_rfl)
      obtain ⟨a1, c1, e1, n1⟩ : TD X w' (v 4) p wq.heap.size := hS.d 4 dn4
      obtain ⟨a2, c2, e2, n2⟩ : TD Y w' (v 9) p wq.heap.size := hS.d 9 dn9
      refine wpOp_any (fun K hK => ?_)
      unfold wpOp
      go_simp
      refine Or.inl ?_
      refine (om _ _ _ _ _ n1.1 n2.1 hT').mono (fun e w1 => ?_)
      rintro ⟨ap, cp, rfl, r3, f3, b3⟩
      exact hK _ _ ⟨_, p, (by simp [upd, e1, e2]), ste _ _ (by decide) b3 ⟨ap, cp, rfl, Nb.new r3 f3 hS.pl hws⟩⟩
    · have dn10 := ready_dep hi 10 (by kernel_rfl)
      obtain ⟨ap, cp, e1, n1⟩ : TT P w' (v 10) p wq.heap.size := hS.d 10 dn10
      refine wpOp_any (fun K hK => ?_)
      unfold wpOp
      go_simp
      refine Or.inl ?_
      exact hK _ _ ⟨_, p, (by simp [upd, e1]), ste _ _ (by decide) (Below.refl _ _) ⟨ap, cp, e1, n1⟩⟩
    · have dn11 := ready_dep hi 11 (by kernel_rfl)
      obtain ⟨ap, cp, e1, n1⟩ : TT P w' (v 11) p wq.heap.size := hS.d 11 dn11
      refine wpOp_any (fun K hK => ?_)
      unfold wpOp
      go_simp
      refine Or.inl ?_
      exact hK _ _ ⟨_, p, (by simp [upd, e1]), ste _ _ (by decide) (Below.refl _ _) ⟨ap, cp, rfl, n1⟩⟩
    · have dn11 := ready_dep hi 11 (by kernel_rfl)
      obtain ⟨ap, cp, e1, n1⟩ : TT P w' (v 11) p wq.heap.size := hS.d 11 dn11
      refine wpOp_any (fun K hK => ?_)
      unfold wpOp
      go_simp
      refine Or.inl ?_
      exact hK _ _ ⟨_, p, (by simp [upd, e1]), ste _ _ (by decide) (Below.refl _ _) rfl⟩
    · refine wpOp_any (fun K hK => ?_)
      unfold wpOp
      go_simp
      refine Or.inl ?_
      exact hK _ _ ⟨_, w'.heap.size, rfl, hS.stepA (by rw [hL]; decide) hno hws _⟩
    · have dn12 := ready_dep hi 12 (by kernel_rfl)
      have dn14 := ready_dep hi 14 (by kernel_rfl)
      obtain ⟨ap, cp, e1, n1⟩ : TD P w' (v 12) p wq.heap.size := hS.d 12 dn12
      obtain ⟨e2, hpW, ⟨G, o, c, hG⟩, z0, z1, z2⟩ : v 14 = .pointer (some ⟨p, 0, none⟩) ∧ wq.heap.size ≤ p ∧ (∃ G o c, Hd w' p G o c) ∧ Fz w' p := hS.d 14 dn14
      have q0 := hG.c0
      have q1 := hG.c1
      have q2 := hG.c2
      refine wpOp_any (fun K hK => ?_)
      unfold wpOp
      go_simp
      refine Or.inl ?_
      exact hK _ _ ⟨_, p, (by simp [upd, e1, e2]), hS.stepS (c := cp) (by rw [hL]; decide) dn14 hpW n1 undef⟩
    · have dn13 := ready_dep hi 13 (by kernel_rfl)
      have e2 : v 13 = .int .i64 0 := hS.d 13 dn13
      refine wpOp_any (fun K hK => ?_)
      unfold wpOp
      go_simp
      refine Or.inl ?_
      exact hK _ _ ⟨_, p, (by simp [upd, e2]), ste _ _ (by decide) (Below.refl _ _) rfl⟩
  · rintro L a w' hL ⟨v, p, rfl, hS⟩ hr
    have on := all_done hL hr (by kernel_rfl)
    obtain ⟨e2, hpW, _, _⟩ : v 14 = .pointer (some ⟨p, 0, none⟩) ∧ wq.heap.size ≤ p ∧ (∃ G o c, Hd w' p G o c) ∧ Fz w' p := hS.d 14 (on 14 (by decide))
    obtain ⟨ap, cp, hH, hN⟩ : ∃ ao cap, Hd w' p P ao cap ∧ Nb w' P ao p wq.heap.size := hS.d 15 (on 15 (by decide))
    have bl := hS.bel
    have G1 := G0.below bl
    have Z1 := Z0.below (by omega) bl
    have q0 := hH.c0
    have q1 := hH.c1
    have q2 := hH.c2
    have g0 := G1.c0
    have g1 := G1.c1
    have g2 := G1.c2
    obtain ⟨z0, z1, z2⟩ := Z1
    have bw := hBq.trans (bl.mono hBq.size)
    have hfr : Frs (w.heap.size + 1) ap := hN.2.1.mono (by omega)
    have ne1 : ¬ p = w.heap.size := by omega
    have ne2 : ¬ w.heap.size = p := by omega
    have hrow := hH.row
    rw [e2]
    clear hS on hr hN hH G1 G0 Z0 om cx cy
    generalize v 0 = x0
    generalize v 1 = x1
    generalize v 2 = x2
    generalize v 3 = x3
    generalize v 4 = x4
    generalize v 5 = x5
    generalize v 6 = x6
    generalize v 7 = x7
    generalize v 8 = x8
    generalize v 9 = x9
    generalize v 10 = x10
    generalize v 11 = x11
    generalize v 12 = x12
    generalize v 13 = x13
    generalize v 16 = x16
    go_wp2
    exact bodyPost_ret (v := .agg #[.bool P.neg, .slice ap P.mag.length cp, .int .i64 P.exp]) (by simp [results, Tryz.results80, go_sem, g0, g1, g2]) rfl ⟨ap, cp, rfl, ((hrow.box hfr (by omega) _ _).box hfr (by omega) _ _).box hfr (by omega) _ _, hfr.mono (by omega), ((bw.setCell (Nat.le_refl _) _).setCell (Nat.le_refl _) _).setCell (Nat.le_refl _) _⟩
end Go.Proofs.YtmbcmhncicbbjaaGreatDoor
