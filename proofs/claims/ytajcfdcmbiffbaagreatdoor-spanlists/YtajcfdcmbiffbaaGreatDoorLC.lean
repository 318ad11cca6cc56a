/- What Hull answers of any list, the program's and the document's. -/
import Derived.Test.YtajcfdcmbiffbaaGreatDoorLA
import Derived.Test.YtajcfdcmbiffbaaGreatDoorLB
import Derived.Test.YtajcfdcmbiffbaaGreatDoorZj
namespace Go.Proofs.YtajcfdcmbiffbaaGreatDoor
open Go.RowKit

/-- What stands in memory while a step of Dot is under way. -/
def DtM (w : World) (p q u v t0 t1 x0 x1 : Nat) (bb : Bool) (w' : World) : Prop := Below w.heap.size w w' ∧ Bx w' w.heap.size (.float .f64 0) (.float .f64 0) ∧ Bx w' p (.float .f64 (if bb then u else t0)) (.float .f64 (if bb then v else t1)) ∧ Bx w' q (.float .f64 x0) (.float .f64 x1)
set_option maxHeartbeats 1000000 in
theorem sdotL_shape (n m : Nat) (ao bo : Option Addr) (cap bcap : Nat) (h : n ≠ m) (w : World) :
    Calls Tryz.prog 10 #[.slice ao n cap, .slice bo m bcap] w fun e w' => e = .returned (.tuple #[spV 0 0, .int .i64 4]) ∧ Below w.heap.size w w' := by
  have hst := run_storef Tryz.prog
  have hne : ((n : Int) != (m : Int)) = true := by simp; omega
  obtain ⟨c0, c1, f0, f1, _⟩ := Bx.new w (.float .f64 0) (.float .f64 0) 27
  have Z := (Below.refl w.heap.size w).alloc (Nat.le_refl _) (.cells #[.float .f64 0, .float .f64 0] 27)
  go_enter Tryz.func10, Tryz.ntmps10
  go_wp2
  exact bodyPost_ret (v := .tuple #[spV 0 0, .int .i64 4]) (by simp [results, Tryz.results10, go_sem]) rfl ⟨rfl, by first | exact set2 Z (Nat.le_refl _) _ _ | exact Z⟩
set_option maxHeartbeats 1000000 in
theorem sdotL_not (ps qs : List (Nat × Nat)) (ao bo : Option Addr) (cap bcap : Nat) (w : World) (hr : SRow w ao ps) (hs : SRow w bo qs) (hn : ps.length ≤ 1125899906842624) (he : ps.length = qs.length) (hq : (rtL ps && rtL qs) = false) :
    Calls Tryz.prog 10 #[.slice ao ps.length cap, .slice bo qs.length bcap] w fun e w' => e = .returned (.tuple #[spV 0 0, .int .i64 2]) ∧ Below w.heap.size w w' := by
  have hst := run_storef Tryz.prog
  have ca := fun w h => sall_any ps ao cap w h hn
  have cb := fun w h => sall_any qs bo bcap w h (by omega)
  rw [← he] at cb ⊢
  generalize ps.length = N at *
  have hne : ((N : Int) != (N : Int)) = false := by simp
  cases q1 : rtL ps <;> rw [q1] at ca hq
  · clear he cb
    go_enter Tryz.func10, Tryz.ntmps10
    go_wp2_with (go_at_call 20; refine (ca _ (hr.below ((Below.refl _ _).alloc (Nat.le_refl _) _))).mono ?_; rintro e w1 ⟨rfl, b1⟩; obtain ⟨c0, c1, f0, f1, _⟩ := (Bx.new _ _ _ _).below b1)
    exact bodyPost_ret (v := .tuple #[spV 0 0, .int .i64 2]) (by simp [results, Tryz.results10, go_sem, c0, c1]) rfl ⟨rfl, set2 (old1 b1) (Nat.le_refl _) _ _⟩
  · have q2 : rtL qs = false := by simpa using hq
    rw [q2] at cb
    clear he hq
    go_enter Tryz.func10, Tryz.ntmps10
    go_wp2_with (first
      | (go_at_call 20; refine (cb _ (hs.below Z1)).mono ?_; rintro e w2 ⟨rfl, b2⟩; obtain ⟨c0, c1, f0, f1, _⟩ := R1.below b2; have Z2 := Z1.trans (b2.mono Z1.size))
      | (go_at_call 20; refine (ca _ (hr.below ((Below.refl _ _).alloc (Nat.le_refl _) _))).mono ?_; rintro e w1 ⟨rfl, b1⟩; have R1 := (Bx.new _ _ _ _).below b1; have Z1 := old1 b1))
    exact bodyPost_ret (v := .tuple #[spV 0 0, .int .i64 2]) (by simp [results, Tryz.results10, go_sem, c0, c1]) rfl ⟨rfl, set2 Z2 (Nat.le_refl _) _ _⟩
set_option maxHeartbeats 4000000 in
theorem sdotL_yes (ps qs : List (Nat × Nat)) (ao bo : Option Addr) (cap bcap : Nat) (w : World) (hT : TabW w) (hr : SRow w ao ps) (hs : SRow w bo qs) (hF : FS ps) (hG : FS qs) (hn : ps.length ≤ 1125899906842624) (he : ps.length = qs.length) (q1 : rtL ps = true) (q2 : rtL qs = true) :
    Calls Tryz.prog 10 #[.slice ao ps.length cap, .slice bo qs.length bcap] w fun e w' => e = .returned (.tuple #[spV (dtP ps qs ps.length).1 (dtP ps qs ps.length).2, .int .i64 0]) ∧ Below w.heap.size w w' := by
  have hst := run_storef Tryz.prog
  have ca := fun w h => sall_any ps ao cap w h hn
  have cb := fun w h => sall_any qs bo bcap w h (by omega)
  rw [q1] at ca
  rw [q2] at cb
  have HR : Hid (∀ k, k ≤ ps.length → RtP (dtP ps qs k)) := fun k hk => dtP_rt hF q1 hG q2 k hk (by omega)
  have HA : Hid (∀ k, k < ps.length → RtP (ps.getD k (0, 0)) ∧ RtP (qs.getD k (0, 0))) := fun k hk => ⟨rt_at hF q1 hk, rt_at hG q2 (by omega)⟩
  rw [← he] at cb ⊢
  obtain ⟨N, hN⟩ : ∃ N, ps.length = N := ⟨_, rfl⟩
  have HN : Hid (ps.length = N) := hN
  have HM : Hid (qs.length = N) := he.symm.trans hN
  obtain ⟨⟨r0, r1⟩, er⟩ : ∃ t, dtP ps qs ps.length = t := ⟨_, rfl⟩
  rw [er]
  rw [hN] at ca cb hn er ⊢
  have HE : Hid (dtP ps qs N = (r0, r1)) := er
  clear hN hF hG he q1 q2 er
  have hne : ((N : Int) != (N : Int)) = false := by simp
  go_enter Tryz.func10, Tryz.ntmps10
  go_upto_region 6 with (first
    | (go_at_call 20; refine (cb _ (hs.below Z1)).mono ?_; rintro e w2 ⟨rfl, b2⟩; have R2 := R1.below b2; have Z2 := Z1.trans (b2.mono Z1.size))
    | (go_at_call 20; refine (ca _ (hr.below ((Below.refl _ _).alloc (Nat.le_refl _) _))).mono ?_; rintro e w1 ⟨rfl, b1⟩; have R1 := (Bx.new w (.float .f64 0) (.float .f64 0) 27).below b1; have Z1 := old1 b1))
  have R3 := R2.alloc (.cells #[.float .f64 0, .float .f64 0] 27)
  have H3 := Bx.new w2 (.float .f64 0) (.float .f64 0) 27
  have Z3 := Z2.alloc Z2.size (.cells #[.float .f64 0, .float .f64 0] 27)
  have np : w.heap.size ≠ w2.heap.size := by have := R2.2.2.2.2; omega
  have hp : w.heap.size ≤ w2.heap.size := Z2.size
  generalize w2.alloc (.cells #[.float .f64 0, .float .f64 0] 27) = w3 at *
  generalize w2.heap.size = p at *
  clear R1 Z1 R2 Z2 b1 b2 ca cb
  go_wp2
  go_loopg [7, 8, 29] N (fun g _ _ v wr => ∃ k : Nat, k ≤ N ∧ g = N - k ∧ v = .int .i64 k ∧ Below w.heap.size w wr ∧ Bx wr w.heap.size (.float .f64 0) (.float .f64 0) ∧ Bx wr p (.float .f64 (dtP ps qs k).1) (.float .f64 (dtP ps qs k).2))
  case atStart => exact ⟨0, by omega, rfl, rfl, Z3, R3, H3⟩
  case round =>
    obtain ⟨k, hk, hg, rfl, Zr, Rr, Hr⟩ := hrel
    have HG : Hid (gk = N - k) := hg
    clear hg R3 H3 Z3
    by_cases hlt : k < N
    · rcases hr.below Zr with h | ⟨b, off, rfl, hc⟩
      · exact absurd (HN.out ▸ h) (by omega)
      · rcases hs with h | ⟨b2, off2, rfl, hd⟩
        · exact absurd (HM.out ▸ h) (by omega)
        · have hkl : k < ps.length := by rw [HN.out]; exact hlt
          obtain ⟨g1, g2⟩ := hc k hkl
          obtain ⟨dw1, dw2⟩ := hd k (by rw [HM.out]; exact hlt)
          obtain ⟨ra, rc⟩ := HA.out k hkl
          have rb := HR.out k (by omega)
          have HS : Hid (dtP ps qs (k + 1) = adP (dtP ps qs k) (muP (ps.getD k (0, 0)) (qs.getD k (0, 0)))) := (show _ = _ from rfl)
          obtain ⟨x, ex⟩ : ∃ x, ps.getD k (0, 0) = x := ⟨_, rfl⟩
          obtain ⟨y, ey⟩ : ∃ y, qs.getD k (0, 0) = y := ⟨_, rfl⟩
          obtain ⟨t, et⟩ : ∃ t, dtP ps qs k = t := ⟨_, rfl⟩
          rw [ex] at g1 g2 ra HS
          rw [ey] at dw1 dw2 rc HS
          rw [et] at rb Hr HS
          have rm := muP_rt ra rc
          have cm := fun w hT => sprod_R ra rc w hT
          have cs := fun w hT => ssum_R rb rm w hT
          obtain ⟨z, ez⟩ : ∃ z, muP x y = z := ⟨_, rfl⟩
          rw [ez] at HS cm cs
          obtain ⟨⟨u, v9⟩, eu⟩ : ∃ u, adP t z = u := ⟨_, rfl⟩
          rw [eu] at HS cs
          obtain ⟨x0, x1⟩ := x
          obtain ⟨y0, y1⟩ := y
          obtain ⟨z0, z1⟩ := z
          obtain ⟨t0, t1⟩ := t
          simp only at g1 g2 dw1 dw2 cs cm Hr
          have i1 : (k : Int) < (N : Int) := by omega
          have i2 : k < N := hlt
          have bz := Zr.size
          clear hc hd ex ey et ez eu ra rb rc rm hkl hr
          go_upto_region 9 with fail
          have H4 := Hr.alloc (.cells #[.float .f64 x0, .float .f64 x1] 27)
          have R4 := Rr.alloc (.cells #[.float .f64 x0, .float .f64 x1] 27)
          have X4 := Bx.new wr (.float .f64 x0) (.float .f64 x1) 27
          have Z4 := Zr.alloc Zr.size (.cells #[.float .f64 x0, .float .f64 x1] 27)
          have T4 := tabW_below hT Z4
          have nq : p ≠ wr.heap.size := by have := Hr.2.2.2.2; omega
          generalize wr.alloc (.cells #[.float .f64 x0, .float .f64 x1] 27) = w4 at *
          generalize wr.heap.size = q at *
          clear Hr Rr Zr g1 g2
          have M0 : (DtM w p q u v9 t0 t1 x0 x1) false w4.drew := ⟨Z4.drew, R4, H4, X4⟩
          have hM : ∀ b w1 w2, (DtM w p q u v9 t0 t1 x0 x1) b w1 → Below w1.heap.size w1 w2 → (DtM w p q u v9 t0 t1 x0 x1) b w2 := fun b w1 w2 m hb => ⟨m.1.trans (hb.mono m.1.size), m.2.1.below hb, m.2.2.1.below hb, m.2.2.2.below hb⟩
          obtain ⟨VAL, hVAL⟩ : ∃ V : Nat → Value, V = (fun j => match j with | 0 => .agg #[.float .f64 t0, .float .f64 t1] | 1 => .agg #[.float .f64 x0, .float .f64 x1] | 2 => .slice (some ⟨b2, off2, none⟩) N bcap | 3 => .int .i64 k | 4 => .pointer (some ⟨b2, off2 + k * 2, none⟩) | 5 => .agg #[.float .f64 y0, .float .f64 y1] | 6 => .agg #[.float .f64 z0, .float .f64 z1] | 7 => .agg #[.float .f64 u, .float .f64 v9] | 8 => undef | _ => undef) := ⟨_, rfl⟩
          have V0 : VAL 0 = .agg #[.float .f64 t0, .float .f64 t1] := congrFun hVAL 0
          have V1 : VAL 1 = .agg #[.float .f64 x0, .float .f64 x1] := congrFun hVAL 1
          have V2 : VAL 2 = .slice (some ⟨b2, off2, none⟩) N bcap := congrFun hVAL 2
          have V3 : VAL 3 = .int .i64 k := congrFun hVAL 3
          have V4 : VAL 4 = .pointer (some ⟨b2, off2 + k * 2, none⟩) := congrFun hVAL 4
          have V5 : VAL 5 = .agg #[.float .f64 y0, .float .f64 y1] := congrFun hVAL 5
          have V6 : VAL 6 = .agg #[.float .f64 z0, .float .f64 z1] := congrFun hVAL 6
          have V7 : VAL 7 = .agg #[.float .f64 u, .float .f64 v9] := congrFun hVAL 7
          have V8 : VAL 8 = undef := congrFun hVAL 8
          refine region_rg9 (by kernel_rfl) (fun v => ⟨#[.slice (some ⟨b, off, none⟩) N cap, .slice (some ⟨b2, off2, none⟩) N bcap, undef, undef, .pointer (some ⟨w.heap.size, 0, none⟩), .int .i64 0, .pointer (some ⟨p, 0, none⟩), .int .i64 k, .pointer (some ⟨q, 0, none⟩), .bool false, .slice (some ⟨b, off, none⟩) N cap, .int .i64 N, .slice (some ⟨b2, off2, none⟩) N bcap, .int .i64 N, .bool false, undef, .bool false, .slice (some ⟨b, off, none⟩) N cap, .bool true, .bool false, .bool false, .slice (some ⟨b2, off2, none⟩) N bcap, .bool true, .bool false, .bool false, undef, .agg #[.float .f64 0, .float .f64 0], .slice (some ⟨b, off, none⟩) N cap, .int .i64 N, .int .i64 k, .bool true, .int .i64 k, .pointer (some ⟨b, off + k * 2, none⟩), .agg #[.float .f64 x0, .float .f64 x1], v 0, v 1, v 2, v 3, v 4, v 5, v 6, v 7, u42, undef], []⟩) (DtM w p q u v9 t0 t1 x0 x1) 8 VAL (fun j => match j with | 0 => u34 | 1 => u35 | 2 => u36 | 3 => u37 | 4 => u38 | 5 => u39 | 6 => u40 | _ => u41) rfl M0 ?_ ?_
          · intro L v w' i hL hS hi
            obtain ⟨h1, h2, h3⟩ := mem_ready hi
            have h1 : i < 9 := h1
            dsimp only
            have hno := off_not (by rw [hL]; exact h1) h2
            have hcs : i = 0 ∨ i = 1 ∨ i = 2 ∨ i = 3 ∨ i = 4 ∨ i = 5 ∨ i = 6 ∨ i = 7 ∨ i = 8 := by omega
            rcases hcs with rfl | rfl | rfl | rfl | rfl | rfl | rfl | rfl | rfl
            · have m := hS.n (fun g => hno (hS.dc 8 0 g (by kernel_rfl)))
              have q0 : w'.cell? ⟨p, 0, none⟩ = some (.float .f64 t0) := m.2.2.1.1
              have q1 : w'.cell? ⟨p, 1, none⟩ = some (.float .f64 t1) := m.2.2.1.2.1
              refine wpOp_of (fun K hK => ?_)
              unfold wpOp
              go_simp
              refine Or.inl ?_
              exact hK _ _ ⟨put9 v 0 (.agg #[.float .f64 t0, .float .f64 t1]), (by simp [put9]), hS.step hM hL hi (by decide) (Below.refl _ _) V0.symm⟩
            · have m := hS.n (fun g => hno (hS.dc 8 1 g (by kernel_rfl)))
              have q0 : w'.cell? ⟨q, 0, none⟩ = some (.float .f64 x0) := m.2.2.2.1
              have q1 : w'.cell? ⟨q, 1, none⟩ = some (.float .f64 x1) := m.2.2.2.2.1
              refine wpOp_of (fun K hK => ?_)
              unfold wpOp
              go_simp
              refine Or.inl ?_
              exact hK _ _ ⟨put9 v 1 (.agg #[.float .f64 x0, .float .f64 x1]), (by simp [put9]), hS.step hM hL hi (by decide) (Below.refl _ _) V1.symm⟩
            · refine wpOp_of (fun K hK => ?_)
              unfold wpOp
              go_simp
              refine Or.inl ?_
              exact hK _ _ ⟨put9 v 2 (.slice (some ⟨b2, off2, none⟩) N bcap), (by simp [put9]), hS.step hM hL hi (by decide) (Below.refl _ _) V2.symm⟩
            · refine wpOp_of (fun K hK => ?_)
              unfold wpOp
              go_simp
              refine Or.inl ?_
              exact hK _ _ ⟨put9 v 3 (.int .i64 k), (by simp [put9]), hS.step hM hL hi (by decide) (Below.refl _ _) V3.symm⟩
            · have e2 : v 2 = .slice (some ⟨b2, off2, none⟩) N bcap := (hS.d 2 (ready_dep hi 2 (by kernel_rfl))).trans V2
              have e3 : v 3 = .int .i64 k := (hS.d 3 (ready_dep hi 3 (by kernel_rfl))).trans V3
              refine wpOp_of (fun K hK => ?_)
              unfold wpOp
              simp only [e2, e3]
              go_simp
              refine Or.inl ?_
              exact hK _ _ ⟨put9 v 4 (.pointer (some ⟨b2, off2 + k * 2, none⟩)), (by simp [put9, e2, e3]), hS.step hM hL hi (by decide) (Below.refl _ _) V4.symm⟩
            · have e4 : v 4 = .pointer (some ⟨b2, off2 + k * 2, none⟩) := (hS.d 4 (ready_dep hi 4 (by kernel_rfl))).trans V4
              have m := hS.n (fun g => hno (hS.dc 8 5 g (by kernel_rfl)))
              have q0 := (m.1.cell (World.block_lt_of_cell? w _ dw1)).trans dw1
              have q1 := (m.1.cell (World.block_lt_of_cell? w _ dw2)).trans dw2
              refine wpOp_of (fun K hK => ?_)
              unfold wpOp
              simp only [e4]
              go_simp
              refine Or.inl ?_
              exact hK _ _ ⟨put9 v 5 (.agg #[.float .f64 y0, .float .f64 y1]), (by simp [put9, e4]), hS.step hM hL hi (by decide) (Below.refl _ _) V5.symm⟩
            · have e1 : v 1 = .agg #[.float .f64 x0, .float .f64 x1] := (hS.d 1 (ready_dep hi 1 (by kernel_rfl))).trans V1
              have e5 : v 5 = .agg #[.float .f64 y0, .float .f64 y1] := (hS.d 5 (ready_dep hi 5 (by kernel_rfl))).trans V5
              refine wpOp_of (fun K hK => ?_)
              unfold wpOp
              simp only [e1, e5]
              go_simp
              refine Or.inl ?_
              refine (cm _ (tabW_below hT (hS.n (fun g => hno (hS.dc 8 6 g (by kernel_rfl)))).1)).mono ?_
              rintro e w1 ⟨rfl, bc⟩
              exact hK _ _ ⟨put9 v 6 (.agg #[.float .f64 z0, .float .f64 z1]), (by simp [put9, e1, e5]), hS.step hM hL hi (by decide) bc V6.symm⟩
            · have e0 : v 0 = .agg #[.float .f64 t0, .float .f64 t1] := (hS.d 0 (ready_dep hi 0 (by kernel_rfl))).trans V0
              have e6 : v 6 = .agg #[.float .f64 z0, .float .f64 z1] := (hS.d 6 (ready_dep hi 6 (by kernel_rfl))).trans V6
              refine wpOp_of (fun K hK => ?_)
              unfold wpOp
              simp only [e0, e6]
              go_simp
              refine Or.inl ?_
              refine (cs _ (tabW_below hT (hS.n (fun g => hno (hS.dc 8 7 g (by kernel_rfl)))).1)).mono ?_
              rintro e w1 ⟨rfl, bc⟩
              exact hK _ _ ⟨put9 v 7 (.agg #[.float .f64 u, .float .f64 v9]), (by simp [put9, e0, e6]), hS.step hM hL hi (by decide) bc V7.symm⟩
            · have e7 : v 7 = .agg #[.float .f64 u, .float .f64 v9] := (hS.d 7 (ready_dep hi 7 (by kernel_rfl))).trans V7
              have m := hS.n hno
              obtain ⟨q0, q1, q2, q3, _⟩ : Bx w' p (.float .f64 t0) (.float .f64 t1) := m.2.2.1
              refine wpOp_of (fun K hK => ?_)
              unfold wpOp
              simp only [e7]
              go_simp
              refine Or.inl ?_
              exact hK _ _ ⟨put9 v 8 undef, (by simp [put9, e7]), hS.store hL hi (⟨set2 m.1 hp _ _, m.2.1.other np _ _, m.2.2.1.put _ _, m.2.2.2.other (Ne.symm nq) _ _⟩) V8.symm⟩
          · intro L v w' hL hS hr
            have on := all_done hL hr (by kernel_rfl)
            have m := hS.y (on 8 (by decide))
            rw [hS.d 0 (on 0 (by decide)), V0]
            rw [hS.d 1 (on 1 (by decide)), V1]
            rw [hS.d 2 (on 2 (by decide)), V2]
            rw [hS.d 3 (on 3 (by decide)), V3]
            rw [hS.d 4 (on 4 (by decide)), V4]
            rw [hS.d 5 (on 5 (by decide)), V5]
            rw [hS.d 6 (on 6 (by decide)), V6]
            rw [hS.d 7 (on 7 (by decide)), V7]
            clear hS on hr
            obtain ⟨Z5, R5, H5, X5⟩ := m
            go_wp2
            go_roundg (N - (k + 1))
            case measure => rw [HG.out]; omega
            case rel => exact ⟨k + 1, by omega, rfl, by go_num, Z5, R5, by rw [HS.out]; exact H5⟩
    · have hkN : k = N := by omega
      rw [hkN, HE.out] at Hr
      obtain ⟨c0, c1, f0, f1, _⟩ := Rr
      obtain ⟨d0, d1, _⟩ := Hr
      have i1 : ¬ (k : Int) < (N : Int) := by omega
      simp only at d0 d1
      clear hkN
      go_wp2
      exact bodyPost_ret (v := .tuple #[spV r0 r1, .int .i64 0]) (by simp [results, Tryz.results10, go_sem, c0, c1]) rfl ⟨rfl, set2 Zr (Nat.le_refl _) _ _⟩
end Go.Proofs.YtajcfdcmbiffbaaGreatDoor

namespace Go.Proofs.YtajcfdcmbiffbaaGreatDoor
open Go.RowKit

set_option maxHeartbeats 2000000 in
theorem rall_any (ps : List (Nat × Nat)) (ao : Option Addr) (cap : Nat) (w : World) (hr : SRow w ao ps) (hF : FS ps) (hn : ps.length ≤ 1125899906842624) :
    Calls Tryz.prog 27 #[.slice ao ps.length cap] w fun e w' => e = .returned (.bool (rtL ps)) ∧ Below w.heap.size w w' := by
  have hst := run_storef Tryz.prog
  obtain ⟨N, hN⟩ : ∃ N, ps.length = N := ⟨_, rfl⟩
  have HN : Hid (ps.length = N) := hN
  have HA : Hid (∀ k, k < ps.length → (ps.getD k (0, 0)).1 < 18446744073709551616 ∧ (ps.getD k (0, 0)).2 < 18446744073709551616) := fun k hk => hF.at hk
  rw [hN] at hn ⊢
  clear hN hF
  go_enter Tryz.func27, Tryz.ntmps27
  go_wp2
  go_loopg [3] N (fun g v wr => ∃ k : Nat, k ≤ N ∧ g = N - k ∧ v = .int .i64 k ∧ Hid (rtL (ps.take k) = true) ∧ Below w.heap.size w wr)
  case atStart => exact ⟨0, by omega, rfl, rfl, rfl, Below.refl _ _⟩
  case round =>
    obtain ⟨k, hk, hg, rfl, hq, hbr⟩ := hrel
    have HG : Hid (gk = N - k) := hg
    clear hg
    by_cases hlt : k < N
    · rcases hr.below hbr with h | ⟨b, off, rfl, hc⟩
      · exact absurd (HN.out ▸ h) (by omega)
      · have hkl : k < ps.length := by rw [HN.out]; exact hlt
        obtain ⟨g1, g2⟩ := hc k hkl
        obtain ⟨hxl, hyl⟩ := HA.out k hkl
        have ht := stake_at hkl
        have hnot := @rtL_not ps k hkl
        obtain ⟨⟨x, y⟩, ex⟩ : ∃ x, ps.getD k (0, 0) = x := ⟨_, rfl⟩
        rw [ex] at g1 g2 ht hnot hxl hyl
        simp only at g1 g2 hnot hxl hyl
        have HS : Hid (rtL (ps.take (k + 1)) = sRt x y) := (show _ = _ by rw [ht, rtL_snoc, hq.out]; rfl)
        have r1 := fun w => rright_any x y hxl hyl w
        have i1 : (k : Int) < (N : Int) := by omega
        have i2 : k < N := hlt
        have bz := hbr.size
        have Hnot : Hid (sRt x y = false → rtL ps = false) := hnot
        clear hc ht ex hq hkl hr hnot hxl hyl
        cases q : sRt x y <;> rw [q] at r1
        · have Hn : Hid (rtL ps = false) := Hnot.out q
          clear Hnot HS
          go_wp2_with (go_at_call 23; refine (r1 _).mono ?_; rintro e w1 ⟨rfl, b1⟩)
          go_ret
          exact ⟨by rw [Hn.out]; rfl, hbr.trans (b1.mono bz)⟩
        · have HS' : Hid (rtL (ps.take (k + 1)) = true) := HS.out.trans q
          clear Hnot HS
          go_wp2_with (go_at_call 23; refine (r1 _).mono ?_; rintro e w1 ⟨rfl, b1⟩)
          go_roundg (N - (k + 1))
          case measure => rw [HG.out]; omega
          case rel => exact ⟨k + 1, by omega, rfl, by go_num, HS', hbr.trans (b1.mono bz)⟩
    · have e : ps.take k = ps := List.take_of_length_le (by have := HN.out; omega)
      have HS : Hid (rtL ps = true) := (show _ = _ by rw [← e]; exact hq.out)
      have i1 : ¬ (k : Int) < (N : Int) := by omega
      clear hq e
      go_wp2
      go_ret
      exact ⟨by rw [HS.out]; rfl, hbr⟩
/-- What stands in memory while a step of the document's Sum is under way. -/
def SmM (w : World) (p u v t0 t1 : Nat) (bb : Bool) (w' : World) : Prop := Below w.heap.size w w' ∧ Bx w' w.heap.size (.float .f64 0) (.float .f64 0) ∧ Bx w' p (.float .f64 (if bb then u else t0)) (.float .f64 (if bb then v else t1))
theorem SmM.keep {w : World} {p u v t0 t1 : Nat} : ∀ b w1 w2, SmM w p u v t0 t1 b w1 → Below w1.heap.size w1 w2 → SmM w p u v t0 t1 b w2 := fun _ _ _ m hb => ⟨m.1.trans (hb.mono m.1.size), m.2.1.below hb, m.2.2.below hb⟩
set_option maxHeartbeats 2000000 in
theorem rsumL_any (ps : List (Nat × Nat)) (ao : Option Addr) (cap : Nat) (w : World) (hT : TabW w) (hr : SRow w ao ps) (hF : FS ps) (hn : ps.length ≤ 1125899906842624) :
    Calls Tryz.prog 9 #[.slice ao ps.length cap] w fun e w' => e = .returned (tsE (smA ps)) ∧ Below w.heap.size w w' := by
  have hst := run_storef Tryz.prog
  have ca := fun w h => rall_any ps ao cap w h hF hn
  cases hq : rtL ps <;> rw [hq] at ca
  · have HE : Hid (smA ps = ((0, 0), 2)) := (show _ = _ by unfold smA; rw [hq]; rfl)
    obtain ⟨N, hN⟩ : ∃ N, ps.length = N := ⟨_, rfl⟩
    rw [hN] at ca ⊢
    clear hN hF
    go_enter Tryz.func9, Tryz.ntmps9
    go_wp2_with (go_at_call 27; refine (ca _ (hr.below ((Below.refl _ _).alloc (Nat.le_refl _) _))).mono ?_; rintro e w1 ⟨rfl, b1⟩; obtain ⟨c0, c1, f0, f1, _⟩ := (Bx.new _ _ _ _).below b1)
    exact bodyPost_ret (v := .tuple #[spV 0 0, .int .i64 2]) (by simp [results, Tryz.results9, go_sem, c0, c1]) rfl ⟨by rw [HE.out], set2 (old1 b1) (Nat.le_refl _) _ _⟩
  · have HE : Hid (smA ps = (smP ps, 0)) := (show _ = _ by unfold smA; rw [hq]; rfl)
    have HR : Hid (∀ k, k ≤ ps.length → RtP (smP (ps.take k))) := smP_rt hF hq
    have HA : Hid (∀ k, k < ps.length → RtP (ps.getD k (0, 0))) := fun k hk => rt_at hF hq hk
    obtain ⟨N, hN⟩ : ∃ N, ps.length = N := ⟨_, rfl⟩
    have HN : Hid (ps.length = N) := hN
    rw [hN] at ca hn ⊢
    clear hN hF
    go_enter Tryz.func9, Tryz.ntmps9
    go_upto_region 4 with (go_at_call 27; refine (ca _ (hr.below ((Below.refl _ _).alloc (Nat.le_refl _) _))).mono ?_; rintro e w1 ⟨rfl, b1⟩)
    have R1 := (Bx.new w (.float .f64 0) (.float .f64 0) 27).below b1
    have Z1 := old1 b1
    clear b1 ca
    have R2 := R1.alloc (.cells #[.float .f64 0, .float .f64 0] 27)
    have H2 := Bx.new w1 (.float .f64 0) (.float .f64 0) 27
    have Z2 := Z1.alloc Z1.size (.cells #[.float .f64 0, .float .f64 0] 27)
    have np : w.heap.size ≠ w1.heap.size := by have := R1.2.2.2.2; omega
    have hp : w.heap.size ≤ w1.heap.size := Z1.size
    generalize w1.alloc (.cells #[.float .f64 0, .float .f64 0] 27) = w2 at *
    generalize w1.heap.size = p at *
    clear R1 Z1
    go_wp2
    go_loopg [5] N (fun g v wr => ∃ k : Nat, k ≤ N ∧ g = N - k ∧ v = .int .i64 k ∧ Below w.heap.size w wr ∧ Bx wr w.heap.size (.float .f64 0) (.float .f64 0) ∧ Bx wr p (.float .f64 (smP (ps.take k)).1) (.float .f64 (smP (ps.take k)).2))
    case atStart => exact ⟨0, by omega, rfl, rfl, Z2, R2, by simpa [smP] using H2⟩
    case round =>
      obtain ⟨k, hk, hg, rfl, Zr, Rr, Hr⟩ := hrel
      have HG : Hid (gk = N - k) := hg
      clear hg R2 H2 Z2
      by_cases hlt : k < N
      · rcases hr with h | ⟨b, off, rfl, hc⟩
        · exact absurd (HN.out ▸ h) (by omega)
        · have hkl : k < ps.length := by rw [HN.out]; exact hlt
          obtain ⟨dw1, dw2⟩ := hc k hkl
          have ht := stake_at hkl
          have ra := HA.out k hkl
          have rb := HR.out k (by omega)
          obtain ⟨x, ex⟩ : ∃ x, ps.getD k (0, 0) = x := ⟨_, rfl⟩
          obtain ⟨t, et⟩ : ∃ t, smP (ps.take k) = t := ⟨_, rfl⟩
          rw [ex] at dw1 dw2 ht ra
          rw [et] at rb Hr
          have HS : Hid (smP (ps.take (k + 1)) = adP t x) := (show _ = _ by rw [ht, smP_snoc, et])
          have cs := fun w hT => radd_R rb ra w hT
          obtain ⟨⟨u, v9⟩, eu⟩ : ∃ u, adP t x = u := ⟨_, rfl⟩
          rw [eu] at HS cs
          obtain ⟨x0, x1⟩ := x
          obtain ⟨t0, t1⟩ := t
          simp only at dw1 dw2 cs Hr
          have i1 : (k : Int) < (N : Int) := by omega
          have i2 : k < N := hlt
          have bz := Zr.size
          clear hc ht ex et eu ra rb hkl
          go_upto_region 7 with fail
          have M0 : SmM w p u v9 t0 t1 false wr.drew := ⟨Zr.drew, Rr, Hr⟩
          have hM := @SmM.keep w p u v9 t0 t1
          clear Hr Rr Zr
          obtain ⟨VAL, hVAL⟩ : ∃ V : Nat → Value, V = (fun j => match j with | 0 => .agg #[.float .f64 t0, .float .f64 t1] | 1 => .slice (some ⟨b, off, none⟩) N cap | 2 => .int .i64 k | 3 => .pointer (some ⟨b, off + k * 2, none⟩) | 4 => .agg #[.float .f64 x0, .float .f64 x1] | 5 => .tuple #[.agg #[.float .f64 u, .float .f64 v9], .int .i64 0] | 6 => .tuple #[.agg #[.float .f64 u, .float .f64 v9], .int .i64 0] | 7 => .agg #[.float .f64 u, .float .f64 v9] | 8 => .int .i64 0 | 9 => undef | _ => undef) := ⟨_, rfl⟩
          have V0 : VAL 0 = .agg #[.float .f64 t0, .float .f64 t1] := congrFun hVAL 0
          have V1 : VAL 1 = .slice (some ⟨b, off, none⟩) N cap := congrFun hVAL 1
          have V2 : VAL 2 = .int .i64 k := congrFun hVAL 2
          have V3 : VAL 3 = .pointer (some ⟨b, off + k * 2, none⟩) := congrFun hVAL 3
          have V4 : VAL 4 = .agg #[.float .f64 x0, .float .f64 x1] := congrFun hVAL 4
          have V5 : VAL 5 = .tuple #[.agg #[.float .f64 u, .float .f64 v9], .int .i64 0] := congrFun hVAL 5
          have V6 : VAL 6 = .tuple #[.agg #[.float .f64 u, .float .f64 v9], .int .i64 0] := congrFun hVAL 6
          have V7 : VAL 7 = .agg #[.float .f64 u, .float .f64 v9] := congrFun hVAL 7
          have V8 : VAL 8 = .int .i64 0 := congrFun hVAL 8
          have V9 : VAL 9 = undef := congrFun hVAL 9
          refine region_rg9 (by kernel_rfl) (fun v => ⟨#[.slice (some ⟨b, off, none⟩) N cap, undef, .pointer (some ⟨w.heap.size, 0, none⟩), .int .i64 0, .pointer (some ⟨p, 0, none⟩), .int .i64 k, .slice (some ⟨b, off, none⟩) N cap, .bool true, .bool false, undef, .agg #[.float .f64 0, .float .f64 0], .int .i64 k, .slice (some ⟨b, off, none⟩) N cap, .int .i64 N, .bool true, u15, u16, v 6, v 0, v 1, v 2, v 3, v 4, v 5, v 7, v 8, undef], []⟩) (SmM w p u v9 t0 t1) 9 VAL (fun j => match j with | 0 => u18 | 1 => u19 | 2 => u20 | 3 => u21 | 4 => u22 | 5 => u23 | 6 => u17 | 7 => u24 | _ => u25) rfl M0 ?_ ?_
          · intro L v w' i hL hS hi
            obtain ⟨h1, h2, h3⟩ := mem_ready hi
            have h1 : i < 10 := h1
            try dsimp only
            have hno := off_not (by rw [hL]; exact h1) h2
            have hcs : i = 0 ∨ i = 1 ∨ i = 2 ∨ i = 3 ∨ i = 4 ∨ i = 5 ∨ i = 6 ∨ i = 7 ∨ i = 8 ∨ i = 9 := by omega
            rcases hcs with rfl | rfl | rfl | rfl | rfl | rfl | rfl | rfl | rfl | rfl
            · have m := hS.n (fun g => hno (hS.dc 9 0 g (by kernel_rfl)))
              have q0 : w'.cell? ⟨p, 0, none⟩ = some (.float .f64 t0) := m.2.2.1
              have q1 : w'.cell? ⟨p, 1, none⟩ = some (.float .f64 t1) := m.2.2.2.1
              refine wpOp_of (fun K hK => ?_)
              unfold wpOp
              go_simp
              refine Or.inl ?_
              exact hK _ _ ⟨put9 v 0 (.agg #[.float .f64 t0, .float .f64 t1]), (by simp [put9]), hS.step hM hL hi (by decide) (Below.refl _ _) V0.symm⟩
            · refine wpOp_of (fun K hK => ?_)
              unfold wpOp
              go_simp
              refine Or.inl ?_
              exact hK _ _ ⟨put9 v 1 (.slice (some ⟨b, off, none⟩) N cap), (by simp [put9]), hS.step hM hL hi (by decide) (Below.refl _ _) V1.symm⟩
            · refine wpOp_of (fun K hK => ?_)
              unfold wpOp
              go_simp
              refine Or.inl ?_
              exact hK _ _ ⟨put9 v 2 (.int .i64 k), (by simp [put9]), hS.step hM hL hi (by decide) (Below.refl _ _) V2.symm⟩
            · have e1 : v 1 = .slice (some ⟨b, off, none⟩) N cap := (hS.d 1 (ready_dep hi 1 (by kernel_rfl))).trans V1
              have e2 : v 2 = .int .i64 k := (hS.d 2 (ready_dep hi 2 (by kernel_rfl))).trans V2
              refine wpOp_of (fun K hK => ?_)
              unfold wpOp
              simp only [e1, e2]
              go_simp
              refine Or.inl ?_
              exact hK _ _ ⟨put9 v 3 (.pointer (some ⟨b, off + k * 2, none⟩)), (by simp [put9, e1, e2]), hS.step hM hL hi (by decide) (Below.refl _ _) V3.symm⟩
            · have e3 : v 3 = .pointer (some ⟨b, off + k * 2, none⟩) := (hS.d 3 (ready_dep hi 3 (by kernel_rfl))).trans V3
              have m := hS.n (fun g => hno (hS.dc 9 4 g (by kernel_rfl)))
              have q0 := (m.1.cell (World.block_lt_of_cell? w _ dw1)).trans dw1
              have q1 := (m.1.cell (World.block_lt_of_cell? w _ dw2)).trans dw2
              refine wpOp_of (fun K hK => ?_)
              unfold wpOp
              simp only [e3]
              go_simp
              refine Or.inl ?_
              exact hK _ _ ⟨put9 v 4 (.agg #[.float .f64 x0, .float .f64 x1]), (by simp [put9, e3]), hS.step hM hL hi (by decide) (Below.refl _ _) V4.symm⟩
            · have e0 : v 0 = .agg #[.float .f64 t0, .float .f64 t1] := (hS.d 0 (ready_dep hi 0 (by kernel_rfl))).trans V0
              have e4 : v 4 = .agg #[.float .f64 x0, .float .f64 x1] := (hS.d 4 (ready_dep hi 4 (by kernel_rfl))).trans V4
              refine wpOp_of (fun K hK => ?_)
              unfold wpOp
              simp only [e0, e4]
              go_simp
              refine Or.inl ?_
              refine (cs _ (tabW_below hT (hS.n (fun g => hno (hS.dc 9 5 g (by kernel_rfl)))).1)).mono ?_
              rintro e w1 ⟨rfl, bc⟩
              exact hK _ _ ⟨put9 v 5 (.tuple #[.agg #[.float .f64 u, .float .f64 v9], .int .i64 0]), (by simp [put9, e0, e4]), hS.step hM hL hi (by decide) bc V5.symm⟩
            · have e5 : v 5 = .tuple #[.agg #[.float .f64 u, .float .f64 v9], .int .i64 0] := (hS.d 5 (ready_dep hi 5 (by kernel_rfl))).trans V5
              refine wpOp_of (fun K hK => ?_)
              unfold wpOp
              simp only [e5]
              go_simp
              refine Or.inl ?_
              exact hK _ _ ⟨put9 v 6 (.tuple #[.agg #[.float .f64 u, .float .f64 v9], .int .i64 0]), (by simp [put9, e5]), hS.step hM hL hi (by decide) (Below.refl _ _) V6.symm⟩
            · have e6 : v 6 = .tuple #[.agg #[.float .f64 u, .float .f64 v9], .int .i64 0] := (hS.d 6 (ready_dep hi 6 (by kernel_rfl))).trans V6
              refine wpOp_of (fun K hK => ?_)
              unfold wpOp
              simp only [e6]
              go_simp
              refine Or.inl ?_
              exact hK _ _ ⟨put9 v 7 (.agg #[.float .f64 u, .float .f64 v9]), (by simp [put9, e6]), hS.step hM hL hi (by decide) (Below.refl _ _) V7.symm⟩
            · have e6 : v 6 = .tuple #[.agg #[.float .f64 u, .float .f64 v9], .int .i64 0] := (hS.d 6 (ready_dep hi 6 (by kernel_rfl))).trans V6
              refine wpOp_of (fun K hK => ?_)
              unfold wpOp
              simp only [e6]
              go_simp
              refine Or.inl ?_
              exact hK _ _ ⟨put9 v 8 (.int .i64 0), (by simp [put9, e6]), hS.step hM hL hi (by decide) (Below.refl _ _) V8.symm⟩
            · have e7 : v 7 = .agg #[.float .f64 u, .float .f64 v9] := (hS.d 7 (ready_dep hi 7 (by kernel_rfl))).trans V7
              have m := hS.n hno
              obtain ⟨q0, q1, q2, q3, _⟩ : Bx w' p (.float .f64 t0) (.float .f64 t1) := m.2.2
              refine wpOp_of (fun K hK => ?_)
              unfold wpOp
              simp only [e7]
              go_simp
              refine Or.inl ?_
              exact hK _ _ ⟨put9 v 9 undef, (by simp [put9, e7]), hS.store hL hi (⟨set2 m.1 hp _ _, m.2.1.other np _ _, m.2.2.put _ _⟩) V9.symm⟩
          · intro L v w' hL hS hr
            have on := all_done hL hr (by kernel_rfl)
            have m := hS.y (on 9 (by decide))
            rw [hS.d 0 (on 0 (by decide)), V0]
            rw [hS.d 1 (on 1 (by decide)), V1]
            rw [hS.d 2 (on 2 (by decide)), V2]
            rw [hS.d 3 (on 3 (by decide)), V3]
            rw [hS.d 4 (on 4 (by decide)), V4]
            rw [hS.d 5 (on 5 (by decide)), V5]
            rw [hS.d 6 (on 6 (by decide)), V6]
            rw [hS.d 7 (on 7 (by decide)), V7]
            rw [hS.d 8 (on 8 (by decide)), V8]
            clear hS on hr
            obtain ⟨Z5, R5, H5⟩ := m
            go_wp2
            go_roundg (N - (k + 1))
            case measure => rw [HG.out]; omega
            case rel => exact ⟨k + 1, by omega, rfl, by go_num, Z5, R5, by rw [HS.out]; exact H5⟩
      · have e : ps.take k = ps := List.take_of_length_le (by have := HN.out; omega)
        rw [e] at Hr
        obtain ⟨⟨t0, t1⟩, et⟩ : ∃ t, smP ps = t := ⟨_, rfl⟩
        rw [et] at Hr HE
        simp only at Hr
        obtain ⟨c0, c1, f0, f1, _⟩ := Rr
        obtain ⟨d0, d1, _⟩ := Hr
        have i1 : ¬ (k : Int) < (N : Int) := by omega
        clear e et
        go_wp2
        exact bodyPost_ret (v := .tuple #[spV t0 t1, .int .i64 0]) (by simp [results, Tryz.results9, go_sem, c0, c1]) rfl ⟨by rw [HE.out], set2 Zr (Nat.le_refl _) _ _⟩
end Go.Proofs.YtajcfdcmbiffbaaGreatDoor

namespace Go.Proofs.YtajcfdcmbiffbaaGreatDoor
open Go.RowKit

/-- What stands in memory while a step of the document's Dot is under way. -/
def DtN (w : World) (p t0 t1 B : Nat) (w' : World) : Prop := Below w.heap.size w w' ∧ Bx w' w.heap.size (.float .f64 0) (.float .f64 0) ∧ Bx w' p (.float .f64 t0) (.float .f64 t1) ∧ B ≤ w'.heap.size
theorem DtN.keep {w : World} {p t0 t1 B : Nat} : ∀ w1 w2, DtN w p t0 t1 B w1 → Below w1.heap.size w1 w2 → DtN w p t0 t1 B w2 := fun _ _ m hb => ⟨m.1.trans (hb.mono m.1.size), m.2.1.below hb, m.2.2.1.below hb, Nat.le_trans m.2.2.2 hb.size⟩
set_option maxHeartbeats 1000000 in
theorem rdotL_shape (n m : Nat) (ao bo : Option Addr) (cap bcap : Nat) (h : n ≠ m) (w : World) :
    Calls Tryz.prog 11 #[.slice ao n cap, .slice bo m bcap] w fun e w' => e = .returned (.tuple #[spV 0 0, .int .i64 4]) ∧ Below w.heap.size w w' := by
  have hst := run_storef Tryz.prog
  have hne : ((n : Int) != (m : Int)) = true := by simp; omega
  obtain ⟨c0, c1, f0, f1, _⟩ := Bx.new w (.float .f64 0) (.float .f64 0) 27
  have Z := (Below.refl w.heap.size w).alloc (Nat.le_refl _) (.cells #[.float .f64 0, .float .f64 0] 27)
  go_enter Tryz.func11, Tryz.ntmps11
  go_wp2
  exact bodyPost_ret (v := .tuple #[spV 0 0, .int .i64 4]) (by simp [results, Tryz.results11, go_sem]) rfl ⟨rfl, by first | exact set2 Z (Nat.le_refl _) _ _ | exact Z⟩
set_option maxHeartbeats 1000000 in
theorem rdotL_not (ps qs : List (Nat × Nat)) (ao bo : Option Addr) (cap bcap : Nat) (w : World) (hr : SRow w ao ps) (hs : SRow w bo qs) (hF : FS ps) (hG : FS qs) (hn : ps.length ≤ 1125899906842624) (he : ps.length = qs.length) (hq : (rtL ps && rtL qs) = false) :
    Calls Tryz.prog 11 #[.slice ao ps.length cap, .slice bo qs.length bcap] w fun e w' => e = .returned (.tuple #[spV 0 0, .int .i64 2]) ∧ Below w.heap.size w w' := by
  have hst := run_storef Tryz.prog
  have ca := fun w h => rall_any ps ao cap w h hF hn
  have cb := fun w h => rall_any qs bo bcap w h hG (by omega)
  rw [← he] at cb ⊢
  generalize ps.length = N at *
  have hne : ((N : Int) != (N : Int)) = false := by simp
  cases q1 : rtL ps <;> rw [q1] at ca hq
  · clear he cb
    go_enter Tryz.func11, Tryz.ntmps11
    go_wp2_with (go_at_call 27; refine (ca _ (hr.below ((Below.refl _ _).alloc (Nat.le_refl _) _))).mono ?_; rintro e w1 ⟨rfl, b1⟩; obtain ⟨c0, c1, f0, f1, _⟩ := (Bx.new _ _ _ _).below b1)
    exact bodyPost_ret (v := .tuple #[spV 0 0, .int .i64 2]) (by simp [results, Tryz.results11, go_sem, c0, c1]) rfl ⟨rfl, set2 (old1 b1) (Nat.le_refl _) _ _⟩
  · have q2 : rtL qs = false := by simpa using hq
    rw [q2] at cb
    clear he hq
    go_enter Tryz.func11, Tryz.ntmps11
    go_wp2_with (first
      | (go_at_call 27; refine (cb _ (hs.below Z1)).mono ?_; rintro e w2 ⟨rfl, b2⟩; obtain ⟨c0, c1, f0, f1, _⟩ := R1.below b2; have Z2 := Z1.trans (b2.mono Z1.size))
      | (go_at_call 27; refine (ca _ (hr.below ((Below.refl _ _).alloc (Nat.le_refl _) _))).mono ?_; rintro e w1 ⟨rfl, b1⟩; have R1 := (Bx.new _ _ _ _).below b1; have Z1 := old1 b1))
    exact bodyPost_ret (v := .tuple #[spV 0 0, .int .i64 2]) (by simp [results, Tryz.results11, go_sem, c0, c1]) rfl ⟨rfl, set2 Z2 (Nat.le_refl _) _ _⟩
set_option maxHeartbeats 4000000 in
theorem rdotL_yes (ps qs : List (Nat × Nat)) (ao bo : Option Addr) (cap bcap : Nat) (w : World) (hT : TabW w) (hr : SRow w ao ps) (hs : SRow w bo qs) (hF : FS ps) (hG : FS qs) (hn : ps.length ≤ 1125899906842624) (he : ps.length = qs.length) (q1 : rtL ps = true) (q2 : rtL qs = true) :
    Calls Tryz.prog 11 #[.slice ao ps.length cap, .slice bo qs.length bcap] w fun e w' => e = .returned (.tuple #[spV (dtP ps qs ps.length).1 (dtP ps qs ps.length).2, .int .i64 0]) ∧ Below w.heap.size w w' := by
  have hst := run_storef Tryz.prog
  have ca := fun w h => rall_any ps ao cap w h hF hn
  have cb := fun w h => rall_any qs bo bcap w h hG (by omega)
  rw [q1] at ca
  rw [q2] at cb
  have HR : Hid (∀ k, k ≤ ps.length → RtP (dtP ps qs k)) := fun k hk => dtP_rt hF q1 hG q2 k hk (by omega)
  have HA : Hid (∀ k, k < ps.length → RtP (ps.getD k (0, 0)) ∧ RtP (qs.getD k (0, 0))) := fun k hk => ⟨rt_at hF q1 hk, rt_at hG q2 (by omega)⟩
  rw [← he] at cb ⊢
  obtain ⟨N, hN⟩ : ∃ N, ps.length = N := ⟨_, rfl⟩
  have HN : Hid (ps.length = N) := hN
  have HM : Hid (qs.length = N) := he.symm.trans hN
  obtain ⟨⟨r0, r1⟩, er⟩ : ∃ t, dtP ps qs ps.length = t := ⟨_, rfl⟩
  rw [er]
  rw [hN] at ca cb hn er ⊢
  have HE : Hid (dtP ps qs N = (r0, r1)) := er
  clear hN hF hG he q1 q2 er
  have hne : ((N : Int) != (N : Int)) = false := by simp
  go_enter Tryz.func11, Tryz.ntmps11
  go_upto_region 6 with (first
    | (go_at_call 27; refine (cb _ (hs.below Z1)).mono ?_; rintro e w2 ⟨rfl, b2⟩; have R2 := R1.below b2; have Z2 := Z1.trans (b2.mono Z1.size))
    | (go_at_call 27; refine (ca _ (hr.below ((Below.refl _ _).alloc (Nat.le_refl _) _))).mono ?_; rintro e w1 ⟨rfl, b1⟩; have R1 := (Bx.new w (.float .f64 0) (.float .f64 0) 27).below b1; have Z1 := old1 b1))
  have R3 := R2.alloc (.cells #[.float .f64 0, .float .f64 0] 27)
  have H3 := Bx.new w2 (.float .f64 0) (.float .f64 0) 27
  have Z3 := Z2.alloc Z2.size (.cells #[.float .f64 0, .float .f64 0] 27)
  have np : w.heap.size ≠ w2.heap.size := by have := R2.2.2.2.2; omega
  have hp : w.heap.size ≤ w2.heap.size := Z2.size
  generalize w2.alloc (.cells #[.float .f64 0, .float .f64 0] 27) = w3 at *
  generalize w2.heap.size = p at *
  clear R1 Z1 R2 Z2 b1 b2 ca cb
  go_wp2
  go_loopg [7, 8, 9] N (fun g v _ _ wr => ∃ k : Nat, k ≤ N ∧ g = N - k ∧ v = .int .i64 k ∧ Below w.heap.size w wr ∧ Bx wr w.heap.size (.float .f64 0) (.float .f64 0) ∧ Bx wr p (.float .f64 (dtP ps qs k).1) (.float .f64 (dtP ps qs k).2))
  case atStart => exact ⟨0, by omega, rfl, rfl, Z3, R3, H3⟩
  case round =>
    obtain ⟨k, hk, hg, rfl, Zr, Rr, Hr⟩ := hrel
    have HG : Hid (gk = N - k) := hg
    clear hg R3 H3 Z3
    by_cases hlt : k < N
    · rcases hr with h | ⟨b, off, rfl, hc⟩
      · exact absurd (HN.out ▸ h) (by omega)
      · rcases hs with h | ⟨b2, off2, rfl, hd⟩
        · exact absurd (HM.out ▸ h) (by omega)
        · have hkl : k < ps.length := by rw [HN.out]; exact hlt
          obtain ⟨bw1, bw2⟩ := hc k hkl
          obtain ⟨dw1, dw2⟩ := hd k (by rw [HM.out]; exact hlt)
          obtain ⟨ra, rc⟩ := HA.out k hkl
          have rb := HR.out k (by omega)
          have HS : Hid (dtP ps qs (k + 1) = adP (dtP ps qs k) (muP (ps.getD k (0, 0)) (qs.getD k (0, 0)))) := (show _ = _ from rfl)
          obtain ⟨x, ex⟩ : ∃ x, ps.getD k (0, 0) = x := ⟨_, rfl⟩
          obtain ⟨y, ey⟩ : ∃ y, qs.getD k (0, 0) = y := ⟨_, rfl⟩
          obtain ⟨t, et⟩ : ∃ t, dtP ps qs k = t := ⟨_, rfl⟩
          rw [ex] at bw1 bw2 ra HS
          rw [ey] at dw1 dw2 rc HS
          rw [et] at rb Hr HS
          have rm := muP_rt ra rc
          have cm := fun w hT => rmul_R ra rc w hT
          have cs := fun w hT => radd_R rb rm w hT
          obtain ⟨z, ez⟩ : ∃ z, muP x y = z := ⟨_, rfl⟩
          rw [ez] at HS cm cs
          obtain ⟨⟨u, v9⟩, eu⟩ : ∃ u, adP t z = u := ⟨_, rfl⟩
          rw [eu] at HS cs
          obtain ⟨x0, x1⟩ := x
          obtain ⟨y0, y1⟩ := y
          obtain ⟨z0, z1⟩ := z
          obtain ⟨t0, t1⟩ := t
          simp only at bw1 bw2 dw1 dw2 cs cm Hr
          have i1 : (k : Int) < (N : Int) := by omega
          have i2 : k < N := hlt
          have bz := Zr.size
          clear hc hd ex ey et ez eu ra rb rc rm hkl
          go_upto_region 9 with fail
          have M0 : DtN w p t0 t1 wr.heap.size wr.drew := ⟨Zr.drew, Rr, Hr, Nat.le_refl _⟩
          have hM := @DtN.keep w p t0 t1 wr.heap.size
          obtain ⟨VAL, hVAL⟩ : ∃ V : Nat → Value, V = (fun j => match j with | 0 => .slice (some ⟨b, off, none⟩) N cap | 1 => .int .i64 k | 2 => .pointer (some ⟨b, off + k * 2, none⟩) | 3 => .agg #[.float .f64 x0, .float .f64 x1] | 4 => .slice (some ⟨b2, off2, none⟩) N bcap | 5 => .int .i64 k | 6 => .pointer (some ⟨b2, off2 + k * 2, none⟩) | 7 => .agg #[.float .f64 y0, .float .f64 y1] | 8 => .tuple #[.agg #[.float .f64 z0, .float .f64 z1], .int .i64 0] | 9 => .tuple #[.agg #[.float .f64 z0, .float .f64 z1], .int .i64 0] | 10 => .agg #[.float .f64 z0, .float .f64 z1] | 11 => .int .i64 0 | 12 => undef | 13 => undef | 14 => .int .i64 0 | _ => undef) := ⟨_, rfl⟩
          have V0 : VAL 0 = .slice (some ⟨b, off, none⟩) N cap := congrFun hVAL 0
          have V1 : VAL 1 = .int .i64 k := congrFun hVAL 1
          have V2 : VAL 2 = .pointer (some ⟨b, off + k * 2, none⟩) := congrFun hVAL 2
          have V3 : VAL 3 = .agg #[.float .f64 x0, .float .f64 x1] := congrFun hVAL 3
          have V4 : VAL 4 = .slice (some ⟨b2, off2, none⟩) N bcap := congrFun hVAL 4
          have V5 : VAL 5 = .int .i64 k := congrFun hVAL 5
          have V6 : VAL 6 = .pointer (some ⟨b2, off2 + k * 2, none⟩) := congrFun hVAL 6
          have V7 : VAL 7 = .agg #[.float .f64 y0, .float .f64 y1] := congrFun hVAL 7
          have V8 : VAL 8 = .tuple #[.agg #[.float .f64 z0, .float .f64 z1], .int .i64 0] := congrFun hVAL 8
          have V9 : VAL 9 = .tuple #[.agg #[.float .f64 z0, .float .f64 z1], .int .i64 0] := congrFun hVAL 9
          have V10 : VAL 10 = .agg #[.float .f64 z0, .float .f64 z1] := congrFun hVAL 10
          have V11 : VAL 11 = .int .i64 0 := congrFun hVAL 11
          have V12 : VAL 12 = undef := congrFun hVAL 12
          have V13 : VAL 13 = undef := congrFun hVAL 13
          have V14 : VAL 14 = .int .i64 0 := congrFun hVAL 14
          refine region_rgA (by kernel_rfl) (fun v => ⟨#[.slice (some ⟨b, off, none⟩) N cap, .slice (some ⟨b2, off2, none⟩) N bcap, undef, undef, .pointer (some ⟨w.heap.size, 0, none⟩), .int .i64 0, .pointer (some ⟨p, 0, none⟩), .int .i64 k, v 12, v 14, .slice (some ⟨b, off, none⟩) N cap, .int .i64 N, .slice (some ⟨b2, off2, none⟩) N bcap, .int .i64 N, .bool false, undef, .slice (some ⟨b, off, none⟩) N cap, .bool true, .bool false, .bool false, .slice (some ⟨b2, off2, none⟩) N bcap, .bool true, .bool false, .bool false, undef, .agg #[.float .f64 0, .float .f64 0], .int .i64 k, .slice (some ⟨b, off, none⟩) N cap, .int .i64 N, .bool true, u30, u31, v 9, v 0, v 1, v 2, v 3, v 4, v 5, v 6, v 7, v 8, v 10, v 11, u44, u45, u46, u47, u48, u49, undef], []⟩) (DtN w p t0 t1 wr.heap.size) (wr.heap.size) 12 13 (.float .f64 0) (.float .f64 0) (.float .f64 z0) (.float .f64 z1) VAL (fun j => match j with | 0 => u33 | 1 => u34 | 2 => u35 | 3 => u36 | 4 => u37 | 5 => u38 | 6 => u39 | 7 => u40 | 8 => u41 | 9 => u32 | 10 => u42 | 11 => u43 | 12 => u8 | _ => u9) rfl M0 ?_ ?_
          · intro L v g w' i hL hS hi
            obtain ⟨h1, h2, h3⟩ := mem_ready hi
            have h1 : i < 15 := h1
            try dsimp only
            have hno := off_not (by rw [hL]; exact h1) h2
            have m := hS.m
            have hcs : i = 0 ∨ i = 1 ∨ i = 2 ∨ i = 3 ∨ i = 4 ∨ i = 5 ∨ i = 6 ∨ i = 7 ∨ i = 8 ∨ i = 9 ∨ i = 10 ∨ i = 11 ∨ i = 12 ∨ i = 13 ∨ i = 14 := by omega
            rcases hcs with rfl | rfl | rfl | rfl | rfl | rfl | rfl | rfl | rfl | rfl | rfl | rfl | rfl | rfl | rfl
            · refine wpOp_of (fun K hK => ?_)
              unfold wpOp
              go_simp
              refine Or.inl ?_
              exact hK _ _ ⟨put9 v 0 (.slice (some ⟨b, off, none⟩) N cap), g, (by simp [put9]), hS.step hM hL hi (by decide) (by decide) (Below.refl _ _) V0.symm⟩
            · refine wpOp_of (fun K hK => ?_)
              unfold wpOp
              go_simp
              refine Or.inl ?_
              exact hK _ _ ⟨put9 v 1 (.int .i64 k), g, (by simp [put9]), hS.step hM hL hi (by decide) (by decide) (Below.refl _ _) V1.symm⟩
            · have e0 : v 0 = .slice (some ⟨b, off, none⟩) N cap := (hS.d 0 (by decide) (ready_dep hi 0 (by kernel_rfl))).trans V0
              have e1 : v 1 = .int .i64 k := (hS.d 1 (by decide) (ready_dep hi 1 (by kernel_rfl))).trans V1
              refine wpOp_of (fun K hK => ?_)
              unfold wpOp
              simp only [e0, e1]
              go_simp
              refine Or.inl ?_
              exact hK _ _ ⟨put9 v 2 (.pointer (some ⟨b, off + k * 2, none⟩)), g, (by simp [put9, e0, e1]), hS.step hM hL hi (by decide) (by decide) (Below.refl _ _) V2.symm⟩
            · have e2 : v 2 = .pointer (some ⟨b, off + k * 2, none⟩) := (hS.d 2 (by decide) (ready_dep hi 2 (by kernel_rfl))).trans V2
              have q0 := (m.1.cell (World.block_lt_of_cell? w _ bw1)).trans bw1
              have q1 := (m.1.cell (World.block_lt_of_cell? w _ bw2)).trans bw2
              refine wpOp_of (fun K hK => ?_)
              unfold wpOp
              simp only [e2]
              go_simp
              refine Or.inl ?_
              exact hK _ _ ⟨put9 v 3 (.agg #[.float .f64 x0, .float .f64 x1]), g, (by simp [put9, e2]), hS.step hM hL hi (by decide) (by decide) (Below.refl _ _) V3.symm⟩
            · refine wpOp_of (fun K hK => ?_)
              unfold wpOp
              go_simp
              refine Or.inl ?_
              exact hK _ _ ⟨put9 v 4 (.slice (some ⟨b2, off2, none⟩) N bcap), g, (by simp [put9]), hS.step hM hL hi (by decide) (by decide) (Below.refl _ _) V4.symm⟩
            · refine wpOp_of (fun K hK => ?_)
              unfold wpOp
              go_simp
              refine Or.inl ?_
              exact hK _ _ ⟨put9 v 5 (.int .i64 k), g, (by simp [put9]), hS.step hM hL hi (by decide) (by decide) (Below.refl _ _) V5.symm⟩
            · have e4 : v 4 = .slice (some ⟨b2, off2, none⟩) N bcap := (hS.d 4 (by decide) (ready_dep hi 4 (by kernel_rfl))).trans V4
              have e5 : v 5 = .int .i64 k := (hS.d 5 (by decide) (ready_dep hi 5 (by kernel_rfl))).trans V5
              refine wpOp_of (fun K hK => ?_)
              unfold wpOp
              simp only [e4, e5]
              go_simp
              refine Or.inl ?_
              exact hK _ _ ⟨put9 v 6 (.pointer (some ⟨b2, off2 + k * 2, none⟩)), g, (by simp [put9, e4, e5]), hS.step hM hL hi (by decide) (by decide) (Below.refl _ _) V6.symm⟩
            · have e6 : v 6 = .pointer (some ⟨b2, off2 + k * 2, none⟩) := (hS.d 6 (by decide) (ready_dep hi 6 (by kernel_rfl))).trans V6
              have q0 := (m.1.cell (World.block_lt_of_cell? w _ dw1)).trans dw1
              have q1 := (m.1.cell (World.block_lt_of_cell? w _ dw2)).trans dw2
              refine wpOp_of (fun K hK => ?_)
              unfold wpOp
              simp only [e6]
              go_simp
              refine Or.inl ?_
              exact hK _ _ ⟨put9 v 7 (.agg #[.float .f64 y0, .float .f64 y1]), g, (by simp [put9, e6]), hS.step hM hL hi (by decide) (by decide) (Below.refl _ _) V7.symm⟩
            · have e3 : v 3 = .agg #[.float .f64 x0, .float .f64 x1] := (hS.d 3 (by decide) (ready_dep hi 3 (by kernel_rfl))).trans V3
              have e7 : v 7 = .agg #[.float .f64 y0, .float .f64 y1] := (hS.d 7 (by decide) (ready_dep hi 7 (by kernel_rfl))).trans V7
              refine wpOp_of (fun K hK => ?_)
              unfold wpOp
              simp only [e3, e7]
              go_simp
              refine Or.inl ?_
              refine (cm _ (tabW_below hT m.1)).mono ?_
              rintro e w1 ⟨rfl, bc⟩
              exact hK _ _ ⟨put9 v 8 (.tuple #[.agg #[.float .f64 z0, .float .f64 z1], .int .i64 0]), g, (by simp [put9, e3, e7]), hS.step hM hL hi (by decide) (by decide) bc V8.symm⟩
            · have e8 : v 8 = .tuple #[.agg #[.float .f64 z0, .float .f64 z1], .int .i64 0] := (hS.d 8 (by decide) (ready_dep hi 8 (by kernel_rfl))).trans V8
              refine wpOp_of (fun K hK => ?_)
              unfold wpOp
              simp only [e8]
              go_simp
              refine Or.inl ?_
              exact hK _ _ ⟨put9 v 9 (.tuple #[.agg #[.float .f64 z0, .float .f64 z1], .int .i64 0]), g, (by simp [put9, e8]), hS.step hM hL hi (by decide) (by decide) (Below.refl _ _) V9.symm⟩
            · have e9 : v 9 = .tuple #[.agg #[.float .f64 z0, .float .f64 z1], .int .i64 0] := (hS.d 9 (by decide) (ready_dep hi 9 (by kernel_rfl))).trans V9
              refine wpOp_of (fun K hK => ?_)
              unfold wpOp
              simp only [e9]
              go_simp
              refine Or.inl ?_
              exact hK _ _ ⟨put9 v 10 (.agg #[.float .f64 z0, .float .f64 z1]), g, (by simp [put9, e9]), hS.step hM hL hi (by decide) (by decide) (Below.refl _ _) V10.symm⟩
            · have e9 : v 9 = .tuple #[.agg #[.float .f64 z0, .float .f64 z1], .int .i64 0] := (hS.d 9 (by decide) (ready_dep hi 9 (by kernel_rfl))).trans V9
              refine wpOp_of (fun K hK => ?_)
              unfold wpOp
              simp only [e9]
              go_simp
              refine Or.inl ?_
              exact hK _ _ ⟨put9 v 11 (.int .i64 0), g, (by simp [put9, e9]), hS.step hM hL hi (by decide) (by decide) (Below.refl _ _) V11.symm⟩
            · have hBw : wr.heap.size ≤ w'.heap.size := m.2.2.2
              refine wpOp_of (fun K hK => ?_)
              unfold wpOp
              go_simp
              refine Or.inl ?_
              exact hK _ _ ⟨put9 v 12 (.pointer (some ⟨w'.heap.size, 0, none⟩)), w'.heap.size, (by simp [put9]), hS.make hM hL hi hno (by decide) hBw (by kernel_rfl)⟩
            · have e10 : v 10 = .agg #[.float .f64 z0, .float .f64 z1] := (hS.d 10 (by decide) (ready_dep hi 10 (by kernel_rfl))).trans V10
              obtain ⟨e12, hBg⟩ := hS.p (ready_dep hi 12 (by kernel_rfl))
              obtain ⟨q0, q1, q2, q3, _⟩ := hS.n (ready_dep hi 12 (by kernel_rfl)) hno
              refine wpOp_of (fun K hK => ?_)
              unfold wpOp
              simp only [e10, e12]
              go_simp
              refine Or.inl ?_
              exact hK _ _ ⟨put9 v 13 undef, g, (by simp [put9, e10, e12]), hS.store (fun w1 m1 => ⟨set2 m1.1 (by omega) _ _, m1.2.1.other (by have := Rr.2.2.2.2; omega) _ _, m1.2.2.1.other (by have := Hr.2.2.2.2; omega) _ _, by simpa [go_sem] using m1.2.2.2⟩) hL hi hno (by decide) (by kernel_rfl) V13.symm⟩
            · have e11 : v 11 = .int .i64 0 := (hS.d 11 (by decide) (ready_dep hi 11 (by kernel_rfl))).trans V11
              refine wpOp_of (fun K hK => ?_)
              unfold wpOp
              simp only [e11]
              go_simp
              refine Or.inl ?_
              exact hK _ _ ⟨put9 v 14 (.int .i64 0), g, (by simp [put9, e11]), hS.step hM hL hi (by decide) (by decide) (Below.refl _ _) V14.symm⟩
          · intro L v g w' hL hS hr
            have on := all_done hL hr (by kernel_rfl)
            have m := hS.m
            have G5 := hS.y (on 13 (by decide))
            obtain ⟨eP, hBg⟩ := hS.p (on 12 (by decide))
            try dsimp only
            rw [hS.d 0 (by decide) (on 0 (by decide)), V0]
            rw [hS.d 1 (by decide) (on 1 (by decide)), V1]
            rw [hS.d 2 (by decide) (on 2 (by decide)), V2]
            rw [hS.d 3 (by decide) (on 3 (by decide)), V3]
            rw [hS.d 4 (by decide) (on 4 (by decide)), V4]
            rw [hS.d 5 (by decide) (on 5 (by decide)), V5]
            rw [hS.d 6 (by decide) (on 6 (by decide)), V6]
            rw [hS.d 7 (by decide) (on 7 (by decide)), V7]
            rw [hS.d 8 (by decide) (on 8 (by decide)), V8]
            rw [hS.d 9 (by decide) (on 9 (by decide)), V9]
            rw [hS.d 10 (by decide) (on 10 (by decide)), V10]
            rw [hS.d 11 (by decide) (on 11 (by decide)), V11]
            rw [eP]
            rw [hS.d 14 (by decide) (on 14 (by decide)), V14]
            clear hS on hr eP
            obtain ⟨Z5, R5, H5, S5⟩ := m
            have ng : p ≠ g := by have := Hr.2.2.2.2; omega
            have nr : w.heap.size ≠ g := by have := Rr.2.2.2.2; omega
            obtain ⟨h0, h1, h2, h3, _⟩ := id H5
            obtain ⟨g0, g1, _⟩ := id G5
            have T5 := tabW_below hT Z5
            go_wp2_with (go_at_call 28; refine (cs _ T5).mono ?_; rintro e w6 ⟨rfl, b6⟩; obtain ⟨k0, k1, k2, k3, _⟩ := H5.below b6)
            have H7 := (H5.below b6).put (.float .f64 u) (.float .f64 v9)
            have R7 := (R5.below b6).other np (.float .f64 u) (.float .f64 v9)
            have Z7 := set2 (Z5.trans (b6.mono Z5.size)) hp (.float .f64 u) (.float .f64 v9)
            go_roundg (N - (k + 1))
            case measure => rw [HG.out]; omega
            case rel => exact ⟨k + 1, by omega, rfl, by go_num, Z7, R7, by rw [HS.out]; exact H7⟩
    · have hkN : k = N := by omega
      rw [hkN, HE.out] at Hr
      obtain ⟨c0, c1, f0, f1, _⟩ := Rr
      obtain ⟨d0, d1, _⟩ := Hr
      have i1 : ¬ (k : Int) < (N : Int) := by omega
      simp only at d0 d1
      clear hkN
      go_wp2
      exact bodyPost_ret (v := .tuple #[spV r0 r1, .int .i64 0]) (by simp [results, Tryz.results11, go_sem, c0, c1]) rfl ⟨rfl, set2 Zr (Nat.le_refl _) _ _⟩
end Go.Proofs.YtajcfdcmbiffbaaGreatDoor

namespace Go.Proofs.YtajcfdcmbiffbaaGreatDoor
open Go.RowKit

set_option maxHeartbeats 1000000 in
theorem sleast_one (x y B : Nat) (hx : x < 18446744073709551616) (hy : y < 18446744073709551616) (w : World) (h0 : w.cell? ⟨B, 0, none⟩ = some (.float .f64 y)) :
    Calls Tryz.prog 21 #[.float .f64 x, .slice (some ⟨B, 0, none⟩) 1 1] w fun e w' => e = .returned (.float .f64 (lsF x y)) ∧ w' = w := by
  obtain ⟨u, hu⟩ : ∃ u, lsF x y = u := ⟨_, rfl⟩
  have E1 : Hid (u = lsF x y) := hu.symm
  rw [hu]
  clear hu
  have co := order_any y x hy hx
  go_enter Tryz.func21, Tryz.ntmps21
  go_wp2
  go_loopg [0, 6, 9] 1 (fun g v _ c wr => ∃ k : Nat, k ≤ 1 ∧ g = 1 - k ∧ c = .int .i64 k ∧ wr = w ∧ v = .float .f64 (if k = 0 then x else u))
  case atStart => exact ⟨0, by omega, rfl, rfl, rfl, rfl⟩
  case round =>
    obtain ⟨k, hk, hg, rfl, rfl, rfl⟩ := hrel
    have HG : Hid (gk = 1 - k) := hg
    clear hg
    rcases (show k = 0 ∨ k = 1 by omega) with rfl | rfl
    · by_cases q : ordF y x < 0
      · have hv : u = y := by rw [E1.out]; unfold lsF; rw [if_pos q]
        go_wp2_with (go_at_call 37; refine (co _).mono ?_; rintro e w' ⟨rfl, rfl⟩)
        go_roundg 0
        case measure => rw [HG.out]; omega
        case rel => exact ⟨1, by omega, rfl, rfl, rfl, by rw [← hv]; rfl⟩
      · have hv : u = x := by rw [E1.out]; unfold lsF; rw [if_neg q]
        go_wp2_with (go_at_call 37; refine (co _).mono ?_; rintro e w' ⟨rfl, rfl⟩)
        go_roundg 0
        case measure => rw [HG.out]; omega
        case rel => exact ⟨1, by omega, rfl, rfl, rfl, by rw [← hv]; rfl⟩
    · go_wp2
      go_ret
      exact ⟨rfl, rfl⟩
set_option maxHeartbeats 1000000 in
theorem sgreatest_one (x y B : Nat) (hx : x < 18446744073709551616) (hy : y < 18446744073709551616) (w : World) (h0 : w.cell? ⟨B, 0, none⟩ = some (.float .f64 y)) :
    Calls Tryz.prog 22 #[.float .f64 x, .slice (some ⟨B, 0, none⟩) 1 1] w fun e w' => e = .returned (.float .f64 (grF x y)) ∧ w' = w := by
  obtain ⟨u, hu⟩ : ∃ u, grF x y = u := ⟨_, rfl⟩
  have E1 : Hid (u = grF x y) := hu.symm
  rw [hu]
  clear hu
  have co := order_any y x hy hx
  go_enter Tryz.func22, Tryz.ntmps22
  go_wp2
  go_loopg [0, 6, 9] 1 (fun g v _ c wr => ∃ k : Nat, k ≤ 1 ∧ g = 1 - k ∧ c = .int .i64 k ∧ wr = w ∧ v = .float .f64 (if k = 0 then x else u))
  case atStart => exact ⟨0, by omega, rfl, rfl, rfl, rfl⟩
  case round =>
    obtain ⟨k, hk, hg, rfl, rfl, rfl⟩ := hrel
    have HG : Hid (gk = 1 - k) := hg
    clear hg
    rcases (show k = 0 ∨ k = 1 by omega) with rfl | rfl
    · by_cases q : 0 < ordF y x
      · have hv : u = y := by rw [E1.out]; unfold grF; rw [if_pos q]
        go_wp2_with (go_at_call 37; refine (co _).mono ?_; rintro e w' ⟨rfl, rfl⟩)
        go_roundg 0
        case measure => rw [HG.out]; omega
        case rel => exact ⟨1, by omega, rfl, rfl, rfl, by rw [← hv]; rfl⟩
      · have hv : u = x := by rw [E1.out]; unfold grF; rw [if_neg q]
        go_wp2_with (go_at_call 37; refine (co _).mono ?_; rintro e w' ⟨rfl, rfl⟩)
        go_roundg 0
        case measure => rw [HG.out]; omega
        case rel => exact ⟨1, by omega, rfl, rfl, rfl, by rw [← hv]; rfl⟩
    · go_wp2
      go_ret
      exact ⟨rfl, rfl⟩
theorem old4' {w w1 : World} {o p q r : Obj} (hb : Below ((((w.alloc o).alloc p).alloc q).alloc r).heap.size ((((w.alloc o).alloc p).alloc q).alloc r) w1) : Below w.heap.size w w1 := old1 (old3 hb)
end Go.Proofs.YtajcfdcmbiffbaaGreatDoor

namespace Go.Proofs.YtajcfdcmbiffbaaGreatDoor
open Go.RowKit

theorem old5 {w w1 : World} {o p q r s : Obj} (hb : Below (((((w.alloc o).alloc p).alloc q).alloc r).alloc s).heap.size (((((w.alloc o).alloc p).alloc q).alloc r).alloc s) w1) : Below w.heap.size w w1 := old1 (old4' hb)
set_option maxHeartbeats 1600000 in
theorem shull_not (a b c d B : Nat) (hr : (sRt a b && sRt c d) = false) (w : World) (h0 : w.cell? ⟨B, 0, none⟩ = some (.float .f64 a)) (h1 : w.cell? ⟨B, 1, none⟩ = some (.float .f64 b)) (h2 : w.cell? ⟨B, 2, none⟩ = some (.float .f64 c)) (h3 : w.cell? ⟨B, 3, none⟩ = some (.float .f64 d)) (hB : B < w.heap.size) :
    Calls Tryz.prog 6 #[.slice (some ⟨B, 0, none⟩) 2 2] w fun e w' => e = .returned (.tuple #[spV 0 0, .int .i64 2]) ∧ Below w.heap.size w w' := by
  have hst := run_storef Tryz.prog
  go_enter Tryz.func6, Tryz.ntmps6
  go_wp2_with (go_at_call 20; refine (sall_two a b c d B _ (cell_al h0 _) (cell_al h1 _) (cell_al h2 _) (cell_al h3 _) (by simp; omega)).mono ?_; rw [hr]; rintro e v1 ⟨rfl, b1⟩; obtain ⟨c0, c1, f0, f1, _⟩ := (Bx.new _ _ _ _).below b1)
  exact bodyPost_ret (v := .tuple #[spV 0 0, .int .i64 2]) (by simp [results, Tryz.results6, go_sem, c0, c1]) rfl ⟨rfl, set2 (old1 b1) (Nat.le_refl _) _ _⟩
theorem hull_cell {w : World} {b p i : Nat} {z u v : Value} {o q r : Obj} (h : w.cell? ⟨b, i, none⟩ = some z) (hb : b ≠ p) : (((((w.alloc o).alloc q).setCell ⟨p, 0, none⟩ u).alloc r).setCell ⟨p, 1, none⟩ v).cell? ⟨b, i, none⟩ = some z := by
  have n : ∀ j k : Nat, (⟨b, j, none⟩ : Addr) ≠ ⟨p, k, none⟩ := fun j k e => hb (by cases e; rfl)
  have n' : ∀ j k : Nat, (⟨p, k, none⟩ : Addr) ≠ ⟨b, j, none⟩ := fun j k e => hb (by cases e; rfl)
  have e1 := cell_al (cell_al h o) q
  have e2 := (World.cell?_setCell_other ((w.alloc o).alloc q) ⟨p, 0, none⟩ ⟨b, i, none⟩ u (by first | exact n _ _ | exact n' _ _)).trans e1
  exact (World.cell?_setCell_other _ _ _ v (by first | exact n _ _ | exact n' _ _)).trans (cell_al e2 r)
theorem hull_mid {w : World} {p : Nat} {x y u : Value} (h : Bx w p x y) (o q r : Obj) : Bx ((((w.alloc o).alloc q).setCell ⟨p, 0, none⟩ u).alloc r) p u y := by
  obtain ⟨h1, h2, h3, h4, h5⟩ := (h.alloc o).alloc q
  have e1 : (((w.alloc o).alloc q).setCell ⟨p, 0, none⟩ u).cell? ⟨p, 0, none⟩ = some u := World.cell?_setCell_same _ _ u h1
  have e2 : (((w.alloc o).alloc q).setCell ⟨p, 0, none⟩ u).cell? ⟨p, 1, none⟩ = some y := (World.cell?_setCell_other _ _ _ u (by simp)).trans h2
  have s1 : (((w.alloc o).alloc q).setCell ⟨p, 0, none⟩ u).heap.size = ((w.alloc o).alloc q).heap.size := by simp [go_sem]
  have f1 : (((w.alloc o).alloc q).setCell ⟨p, 0, none⟩ u).frozen? ⟨p, 0, none⟩ = false := by simp [go_sem] at h3 ⊢; exact h3
  have f2 : (((w.alloc o).alloc q).setCell ⟨p, 0, none⟩ u).frozen? ⟨p, 1, none⟩ = false := by simp [go_sem] at h4 ⊢; exact h4
  have B1 : Bx (((w.alloc o).alloc q).setCell ⟨p, 0, none⟩ u) p u y := ⟨e1, e2, f1, f2, by rw [s1]; exact h5⟩
  exact B1.alloc r
theorem hull_box {w : World} {p : Nat} {x y u v : Value} {o q r : Obj} (h : Bx w p x y) : Bx (((((w.alloc o).alloc q).setCell ⟨p, 0, none⟩ u).alloc r).setCell ⟨p, 1, none⟩ v) p u v := by
  obtain ⟨g1, g2, g3, g4, g5⟩ := hull_mid (u := u) h o q r
  refine ⟨(World.cell?_setCell_other _ _ _ v (by simp)).trans g1, World.cell?_setCell_same _ _ v g2, ?_, ?_, ?_⟩
  · simp [go_sem] at g3 ⊢; exact g3
  · simp [go_sem] at g4 ⊢; exact g4
  · simp [go_sem] at g5 ⊢; exact g5
theorem hull_else {w : World} {b p : Nat} {x y u v : Value} {o q r : Obj} (h : Bx w b x y) (hb : b ≠ p) : Bx (((((w.alloc o).alloc q).setCell ⟨p, 0, none⟩ u).alloc r).setCell ⟨p, 1, none⟩ v) b x y := by
  obtain ⟨h1, h2, h3, h4, h5⟩ := (h.alloc o).alloc q
  have s1 : (((w.alloc o).alloc q).setCell ⟨p, 0, none⟩ u).heap.size = ((w.alloc o).alloc q).heap.size := by simp [go_sem]
  have n : ∀ j k : Nat, (⟨b, j, none⟩ : Addr) ≠ ⟨p, k, none⟩ := fun j k e => hb (by cases e; rfl)
  have n' : ∀ j k : Nat, (⟨p, k, none⟩ : Addr) ≠ ⟨b, j, none⟩ := fun j k e => hb (by cases e; rfl)
  have B1 : Bx (((w.alloc o).alloc q).setCell ⟨p, 0, none⟩ u) b x y := ⟨(World.cell?_setCell_other _ _ _ u (by first | exact n _ _ | exact n' _ _)).trans h1, (World.cell?_setCell_other _ _ _ u (by first | exact n _ _ | exact n' _ _)).trans h2, by simp [go_sem, h3], by simp [go_sem, h4], by rw [s1]; exact h5⟩
  obtain ⟨g1, g2, g3, g4, g5⟩ := B1.alloc r
  refine ⟨(World.cell?_setCell_other _ _ _ v (by first | exact n _ _ | exact n' _ _)).trans g1, (World.cell?_setCell_other _ _ _ v (by first | exact n _ _ | exact n' _ _)).trans g2, ?_, ?_, ?_⟩
  · simp [go_sem] at g3 ⊢; exact g3
  · simp [go_sem] at g4 ⊢; exact g4
  · simp [go_sem] at g5 ⊢; exact g5
theorem hull_below {w v : World} {p : Nat} {x y : Value} {o q r : Obj} (h : Below w.heap.size w v) (hp : w.heap.size ≤ p) : Below w.heap.size w (((((v.alloc o).alloc q).setCell ⟨p, 0, none⟩ x).alloc r).setCell ⟨p, 1, none⟩ y) := by
  have h2 := (h.alloc h.size o).alloc (by have := h.size; simp; omega) q
  have h3 := h2.setCell (show w.heap.size ≤ (⟨p, 0, none⟩ : Addr).block from hp) x
  exact (h3.alloc h3.size r).setCell (show w.heap.size ≤ (⟨p, 1, none⟩ : Addr).block from hp) y
set_option maxRecDepth 100000 in
set_option maxHeartbeats 4000000 in
theorem shull_yes (a b c d l g B : Nat) (el : Hid (l = lsF a c)) (eg : Hid (g = grF b d)) (ha : a < 18446744073709551616) (hb : b < 18446744073709551616) (hc : c < 18446744073709551616) (hd : d < 18446744073709551616) (hr : (sRt a b && sRt c d) = true) (w : World) (h0 : w.cell? ⟨B, 0, none⟩ = some (.float .f64 a)) (h1 : w.cell? ⟨B, 1, none⟩ = some (.float .f64 b)) (h2 : w.cell? ⟨B, 2, none⟩ = some (.float .f64 c)) (h3 : w.cell? ⟨B, 3, none⟩ = some (.float .f64 d)) (hB : B < w.heap.size) :
    Calls Tryz.prog 6 #[.slice (some ⟨B, 0, none⟩) 2 2] w fun e w' => e = .returned (.tuple #[spV l g, .int .i64 0]) ∧ Below w.heap.size w w' := by
  have hst := run_storef Tryz.prog
  have cl := fun B w h => sleast_one a c B ha hc w h
  have cg := fun B w h => sgreatest_one b d B hb hd w h
  rw [← eg.out] at cg
  rw [← el.out] at cl
  clear eg el
  go_enter Tryz.func6, Tryz.ntmps6
  go_upto_region 3 with (go_at_call 20; refine (sall_two a b c d B _ (cell_al h0 _) (cell_al h1 _) (cell_al h2 _) (cell_al h3 _) (by simp; omega)).mono ?_; rw [hr]; rintro e v1 ⟨rfl, b1⟩)
  have R1 := (Bx.new w (.float .f64 0) (.float .f64 0) 27).below b1
  have Z1 := old1 b1
  have q0 := ((oldc Z1).1 B 0 hB).trans h0
  have q1 := ((oldc Z1).1 B 1 hB).trans h1
  have q2 := ((oldc Z1).1 B 2 hB).trans h2
  have q3 := ((oldc Z1).1 B 3 hB).trans h3
  have hBv : B < v1.heap.size := Nat.lt_of_lt_of_le hB Z1.size
  clear b1 h0 h1 h2 h3
  go_wp2
  go_loopg [6, 22] 1 (fun G _ v wr => ∃ k : Nat, k ≤ 1 ∧ G = 1 - k ∧ v = .int .i64 k ∧ Below w.heap.size w wr ∧ Bx wr w.heap.size (.float .f64 0) (.float .f64 0) ∧ Bx wr v1.heap.size (.float .f64 (if k = 0 then a else l)) (.float .f64 (if k = 0 then b else g)) ∧ wr.cell? ⟨B, 2, none⟩ = some (.float .f64 c) ∧ wr.cell? ⟨B, 3, none⟩ = some (.float .f64 d) ∧ B < wr.heap.size)
  case atStart => exact ⟨0, by omega, rfl, rfl, Z1.alloc Z1.size _, R1.alloc _, Bx.new v1 _ _ _, cell_al q2 _, cell_al q3 _, by simp; omega⟩
  case round =>
    obtain ⟨k, hk, hg, rfl, Zr, Rr, Hr, e2, e3, hBr⟩ := hrel
    have HG : Hid (gk = 1 - k) := hg
    clear hg q0 q1 q2 q3
    rcases (show k = 0 ∨ k = 1 by omega) with rfl | rfl
    · simp only [if_true] at Hr
      have np : w.heap.size ≠ v1.heap.size := by have := R1.2.2.2.2; omega
      have nB : B ≠ v1.heap.size := by omega
      have hp : w.heap.size ≤ v1.heap.size := Z1.size
      generalize v1.heap.size = p at *
      have x0 : ∀ o q, ((wr.alloc o).alloc q).cell? ⟨p, 0, none⟩ = some (.float .f64 a) := fun o q => ((Hr.alloc o).alloc q).1
      have x1 : ∀ o q, ((wr.alloc o).alloc q).cell? ⟨p, 1, none⟩ = some (.float .f64 b) := fun o q => ((Hr.alloc o).alloc q).2.1
      have x2 : ∀ o q, ((wr.alloc o).alloc q).frozen? ⟨p, 0, none⟩ = false := fun o q => ((Hr.alloc o).alloc q).2.2.1
      have x3 : ∀ o q, ((wr.alloc o).alloc q).frozen? ⟨p, 1, none⟩ = false := fun o q => ((Hr.alloc o).alloc q).2.2.2.1
      have x4 : ∀ o, (wr.alloc o).cell? ⟨p, 0, none⟩ = some (.float .f64 a) := fun o => (Hr.alloc o).1
      have x5 : ∀ o, (wr.alloc o).cell? ⟨p, 1, none⟩ = some (.float .f64 b) := fun o => (Hr.alloc o).2.1
      have x6 : ∀ o q r, ((((wr.alloc o).alloc q).setCell ⟨p, 0, none⟩ (.float .f64 l)).alloc r).cell? ⟨p, 1, none⟩ = some (.float .f64 b) := fun o q r => (hull_mid Hr o q r).2.1
      have x7 : ∀ o q r, ((((wr.alloc o).alloc q).setCell ⟨p, 0, none⟩ (.float .f64 l)).alloc r).frozen? ⟨p, 1, none⟩ = false := fun o q r => (hull_mid Hr o q r).2.2.2.1
      have l5 := Hr.2.2.2.2
      have m1 : ¬ p = wr.heap.size := by omega
      have m2 : ¬ p = wr.heap.size + 1 := by omega
      have m3 : ¬ p = wr.heap.size + 1 + 1 := by omega
      have m4 : ¬ p = wr.heap.size + 2 := by omega
      have m5 : ¬ wr.heap.size = p := by omega
      clear l5
      go_wp2_with (first
        | (go_at_call 21; refine (cl _ _ (by go_simp)).mono ?_; rintro e w' ⟨rfl, rfl⟩)
        | (go_at_call 22; refine (cg _ _ (by go_simp)).mono ?_; rintro e w' ⟨rfl, rfl⟩))
      go_roundg 0
      case measure => rw [HG.out]; omega
      case rel => exact ⟨1, by omega, rfl, rfl, hull_below Zr hp, hull_else Rr np, hull_box Hr, hull_cell e2 nB, hull_cell e3 nB, by simp [go_sem]; omega⟩
    · simp only [Nat.one_ne_zero, if_false] at Hr
      obtain ⟨c0, c1, f0, f1, _⟩ := Rr
      obtain ⟨d0, d1, _⟩ := Hr
      go_wp2
      exact bodyPost_ret (v := .tuple #[spV l g, .int .i64 0]) (by simp [results, Tryz.results6, go_sem, c0, c1]) rfl ⟨rfl, set2 Zr (Nat.le_refl _) _ _⟩
end Go.Proofs.YtajcfdcmbiffbaaGreatDoor

namespace Go.Proofs.YtajcfdcmbiffbaaGreatDoor
open Go.RowKit

/-- Two laid together. -/
def huP (o p : Nat × Nat) : Nat × Nat := (lsF o.1 p.1, grF o.2 p.2)
/-- The first k + 1 laid together. -/
def hlK (ps : List (Nat × Nat)) : Nat → Nat × Nat
  | 0 => ps.getD 0 (0, 0)
  | k + 1 => huP (hlK ps k) (ps.getD (k + 1) (0, 0))
/-- The same as the document goes. -/
def hlD (ps : List (Nat × Nat)) : Nat → Nat × Nat
  | 0 => ps.getD 0 (0, 0)
  | k + 1 => huP (hlD ps k) (ps.getD k (0, 0))
theorem huP_self (p : Nat × Nat) : huP p p = p := by
  unfold huP lsF grF
  split <;> split <;> rfl
theorem hlD_K (ps : List (Nat × Nat)) : ∀ k, hlD ps (k + 1) = hlK ps k
  | 0 => huP_self _
  | k + 1 => by
    show huP (hlD ps (k + 1)) _ = huP (hlK ps k) _
    rw [hlD_K ps k]
def WdP (p : Nat × Nat) : Prop := p.1 < 18446744073709551616 ∧ p.2 < 18446744073709551616
theorem huP_wd {o p : Nat × Nat} (h : WdP o) (g : WdP p) : WdP (huP o p) := ⟨lsF_lt h.1 g.1, grF_lt h.2 g.2⟩
theorem hlK_wd {ps : List (Nat × Nat)} (hF : FS ps) : ∀ k, k < ps.length → WdP (hlK ps k)
  | 0, h => hF.at h
  | k + 1, h => huP_wd (hlK_wd hF k (by omega)) (hF.at h)
theorem hlD_wd {ps : List (Nat × Nat)} (hF : FS ps) (h0 : 0 < ps.length) : ∀ k, k ≤ ps.length → WdP (hlD ps k)
  | 0, _ => hF.at h0
  | k + 1, h => huP_wd (hlD_wd hF h0 k (by omega)) (hF.at (by omega))
def hlA (ps : List (Nat × Nat)) : (Nat × Nat) × Int := if ps.length = 0 then ((0, 0), 2) else if rtL ps then (hlK ps (ps.length - 1), 0) else ((0, 0), 2)
set_option maxHeartbeats 1000000 in
theorem shullL_nil (ao : Option Addr) (cap : Nat) (w : World) :
    Calls Tryz.prog 6 #[.slice ao 0 cap] w fun e w' => e = .returned (.tuple #[spV 0 0, .int .i64 2]) ∧ Below w.heap.size w w' := by
  have hst := run_storef Tryz.prog
  obtain ⟨c0, c1, f0, f1, _⟩ := Bx.new w (.float .f64 0) (.float .f64 0) 27
  have Z := (Below.refl w.heap.size w).alloc (Nat.le_refl _) (.cells #[.float .f64 0, .float .f64 0] 27)
  go_enter Tryz.func6, Tryz.ntmps6
  go_wp2
  exact bodyPost_ret (v := .tuple #[spV 0 0, .int .i64 2]) (by simp [results, Tryz.results6, go_sem]) rfl ⟨rfl, by first | exact set2 Z (Nat.le_refl _) _ _ | exact Z⟩
set_option maxHeartbeats 1000000 in
theorem shullL_not (ps : List (Nat × Nat)) (ao : Option Addr) (cap : Nat) (w : World) (hr : SRow w ao ps) (h0 : ps.length ≠ 0) (hn : ps.length ≤ 1125899906842624) (hq : rtL ps = false) :
    Calls Tryz.prog 6 #[.slice ao ps.length cap] w fun e w' => e = .returned (.tuple #[spV 0 0, .int .i64 2]) ∧ Below w.heap.size w w' := by
  have hst := run_storef Tryz.prog
  have ca := fun w h => sall_any ps ao cap w h hn
  rw [hq] at ca
  generalize ps.length = N at *
  have hne : ((N : Int) == 0) = false := by simp; omega
  go_enter Tryz.func6, Tryz.ntmps6
  go_wp2_with (go_at_call 20; refine (ca _ (hr.below ((Below.refl _ _).alloc (Nat.le_refl _) _))).mono ?_; rintro e w1 ⟨rfl, b1⟩; obtain ⟨c0, c1, f0, f1, _⟩ := (Bx.new _ _ _ _).below b1)
  exact bodyPost_ret (v := .tuple #[spV 0 0, .int .i64 2]) (by simp [results, Tryz.results6, go_sem, c0, c1]) rfl ⟨rfl, set2 (old1 b1) (Nat.le_refl _) _ _⟩
set_option maxRecDepth 100000 in
set_option maxHeartbeats 4000000 in
theorem shullL_yes (ps : List (Nat × Nat)) (ao : Option Addr) (cap : Nat) (w : World) (hr : SRow w ao ps) (hF : FS ps) (h0 : ps.length ≠ 0) (hn : ps.length ≤ 1125899906842624) (hcap : ps.length < cap) (hq : rtL ps = true) :
    Calls Tryz.prog 6 #[.slice ao ps.length cap] w fun e w' => e = .returned (.tuple #[spV (hlK ps (ps.length - 1)).1 (hlK ps (ps.length - 1)).2, .int .i64 0]) ∧ Below w.heap.size w w' := by
  have hst := run_storef Tryz.prog
  have ca := fun w h => sall_any ps ao cap w h hn
  rw [hq] at ca
  have HR : Hid (∀ k, k < ps.length → WdP (hlK ps k)) := hlK_wd hF
  have HA : Hid (∀ k, k < ps.length → WdP (ps.getD k (0, 0))) := fun k hk => hF.at hk
  obtain ⟨⟨r0, r1⟩, er⟩ : ∃ t, hlK ps (ps.length - 1) = t := ⟨_, rfl⟩
  rw [er]
  have HE : Hid (hlK ps (ps.length - 1) = (r0, r1)) := er
  clear er
  rcases hr with h | ⟨b, off, rfl, hc⟩
  · exact absurd h h0
  · have hr : SRow w (some ⟨b, off, none⟩) ps := Or.inr ⟨b, off, rfl, hc⟩
    obtain ⟨N, hN⟩ : ∃ N, ps.length = N + 1 := ⟨ps.length - 1, by omega⟩
    have HN : Hid (ps.length = N + 1) := hN
    rw [hN] at ca hn h0 hc hcap HE HR HA ⊢
    have e1 : Hid (hlK ps N = (r0, r1)) := HE.out
    clear hN hF HE
    obtain ⟨g1, g2⟩ := hc 0 (by omega)
    have hne : (((N + 1 : Nat) : Int) == 0) = false := by simp; omega
    have hne2 : ((N : Int) + 1 == 0) = false := by simp; omega
    obtain ⟨⟨y0, y1⟩, ey⟩ : ∃ t, ps.getD 0 (0, 0) = t := ⟨_, rfl⟩
    rw [ey] at g1 g2
    have HK0 : Hid (hlK ps 0 = (y0, y1)) := ey
    simp only [Nat.zero_mul, Nat.add_zero] at g1 g2
    clear ey
    go_enter Tryz.func6, Tryz.ntmps6
    go_upto_region 4 with (go_at_call 20; refine (ca _ (hr.below ((Below.refl _ _).alloc (Nat.le_refl _) _))).mono ?_; rintro e w1 ⟨rfl, b1⟩; have Z1 := old1 b1; have k1 := (Z1.cell (World.block_lt_of_cell? w _ g1)).trans g1; have k2 := (Z1.cell (World.block_lt_of_cell? w _ g2)).trans g2)
    have R1 := (Bx.new w (.float .f64 0) (.float .f64 0) 27).below b1
    clear b1 ca k1 k2
    have R2 := R1.alloc (.cells #[.float .f64 y0, .float .f64 y1] 27)
    have H2 := Bx.new w1 (.float .f64 y0) (.float .f64 y1) 27
    have Z2 := Z1.alloc Z1.size (.cells #[.float .f64 y0, .float .f64 y1] 27)
    have np : w.heap.size ≠ w1.heap.size := by have := R1.2.2.2.2; omega
    have hp : w.heap.size ≤ w1.heap.size := Z1.size
    generalize w1.alloc (.cells #[.float .f64 y0, .float .f64 y1] 27) = w2 at *
    generalize w1.heap.size = p at *
    clear R1 Z1
    have c1 : (1 : Int) ≤ (N : Int) + 1 := by omega
    have c2 : ((N + 1 : Nat) : Int) ≤ (cap : Int) := by omega
    have c3 : (N : Int) + 1 ≤ (cap : Int) := by omega
    have c4 : N + 1 ≤ cap := Nat.le_of_lt hcap
    have c5 : ¬ cap = 1 := by omega
    have c6 : ¬ cap - 1 = 0 := by omega
    go_wp2
    have hnx : (N : Int) + 1 - 1 = (N : Int) := by omega
    go_loopg [6, 22] N (fun G _ v wr => ∃ k : Nat, k ≤ N ∧ G = N - k ∧ v = .int .i64 k ∧ Below w.heap.size w wr ∧ Bx wr w.heap.size (.float .f64 0) (.float .f64 0) ∧ Bx wr p (.float .f64 (hlK ps k).1) (.float .f64 (hlK ps k).2))
    case atStart => exact ⟨0, by omega, rfl, rfl, Z2, R2, by rw [HK0.out]; exact H2⟩
    case round =>
      obtain ⟨k, hk, hg, rfl, Zr, Rr, Hr⟩ := hrel
      have HG : Hid (gk = N - k) := hg
      clear hg R2 H2 Z2
      by_cases hlt : k < N
      · obtain ⟨dw1, dw2⟩ := hc (k + 1) (by omega)
        have ra := HA.out (k + 1) (by omega)
        have rb := HR.out k (by omega)
        have HS : Hid (hlK ps (k + 1) = huP (hlK ps k) (ps.getD (k + 1) (0, 0))) := (show _ = _ from rfl)
        obtain ⟨x, ex⟩ : ∃ x, ps.getD (k + 1) (0, 0) = x := ⟨_, rfl⟩
        obtain ⟨t, et⟩ : ∃ t, hlK ps k = t := ⟨_, rfl⟩
        rw [ex] at dw1 dw2 ra HS
        rw [et] at rb Hr HS
        obtain ⟨c, d⟩ := x
        obtain ⟨a, bb⟩ := t
        obtain ⟨ra1, ra2⟩ := ra
        obtain ⟨rb1, rb2⟩ := rb
        simp only at dw1 dw2 Hr ra1 ra2 rb1 rb2
        have cl := fun B w h => sleast_one a c B rb1 ra1 w h
        have cg := fun B w h => sgreatest_one bb d B rb2 ra2 w h
        obtain ⟨l, el⟩ : ∃ l, lsF a c = l := ⟨_, rfl⟩
        obtain ⟨g, eg⟩ : ∃ g, grF bb d = g := ⟨_, rfl⟩
        rw [el] at cl
        rw [eg] at cg
        have HS2 : Hid (hlK ps (k + 1) = (l, g)) := (show _ = _ by rw [HS.out, ← el, ← eg]; rfl)
        have e2 := (Zr.cell (World.block_lt_of_cell? w _ dw1)).trans dw1
        have e3 := (Zr.cell (World.block_lt_of_cell? w _ dw2)).trans dw2
        rw [show off + (k + 1) * 2 = off + 2 + k * 2 by omega] at e2 e3
        have i1 : (k : Int) < (N : Int) := by omega
        have i2 : k < N := hlt
        clear ex et el eg HS dw1 dw2 ra1 ra2 rb1 rb2 g1 g2 hc hr
        have x0 : ∀ o q, ((wr.alloc o).alloc q).cell? ⟨p, 0, none⟩ = some (.float .f64 a) := fun o q => ((Hr.alloc o).alloc q).1
        have x1 : ∀ o q, ((wr.alloc o).alloc q).cell? ⟨p, 1, none⟩ = some (.float .f64 bb) := fun o q => ((Hr.alloc o).alloc q).2.1
        have x2 : ∀ o q, ((wr.alloc o).alloc q).frozen? ⟨p, 0, none⟩ = false := fun o q => ((Hr.alloc o).alloc q).2.2.1
        have x3 : ∀ o q, ((wr.alloc o).alloc q).frozen? ⟨p, 1, none⟩ = false := fun o q => ((Hr.alloc o).alloc q).2.2.2.1
        have x4 : ∀ o, (wr.alloc o).cell? ⟨p, 0, none⟩ = some (.float .f64 a) := fun o => (Hr.alloc o).1
        have x5 : ∀ o, (wr.alloc o).cell? ⟨p, 1, none⟩ = some (.float .f64 bb) := fun o => (Hr.alloc o).2.1
        have x6 : ∀ o q r, ((((wr.alloc o).alloc q).setCell ⟨p, 0, none⟩ (.float .f64 l)).alloc r).cell? ⟨p, 1, none⟩ = some (.float .f64 bb) := fun o q r => (hull_mid Hr o q r).2.1
        have x7 : ∀ o q r, ((((wr.alloc o).alloc q).setCell ⟨p, 0, none⟩ (.float .f64 l)).alloc r).frozen? ⟨p, 1, none⟩ = false := fun o q r => (hull_mid Hr o q r).2.2.2.1
        have l5 := Hr.2.2.2.2
        have m1 : ¬ p = wr.heap.size := by omega
        have m2 : ¬ p = wr.heap.size + 1 := by omega
        have m3 : ¬ p = wr.heap.size + 1 + 1 := by omega
        have m4 : ¬ p = wr.heap.size + 2 := by omega
        have m5 : ¬ wr.heap.size = p := by omega
        clear l5
        go_wp2_with (first
          | (go_at_call 21; refine (cl _ _ (by go_simp)).mono ?_; rintro e w' ⟨rfl, rfl⟩)
          | (go_at_call 22; refine (cg _ _ (by go_simp)).mono ?_; rintro e w' ⟨rfl, rfl⟩))
        go_roundg (N - (k + 1))
        case measure => rw [HG.out]; omega
        case rel => exact ⟨k + 1, by omega, rfl, by go_num, hull_below Zr hp, hull_else Rr np, by rw [HS2.out]; exact hull_box Hr⟩
      · have hkN : k = N := by omega
        rw [hkN, e1.out] at Hr
        obtain ⟨c0, c1, f0, f1, _⟩ := Rr
        obtain ⟨d0, d1, _⟩ := Hr
        have i1 : ¬ (k : Int) < (N : Int) := by omega
        simp only at d0 d1
        clear hkN
        go_wp2
        exact bodyPost_ret (v := .tuple #[spV r0 r1, .int .i64 0]) (by simp [results, Tryz.results6, go_sem, c0, c1]) rfl ⟨rfl, set2 Zr (Nat.le_refl _) _ _⟩
set_option maxHeartbeats 1000000 in
theorem rhullL_nil (ao : Option Addr) (cap : Nat) (w : World) :
    Calls Tryz.prog 7 #[.slice ao 0 cap] w fun e w' => e = .returned (.tuple #[spV 0 0, .int .i64 2]) ∧ Below w.heap.size w w' := by
  have hst := run_storef Tryz.prog
  obtain ⟨c0, c1, f0, f1, _⟩ := Bx.new w (.float .f64 0) (.float .f64 0) 27
  have Z := (Below.refl w.heap.size w).alloc (Nat.le_refl _) (.cells #[.float .f64 0, .float .f64 0] 27)
  go_enter Tryz.func7, Tryz.ntmps7
  go_wp2
  exact bodyPost_ret (v := .tuple #[spV 0 0, .int .i64 2]) (by simp [results, Tryz.results7, go_sem]) rfl ⟨rfl, by first | exact set2 Z (Nat.le_refl _) _ _ | exact Z⟩
set_option maxRecDepth 100000 in
set_option maxHeartbeats 4000000 in
theorem rhullL_any (ps : List (Nat × Nat)) (ao : Option Addr) (cap : Nat) (w : World) (hr : SRow w ao ps) (hF : FS ps) (h0 : ps.length ≠ 0) (hn : ps.length ≤ 1125899906842624) :
    Calls Tryz.prog 7 #[.slice ao ps.length cap] w fun e w' => e = .returned (tsE (hlA ps)) ∧ Below w.heap.size w w' := by
  have hst := run_storef Tryz.prog
  have HR : Hid (∀ k, k ≤ ps.length → WdP (hlD ps k)) := hlD_wd hF (by omega)
  have HA : Hid (∀ k, k < ps.length → WdP (ps.getD k (0, 0))) := fun k hk => hF.at hk
  have HE1 : Hid (rtL ps = false → hlA ps = ((0, 0), 2)) := fun h => by unfold hlA; rw [h]; simp
  have HE2 : Hid (rtL ps = true → hlA ps = (hlD ps ps.length, 0)) := fun h => by
    obtain ⟨N, hN⟩ : ∃ N, ps.length = N + 1 := ⟨ps.length - 1, by omega⟩
    unfold hlA; rw [h, if_neg h0, hN, hlD_K]; rfl
  obtain ⟨N, hN⟩ : ∃ N, ps.length = N := ⟨_, rfl⟩
  have HN : Hid (ps.length = N) := hN
  rw [hN] at hn h0 HR HA HE2 ⊢
  clear hN hF
  have hne : ((N : Int) == 0) = false := by simp; omega
  rcases hr with h | ⟨b, off, rfl, hc⟩
  · exact absurd (HN.out.symm.trans h) h0
  · obtain ⟨g1, g2⟩ := hc 0 (by rw [HN.out]; omega)
    obtain ⟨⟨y0, y1⟩, ey⟩ : ∃ t, ps.getD 0 (0, 0) = t := ⟨_, rfl⟩
    rw [ey] at g1 g2
    have HK0 : Hid (hlD ps 0 = (y0, y1)) := ey
    simp only [Nat.zero_mul, Nat.add_zero] at g1 g2
    clear ey
    have k1 := cell_al g1 (.cells #[.float .f64 0, .float .f64 0] 27)
    have k2 := cell_al g2 (.cells #[.float .f64 0, .float .f64 0] 27)
    have i0 : 0 < N := by omega
    have i0' : (0 : Int) < (N : Int) := by omega
    go_enter Tryz.func7, Tryz.ntmps7
    go_upto_region 4 with fail
    have R1 := Bx.new w (.float .f64 0) (.float .f64 0) 27
    have Z1 := (Below.refl w.heap.size w).alloc (Nat.le_refl _) (.cells #[.float .f64 0, .float .f64 0] 27)
    have hs1 : (w.alloc (.cells #[.float .f64 0, .float .f64 0] 27)).heap.size = w.heap.size + 1 := by go_simp
    have R2 := R1.alloc (.cells #[.float .f64 y0, .float .f64 y1] 27)
    have H2 := Bx.new1 w (.float .f64 y0) (.float .f64 y1) (.cells #[.float .f64 0, .float .f64 0] 27) 27
    have Z2 := Z1.alloc Z1.size (.cells #[.float .f64 y0, .float .f64 y1] 27)
    have np : w.heap.size ≠ w.heap.size + 1 := by omega
    have hp : w.heap.size ≤ w.heap.size + 1 := by omega
    generalize (w.alloc (.cells #[.float .f64 0, .float .f64 0] 27)).alloc (.cells #[.float .f64 y0, .float .f64 y1] 27) = w2 at *
    obtain ⟨p, hpp⟩ : ∃ p, w.heap.size + 1 = p := ⟨_, rfl⟩
    rw [hpp] at H2 np hp ⊢
    clear R1 Z1 hs1 k1 k2 hpp
    go_wp2
    go_loopg [5] N (fun G v wr => ∃ k : Nat, k ≤ N ∧ G = N - k ∧ v = .int .i64 k ∧ Hid (rtL (ps.take k) = true) ∧ Below w.heap.size w wr ∧ Bx wr w.heap.size (.float .f64 0) (.float .f64 0) ∧ Bx wr p (.float .f64 (hlD ps k).1) (.float .f64 (hlD ps k).2))
    case atStart => exact ⟨0, by omega, rfl, rfl, rfl, Z2, R2, by rw [HK0.out]; exact H2⟩
    case round =>
      obtain ⟨k, hk, hg, rfl, hq, Zr, Rr, Hr⟩ := hrel
      have HG : Hid (gk = N - k) := hg
      clear hg R2 H2 Z2
      by_cases hlt : k < N
      · have hkl : k < ps.length := by rw [HN.out]; exact hlt
        obtain ⟨dw1, dw2⟩ := hc k hkl
        have ht := stake_at hkl
        have hnot := @rtL_not ps k hkl
        have ra := HA.out k (by omega)
        have rb := HR.out k (by omega)
        have HS : Hid (hlD ps (k + 1) = huP (hlD ps k) (ps.getD k (0, 0))) := (show _ = _ from rfl)
        obtain ⟨x, ex⟩ : ∃ x, ps.getD k (0, 0) = x := ⟨_, rfl⟩
        obtain ⟨t, et⟩ : ∃ t, hlD ps k = t := ⟨_, rfl⟩
        rw [ex] at dw1 dw2 ra HS ht hnot
        rw [et] at rb Hr HS
        obtain ⟨x0, x1⟩ := x
        obtain ⟨t0, t1⟩ := t
        obtain ⟨ra1, ra2⟩ := ra
        obtain ⟨rb1, rb2⟩ := rb
        simp only at dw1 dw2 Hr ra1 ra2 rb1 rb2 hnot
        have HT : Hid (rtL (ps.take (k + 1)) = sRt x0 x1) := (show _ = _ by rw [ht, rtL_snoc, hq.out]; rfl)
        have r1 := fun w => rright_any x0 x1 ra1 ra2 w
        have cl := fun w => rlesser_any t0 x0 rb1 ra1 w
        have cg := fun w => rgreater_any t1 x1 rb2 ra2 w
        obtain ⟨u, el⟩ : ∃ l, lsF t0 x0 = l := ⟨_, rfl⟩
        obtain ⟨v9, eg⟩ : ∃ g, grF t1 x1 = g := ⟨_, rfl⟩
        rw [el] at cl
        rw [eg] at cg
        have HS2 : Hid (hlD ps (k + 1) = (u, v9)) := (show _ = _ by rw [HS.out, ← el, ← eg]; rfl)
        have e2 := (Zr.cell (World.block_lt_of_cell? w _ dw1)).trans dw1
        have e3 := (Zr.cell (World.block_lt_of_cell? w _ dw2)).trans dw2
        have i1 : (k : Int) < (N : Int) := by omega
        have i2 : k < N := hlt
        have Hnot : Hid (sRt x0 x1 = false → rtL ps = false) := hnot
        clear ex et el eg HS ra1 ra2 rb1 rb2 g1 g2 hc ht hq hnot hkl
        cases q : sRt x0 x1 <;> rw [q] at r1
        · have Hn : Hid (hlA ps = ((0, 0), 2)) := HE1.out (Hnot.out q)
          clear Hnot HT
          go_wp2_with (go_at_call 23; refine (r1 _).mono ?_; rintro e w1 ⟨rfl, b1⟩; obtain ⟨c0, c1, f0, f1, _⟩ := Rr.below b1)
          exact bodyPost_ret (v := .tuple #[spV 0 0, .int .i64 2]) (by simp [results, Tryz.results7, go_sem, c0, c1]) rfl ⟨by rw [Hn.out], set2 (Zr.trans (b1.mono Zr.size)) (Nat.le_refl _) _ _⟩
        · have HT' : Hid (rtL (ps.take (k + 1)) = true) := HT.out.trans q
          clear Hnot HT
          go_upto_region 9 with (go_at_call 23; refine (r1 _).mono ?_; rintro e w1 ⟨rfl, b1⟩)
          have M0 : SmM w p u v9 t0 t1 false w1.drew := ⟨(Zr.trans (b1.mono Zr.size)).drew, (Rr.below b1).drew, (Hr.below b1).drew⟩
          have hM := @SmM.keep w p u v9 t0 t1
          clear Hr Rr Zr e2 e3 r1 b1
          obtain ⟨VAL, hVAL⟩ : ∃ V : Nat → Value, V = (fun j => match j with | 0 => .pointer (some ⟨p, 0, none⟩) | 1 => .float .f64 t0 | 2 => .slice (some ⟨b, off, none⟩) N cap | 3 => .int .i64 k | 4 => .pointer (some ⟨b, off + k * 2, none⟩) | 5 => .pointer (some ⟨b, off + k * 2, none⟩) | 6 => .float .f64 x0 | 7 => .float .f64 u | 8 => .pointer (some ⟨p, 1, none⟩) | 9 => .float .f64 t1 | 10 => .slice (some ⟨b, off, none⟩) N cap | 11 => .int .i64 k | 12 => .pointer (some ⟨b, off + k * 2, none⟩) | 13 => .pointer (some ⟨b, off + k * 2 + 1, none⟩) | 14 => .float .f64 x1 | 15 => .float .f64 v9 | 16 => .agg #[.float .f64 u, .float .f64 v9] | 17 => undef | _ => undef) := ⟨_, rfl⟩
          have V0 : VAL 0 = .pointer (some ⟨p, 0, none⟩) := congrFun hVAL 0
          have V1 : VAL 1 = .float .f64 t0 := congrFun hVAL 1
          have V2 : VAL 2 = .slice (some ⟨b, off, none⟩) N cap := congrFun hVAL 2
          have V3 : VAL 3 = .int .i64 k := congrFun hVAL 3
          have V4 : VAL 4 = .pointer (some ⟨b, off + k * 2, none⟩) := congrFun hVAL 4
          have V5 : VAL 5 = .pointer (some ⟨b, off + k * 2, none⟩) := congrFun hVAL 5
          have V6 : VAL 6 = .float .f64 x0 := congrFun hVAL 6
          have V7 : VAL 7 = .float .f64 u := congrFun hVAL 7
          have V8 : VAL 8 = .pointer (some ⟨p, 1, none⟩) := congrFun hVAL 8
          have V9 : VAL 9 = .float .f64 t1 := congrFun hVAL 9
          have V10 : VAL 10 = .slice (some ⟨b, off, none⟩) N cap := congrFun hVAL 10
          have V11 : VAL 11 = .int .i64 k := congrFun hVAL 11
          have V12 : VAL 12 = .pointer (some ⟨b, off + k * 2, none⟩) := congrFun hVAL 12
          have V13 : VAL 13 = .pointer (some ⟨b, off + k * 2 + 1, none⟩) := congrFun hVAL 13
          have V14 : VAL 14 = .float .f64 x1 := congrFun hVAL 14
          have V15 : VAL 15 = .float .f64 v9 := congrFun hVAL 15
          have V16 : VAL 16 = .agg #[.float .f64 u, .float .f64 v9] := congrFun hVAL 16
          have V17 : VAL 17 = undef := congrFun hVAL 17
          refine region_rg9 (by kernel_rfl) (fun v => ⟨#[.slice (some ⟨b, off, none⟩) N cap, undef, .pointer (some ⟨w.heap.size, 0, none⟩), u3, .pointer (some ⟨p, 0, none⟩), .int .i64 k, .slice (some ⟨b, off, none⟩) N cap, .int .i64 N, .bool false, undef, .slice (some ⟨b, off, none⟩) N cap, .pointer (some ⟨b, off, none⟩), .agg #[.float .f64 y0, .float .f64 y1], .int .i64 k, .slice (some ⟨b, off, none⟩) N cap, .int .i64 N, .bool true, u17, u18, .slice (some ⟨b, off, none⟩) N cap, .int .i64 k, .pointer (some ⟨b, off + k * 2, none⟩), .agg #[.float .f64 x0, .float .f64 x1], .bool true, .bool false, u25, v 0, v 1, v 2, v 3, v 4, v 5, v 6, v 7, v 8, v 9, v 10, v 11, v 12, v 13, v 14, v 15, v 16, undef], []⟩) (SmM w p u v9 t0 t1) 17 VAL (fun j => match j with | 0 => u26 | 1 => u27 | 2 => u28 | 3 => u29 | 4 => u30 | 5 => u31 | 6 => u32 | 7 => u33 | 8 => u34 | 9 => u35 | 10 => u36 | 11 => u37 | 12 => u38 | 13 => u39 | 14 => u40 | 15 => u41 | _ => u42) rfl M0 ?_ ?_
          · intro L v w' i hL hS hi
            obtain ⟨h1, h2, h3⟩ := mem_ready hi
            have h1 : i < 18 := h1
            try dsimp only
            have hno := off_not (by rw [hL]; exact h1) h2
            have hcs : i = 0 ∨ i = 1 ∨ i = 2 ∨ i = 3 ∨ i = 4 ∨ i = 5 ∨ i = 6 ∨ i = 7 ∨ i = 8 ∨ i = 9 ∨ i = 10 ∨ i = 11 ∨ i = 12 ∨ i = 13 ∨ i = 14 ∨ i = 15 ∨ i = 16 ∨ i = 17 := by omega
            rcases hcs with rfl | rfl | rfl | rfl | rfl | rfl | rfl | rfl | rfl | rfl | rfl | rfl | rfl | rfl | rfl | rfl | rfl | rfl
            · refine wpOp_of (fun K hK => ?_)
              unfold wpOp
              go_simp
              refine Or.inl ?_
              exact hK _ _ ⟨put9 v 0 (.pointer (some ⟨p, 0, none⟩)), (by simp [put9]), hS.step hM hL hi (by decide) (Below.refl _ _) V0.symm⟩
            · have e0 : v 0 = .pointer (some ⟨p, 0, none⟩) := (hS.d 0 (ready_dep hi 0 (by kernel_rfl))).trans V0
              have m := hS.n (fun g => hno (hS.dc 17 1 g (by kernel_rfl)))
              have q0 : w'.cell? ⟨p, 0, none⟩ = some (.float .f64 t0) := m.2.2.1
              have q1 : w'.cell? ⟨p, 1, none⟩ = some (.float .f64 t1) := m.2.2.2.1
              refine wpOp_of (fun K hK => ?_)
              unfold wpOp
              simp only [e0]
              go_simp
              refine Or.inl ?_
              exact hK _ _ ⟨put9 v 1 (.float .f64 t0), (by simp [put9, e0]), hS.step hM hL hi (by decide) (Below.refl _ _) V1.symm⟩
            · refine wpOp_of (fun K hK => ?_)
              unfold wpOp
              go_simp
              refine Or.inl ?_
              exact hK _ _ ⟨put9 v 2 (.slice (some ⟨b, off, none⟩) N cap), (by simp [put9]), hS.step hM hL hi (by decide) (Below.refl _ _) V2.symm⟩
            · refine wpOp_of (fun K hK => ?_)
              unfold wpOp
              go_simp
              refine Or.inl ?_
              exact hK _ _ ⟨put9 v 3 (.int .i64 k), (by simp [put9]), hS.step hM hL hi (by decide) (Below.refl _ _) V3.symm⟩
            · have e2 : v 2 = .slice (some ⟨b, off, none⟩) N cap := (hS.d 2 (ready_dep hi 2 (by kernel_rfl))).trans V2
              have e3 : v 3 = .int .i64 k := (hS.d 3 (ready_dep hi 3 (by kernel_rfl))).trans V3
              refine wpOp_of (fun K hK => ?_)
              unfold wpOp
              simp only [e2, e3]
              go_simp
              refine Or.inl ?_
              exact hK _ _ ⟨put9 v 4 (.pointer (some ⟨b, off + k * 2, none⟩)), (by simp [put9, e2, e3]), hS.step hM hL hi (by decide) (Below.refl _ _) V4.symm⟩
            · have e4 : v 4 = .pointer (some ⟨b, off + k * 2, none⟩) := (hS.d 4 (ready_dep hi 4 (by kernel_rfl))).trans V4
              refine wpOp_of (fun K hK => ?_)
              unfold wpOp
              simp only [e4]
              go_simp
              refine Or.inl ?_
              exact hK _ _ ⟨put9 v 5 (.pointer (some ⟨b, off + k * 2, none⟩)), (by simp [put9, e4]), hS.step hM hL hi (by decide) (Below.refl _ _) V5.symm⟩
            · have e5 : v 5 = .pointer (some ⟨b, off + k * 2, none⟩) := (hS.d 5 (ready_dep hi 5 (by kernel_rfl))).trans V5
              have m := hS.n (fun g => hno (hS.dc 17 6 g (by kernel_rfl)))
              have q0 := (m.1.cell (World.block_lt_of_cell? w _ dw1)).trans dw1
              have q1 := (m.1.cell (World.block_lt_of_cell? w _ dw2)).trans dw2
              refine wpOp_of (fun K hK => ?_)
              unfold wpOp
              simp only [e5]
              go_simp
              refine Or.inl ?_
              exact hK _ _ ⟨put9 v 6 (.float .f64 x0), (by simp [put9, e5]), hS.step hM hL hi (by decide) (Below.refl _ _) V6.symm⟩
            · have e1 : v 1 = .float .f64 t0 := (hS.d 1 (ready_dep hi 1 (by kernel_rfl))).trans V1
              have e6 : v 6 = .float .f64 x0 := (hS.d 6 (ready_dep hi 6 (by kernel_rfl))).trans V6
              refine wpOp_of (fun K hK => ?_)
              unfold wpOp
              simp only [e1, e6]
              go_simp
              refine Or.inl ?_
              refine (cl _).mono ?_
              rintro e w1 ⟨rfl, bc⟩
              exact hK _ _ ⟨put9 v 7 (.float .f64 u), (by simp [put9, e1, e6]), hS.step hM hL hi (by decide) bc V7.symm⟩
            · refine wpOp_of (fun K hK => ?_)
              unfold wpOp
              go_simp
              refine Or.inl ?_
              exact hK _ _ ⟨put9 v 8 (.pointer (some ⟨p, 1, none⟩)), (by simp [put9]), hS.step hM hL hi (by decide) (Below.refl _ _) V8.symm⟩
            · have e8 : v 8 = .pointer (some ⟨p, 1, none⟩) := (hS.d 8 (ready_dep hi 8 (by kernel_rfl))).trans V8
              have m := hS.n (fun g => hno (hS.dc 17 9 g (by kernel_rfl)))
              have q0 : w'.cell? ⟨p, 0, none⟩ = some (.float .f64 t0) := m.2.2.1
              have q1 : w'.cell? ⟨p, 1, none⟩ = some (.float .f64 t1) := m.2.2.2.1
              refine wpOp_of (fun K hK => ?_)
              unfold wpOp
              simp only [e8]
              go_simp
              refine Or.inl ?_
              exact hK _ _ ⟨put9 v 9 (.float .f64 t1), (by simp [put9, e8]), hS.step hM hL hi (by decide) (Below.refl _ _) V9.symm⟩
            · refine wpOp_of (fun K hK => ?_)
              unfold wpOp
              go_simp
              refine Or.inl ?_
              exact hK _ _ ⟨put9 v 10 (.slice (some ⟨b, off, none⟩) N cap), (by simp [put9]), hS.step hM hL hi (by decide) (Below.refl _ _) V10.symm⟩
            · refine wpOp_of (fun K hK => ?_)
              unfold wpOp
              go_simp
              refine Or.inl ?_
              exact hK _ _ ⟨put9 v 11 (.int .i64 k), (by simp [put9]), hS.step hM hL hi (by decide) (Below.refl _ _) V11.symm⟩
            · have e10 : v 10 = .slice (some ⟨b, off, none⟩) N cap := (hS.d 10 (ready_dep hi 10 (by kernel_rfl))).trans V10
              have e11 : v 11 = .int .i64 k := (hS.d 11 (ready_dep hi 11 (by kernel_rfl))).trans V11
              refine wpOp_of (fun K hK => ?_)
              unfold wpOp
              simp only [e10, e11]
              go_simp
              refine Or.inl ?_
              exact hK _ _ ⟨put9 v 12 (.pointer (some ⟨b, off + k * 2, none⟩)), (by simp [put9, e10, e11]), hS.step hM hL hi (by decide) (Below.refl _ _) V12.symm⟩
            · have e12 : v 12 = .pointer (some ⟨b, off + k * 2, none⟩) := (hS.d 12 (ready_dep hi 12 (by kernel_rfl))).trans V12
              refine wpOp_of (fun K hK => ?_)
              unfold wpOp
              simp only [e12]
              go_simp
              refine Or.inl ?_
              exact hK _ _ ⟨put9 v 13 (.pointer (some ⟨b, off + k * 2 + 1, none⟩)), (by simp [put9, e12]), hS.step hM hL hi (by decide) (Below.refl _ _) V13.symm⟩
            · have e13 : v 13 = .pointer (some ⟨b, off + k * 2 + 1, none⟩) := (hS.d 13 (ready_dep hi 13 (by kernel_rfl))).trans V13
              have m := hS.n (fun g => hno (hS.dc 17 14 g (by kernel_rfl)))
              have q0 := (m.1.cell (World.block_lt_of_cell? w _ dw1)).trans dw1
              have q1 := (m.1.cell (World.block_lt_of_cell? w _ dw2)).trans dw2
              refine wpOp_of (fun K hK => ?_)
              unfold wpOp
              simp only [e13]
              go_simp
              refine Or.inl ?_
              exact hK _ _ ⟨put9 v 14 (.float .f64 x1), (by simp [put9, e13]), hS.step hM hL hi (by decide) (Below.refl _ _) V14.symm⟩
            · have e9 : v 9 = .float .f64 t1 := (hS.d 9 (ready_dep hi 9 (by kernel_rfl))).trans V9
              have e14 : v 14 = .float .f64 x1 := (hS.d 14 (ready_dep hi 14 (by kernel_rfl))).trans V14
              refine wpOp_of (fun K hK => ?_)
              unfold wpOp
              simp only [e9, e14]
              go_simp
              refine Or.inl ?_
              refine (cg _).mono ?_
              rintro e w1 ⟨rfl, bc⟩
              exact hK _ _ ⟨put9 v 15 (.float .f64 v9), (by simp [put9, e9, e14]), hS.step hM hL hi (by decide) bc V15.symm⟩
            · have e7 : v 7 = .float .f64 u := (hS.d 7 (ready_dep hi 7 (by kernel_rfl))).trans V7
              have e15 : v 15 = .float .f64 v9 := (hS.d 15 (ready_dep hi 15 (by kernel_rfl))).trans V15
              refine wpOp_of (fun K hK => ?_)
              unfold wpOp
              simp only [e7, e15]
              go_simp
              refine Or.inl ?_
              exact hK _ _ ⟨put9 v 16 (.agg #[.float .f64 u, .float .f64 v9]), (by simp [put9, e7, e15]), hS.step hM hL hi (by decide) (Below.refl _ _) V16.symm⟩
            · have e16 : v 16 = .agg #[.float .f64 u, .float .f64 v9] := (hS.d 16 (ready_dep hi 16 (by kernel_rfl))).trans V16
              have m := hS.n hno
              obtain ⟨q0, q1, q2, q3, _⟩ : Bx w' p (.float .f64 t0) (.float .f64 t1) := m.2.2
              refine wpOp_of (fun K hK => ?_)
              unfold wpOp
              simp only [e16]
              go_simp
              refine Or.inl ?_
              exact hK _ _ ⟨put9 v 17 undef, (by simp [put9, e16]), hS.store hL hi (⟨set2 m.1 hp _ _, m.2.1.other np _ _, m.2.2.put _ _⟩) V17.symm⟩
          · intro L v w' hL hS hr
            have on := all_done hL hr (by kernel_rfl)
            have m := hS.y (on 17 (by decide))
            rw [hS.d 0 (on 0 (by decide)), V0]
            rw [hS.d 1 (on 1 (by decide)), V1]
            rw [hS.d 2 (on 2 (by decide)), V2]
            rw [hS.d 3 (on 3 (by decide)), V3]
            rw [hS.d 4 (on 4 (by decide)), V4]
            rw [hS.d 5 (on 5 (by decide)), V5]
            rw [hS.d 6 (on 6 (by decide)), V6]
            rw [hS.d 7 (on 7 (by decide)), V7]
            rw [hS.d 8 (on 8 (by decide)), V8]
            rw [hS.d 9 (on 9 (by decide)), V9]
            rw [hS.d 10 (on 10 (by decide)), V10]
            rw [hS.d 11 (on 11 (by decide)), V11]
            rw [hS.d 12 (on 12 (by decide)), V12]
            rw [hS.d 13 (on 13 (by decide)), V13]
            rw [hS.d 14 (on 14 (by decide)), V14]
            rw [hS.d 15 (on 15 (by decide)), V15]
            rw [hS.d 16 (on 16 (by decide)), V16]
            clear hS on hr
            obtain ⟨Z5, R5, H5⟩ := m
            go_wp2
            go_roundg (N - (k + 1))
            case measure => rw [HG.out]; omega
            case rel => exact ⟨k + 1, by omega, rfl, by go_num, HT', Z5, R5, by rw [HS2.out]; exact H5⟩
      · have hkN : k = N := by omega
        have e : ps.take k = ps := List.take_of_length_le (by have := HN.out; omega)
        have HS : Hid (hlA ps = (hlD ps N, 0)) := HE2.out (by rw [← e]; exact hq.out)
        rw [hkN] at Hr
        obtain ⟨⟨t0, t1⟩, et⟩ : ∃ t, hlD ps N = t := ⟨_, rfl⟩
        rw [et] at Hr HS
        obtain ⟨c0, c1, f0, f1, _⟩ := Rr
        obtain ⟨d0, d1, _⟩ := Hr
        have i1 : ¬ (k : Int) < (N : Int) := by omega
        simp only at d0 d1
        clear hkN e et
        go_wp2
        exact bodyPost_ret (v := .tuple #[spV t0 t1, .int .i64 0]) (by simp [results, Tryz.results7, go_sem, c0, c1]) rfl ⟨by rw [HS.out], set2 Zr (Nat.le_refl _) _ _⟩
end Go.Proofs.YtajcfdcmbiffbaaGreatDoor
