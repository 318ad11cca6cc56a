/- bars.Unknowns of any plan. -/
import Derived.Test.YtomohmjjaijlbaaGreatDoorBC
import Derived.Test.YtomohmjjaijlbaaGreatDoorBF
import Derived.Test.YtomohmjjaijlbaaGreatDoorBD
import Derived.Laws.MakeOwn
import Derived.Test.YtomohmjjaijlbaaGreatDoorBA
namespace Go.Proofs.YtomohmjjaijlbaaGreatDoor
open Go.RowKit

/-- Sixteen bools in a box. -/
structure T16 (w : World) (b : Nat) (f : Nat → Bool) : Prop where
  c : ∀ q, q < 16 → w.cell? ⟨b, q, none⟩ = some (.bool (f q))
  z : ∀ q, q < 16 → w.frozen? ⟨b, q, none⟩ = false
  lt : b < w.heap.size
theorem T16.below {w w' : World} {b : Nat} {f : Nat → Bool} (h : T16 w b f) (hb : Below w.heap.size w w') : T16 w' b f :=
  ⟨fun q hq => (hb.cell (p := ⟨b, q, none⟩) h.lt).trans (h.c q hq), fun q hq => (hb.frozen (p := ⟨b, q, none⟩) h.lt).trans (h.z q hq), Nat.lt_of_lt_of_le h.lt hb.size⟩
theorem T16.belowB {w w' : World} {b B : Nat} {f : Nat → Bool} (h : T16 w b f) (hl : b < B) (hb : Below B w w') : T16 w' b f :=
  ⟨fun q hq => (hb.cell (p := ⟨b, q, none⟩) hl).trans (h.c q hq), fun q hq => (hb.frozen (p := ⟨b, q, none⟩) hl).trans (h.z q hq), Nat.lt_of_lt_of_le h.lt hb.size⟩
theorem T16.alloc {w : World} {b : Nat} {f : Nat → Bool} (h : T16 w b f) (o : Obj) : T16 (w.alloc o) b f := h.below ((Below.refl _ _).alloc (Nat.le_refl _) o)
theorem T16.put {w : World} {b a : Nat} {f : Nat → Bool} (h : T16 w b f) (ha : a < 16) (v : Bool) : T16 (w.setCell ⟨b, a, none⟩ (.bool v)) b (fun i => if i = a then v else f i) := by
  have hc := h.c a ha
  have hz := h.z a ha
  refine ⟨fun q hq => ?_, fun q hq => ?_, by simpa [World.setCell] using h.lt⟩
  · by_cases e : q = a
    · subst e
      rw [if_pos rfl]
      go_simp
    · rw [if_neg e]
      have := h.c q hq
      simp [go_sem, this]
  · have := h.z q hq
    simp [go_sem, this]
theorem T16.new (w : World) (t : TypeId) : T16 (w.alloc (.cells #[.bool false, .bool false, .bool false, .bool false, .bool false, .bool false, .bool false, .bool false, .bool false, .bool false, .bool false, .bool false, .bool false, .bool false, .bool false, .bool false] t)) w.heap.size (fun _ => false) := by
  refine ⟨fun q hq => ?_, fun q hq => by go_simp, by simp⟩
  rcases (show q = 0 ∨ q = 1 ∨ q = 2 ∨ q = 3 ∨ q = 4 ∨ q = 5 ∨ q = 6 ∨ q = 7 ∨ q = 8 ∨ q = 9 ∨ q = 10 ∨ q = 11 ∨ q = 12 ∨ q = 13 ∨ q = 14 ∨ q = 15 by omega) with rfl | rfl | rfl | rfl | rfl | rfl | rfl | rfl | rfl | rfl | rfl | rfl | rfl | rfl | rfl | rfl <;> simp [go_sem]
theorem T16.congr {w : World} {b : Nat} {f g : Nat → Bool} (h : T16 w b f) (e : ∀ q, q < 16 → f q = g q) : T16 w b g := ⟨fun q hq => by rw [h.c q hq, e q hq], h.z, h.lt⟩
theorem MBox.far {w : World} {b g : Nat} {m : Mb} (h : MBox w b m) (hn : b ≠ g) {i : Nat} (a : Value) : MBox (w.setCell ⟨g, i, none⟩ a) b m := by
  obtain ⟨⟨c0, c1, c2, c3, c4, c5, c6, c7, c8⟩, f0, f1, f2, f3, f4, f5, f6, f7, f8, lt⟩ := h
  refine ⟨⟨?_, ?_, ?_, ?_, ?_, ?_, ?_, ?_, ?_⟩, ?_, ?_, ?_, ?_, ?_, ?_, ?_, ?_, ?_, by simpa [World.setCell] using lt⟩ <;> simp_all [go_sem]
/-- The ends of members stand among sixteen. -/
def En16 (ms : List Mb) : Prop := ∀ m, m ∈ ms → (0 ≤ m.a ∧ m.a < 16) ∧ (0 ≤ m.b ∧ m.b < 16)
theorem En16.at {ms : List Mb} (h : En16 ms) {k : Nat} (hk : k < ms.length) : (0 ≤ (ms.getD k mz).a ∧ (ms.getD k mz).a < 16) ∧ (0 ≤ (ms.getD k mz).b ∧ (ms.getD k mz).b < 16) := by
  rw [mgetD_at hk]
  exact h _ (List.getElem_mem hk)
theorem below_go {B : Nat} {w u v : World} (h : Below B w u) (g : Below B u v) (_ : w.heap.size ≤ u.heap.size) (_ : u.heap.size ≤ v.heap.size) : Below B w v := h.trans g
theorem tn_step {F f f2 : Nat → Bool} {m : Mb} {ea eb : Nat} {v w : Bool} (hF : ∀ q, F q = (f q || tn1 m q)) (h2 : ∀ q, f2 q = if q = ea then v else f q) {x y : Bool} (e1 : f ea = x) (e2 : f2 eb = y) (hv : v = (x || !m.ha)) (hw : w = (y || !m.hb)) (q : Nat) (hk : m.kd = 2 := by rfl) (ha : m.a = ea := by rfl) (hb : m.b = eb := by rfl) : (if q = eb then w else f2 q) = F q := by
  rw [hF q]
  unfold tn1
  rw [hk, ha, hb]
  subst e1 e2 hv hw
  by_cases p : q = eb
  · subst p
    rw [if_pos rfl, h2]
    by_cases r : q = ea
    · subst r
      simp [Bool.or_assoc]
    · have r' : ¬ (ea : Int) = (q : Int) := by omega
      rw [if_neg r]
      simp [r']
  · have p' : ¬ (eb : Int) = (q : Int) := by omega
    rw [if_neg p, h2]
    by_cases r : q = ea
    · subst r
      simp [p']
    · have r' : ¬ (ea : Int) = (q : Int) := by omega
      rw [if_neg r]
      simp [r', p']
/-- Sixteen bools as a value. -/
def b16 (f : Nat → Bool) : Value := .agg #[.bool (f 0), .bool (f 1), .bool (f 2), .bool (f 3), .bool (f 4), .bool (f 5), .bool (f 6), .bool (f 7), .bool (f 8), .bool (f 9), .bool (f 10), .bool (f 11), .bool (f 12), .bool (f 13), .bool (f 14), .bool (f 15)]
set_option maxRecDepth 100000 in
set_option maxHeartbeats 8000000 in
theorem turning_any (ms : List Mb) (A : Nat) (ao mo : Option Addr) (ac mc : Nat) (w : World) (mr : MRow w mo ms) (mn : ms.length ≤ 1125899906842624) (he : En16 ms) :
    Calls Tryz.prog 37 #[.agg #[.slice ao A ac, .slice mo ms.length mc]] w fun e w' => e = .returned (b16 (tnB ms)) ∧ Below w.heap.size w w' := by
  obtain ⟨N, hN⟩ : ∃ N, ms.length = N := ⟨_, rfl⟩
  have HN : Hid (ms.length = N) := hN
  rw [hN] at mn ⊢
  have hb0 : Below w.heap.size w (w.alloc (.cells #[.slice ao A ac, .slice mo N mc] 25)) := (Below.refl _ _).alloc (Nat.le_refl _) _
  have p1 : (w.alloc (.cells #[.slice ao A ac, .slice mo N mc] 25)).cell? ⟨w.heap.size, 1, none⟩ = some (.slice mo N mc) := by simp [go_sem]
  have pl : w.heap.size < (w.alloc (.cells #[.slice ao A ac, .slice mo N mc] 25)).heap.size := by simp
  have hs1 : (w.alloc (.cells #[.slice ao A ac, .slice mo N mc] 25)).heap.size = w.heap.size + 1 := by simp
  clear hN
  go_enter Tryz.func37, Tryz.ntmps37
  obtain ⟨W0, eW⟩ : ∃ W0, w.alloc (.cells #[.slice ao A ac, .slice mo N mc] 25) = W0 := ⟨_, rfl⟩
  rw [eW] at hb0 p1 pl hs1
  have RB := (T16.new W0 77).alloc (.cells #[.bool false, .bool false, .bool false, .bool false, .bool false, .bool false, .bool false, .bool false, .bool false, .bool false, .bool false, .bool false, .bool false, .bool false, .bool false, .bool false] 77)
  have TB := T16.new (W0.alloc (.cells #[.bool false, .bool false, .bool false, .bool false, .bool false, .bool false, .bool false, .bool false, .bool false, .bool false, .bool false, .bool false, .bool false, .bool false, .bool false, .bool false] 77)) 77
  rw [hs1] at RB
  rw [show (W0.alloc (.cells #[.bool false, .bool false, .bool false, .bool false, .bool false, .bool false, .bool false, .bool false, .bool false, .bool false, .bool false, .bool false, .bool false, .bool false, .bool false, .bool false] 77)).heap.size = w.heap.size + 1 + 1 by simp; omega] at TB
  have st := ((Below.refl W0.heap.size W0).alloc (Nat.le_refl _) (.cells #[.bool false, .bool false, .bool false, .bool false, .bool false, .bool false, .bool false, .bool false, .bool false, .bool false, .bool false, .bool false, .bool false, .bool false, .bool false, .bool false] 77)).alloc (by simp) (.cells #[.bool false, .bool false, .bool false, .bool false, .bool false, .bool false, .bool false, .bool false, .bool false, .bool false, .bool false, .bool false, .bool false, .bool false, .bool false, .bool false] 77)
  go_upto_region 2 with fail
  generalize (W0.alloc (.cells #[.bool false, .bool false, .bool false, .bool false, .bool false, .bool false, .bool false, .bool false, .bool false, .bool false, .bool false, .bool false, .bool false, .bool false, .bool false, .bool false] 77)).alloc (.cells #[.bool false, .bool false, .bool false, .bool false, .bool false, .bool false, .bool false, .bool false, .bool false, .bool false, .bool false, .bool false, .bool false, .bool false, .bool false, .bool false] 77) = W1 at *
  replace p1 : W1.cell? ⟨w.heap.size, 1, none⟩ = some (.slice mo N mc) := (st.cell (p := ⟨w.heap.size, 1, none⟩) pl).trans p1
  have hb1 := hb0.trans (st.mono hb0.size)
  have hz1 : w.heap.size + 1 + 1 < W1.heap.size := TB.lt
  clear eW st hb0 pl hs1 W0
  go_upto_region 3 with fail
  go_loopg [9] N (fun g v wr => ∃ j : Nat, j ≤ N ∧ g = N - j ∧ v = .int .i64 j ∧ T16 wr (w.heap.size + 1 + 1) (tnB (ms.take j)) ∧ Below (w.heap.size + 1 + 1) W1 wr ∧ W1.heap.size ≤ wr.heap.size)
  case atStart => exact ⟨0, by omega, rfl, rfl, TB, Below.refl _ _, Nat.le_refl _⟩
  case round =>
    obtain ⟨j, hj, hg, rfl, hT, hbr, hz⟩ := hrel
    have HG : Hid (gk = N - j) := hg
    clear hg TB
    by_cases hlt : j < N
    · have hbx := hb1.trans (hbr.mono (by omega : w.heap.size ≤ w.heap.size + 1 + 1))
      rcases mr.below hbx with h | ⟨b, off, rfl, hc⟩
      · exact absurd (HN.out ▸ h) (by omega)
      · have hjl : j < ms.length := by rw [HN.out]; exact hlt
        have gm := hc j hjl
        have hen := he.at hjl
        obtain ⟨m, ex⟩ : ∃ m, ms.getD j mz = m := ⟨_, rfl⟩
        rw [ex] at gm hen
        have HP : Hid (∀ q, tnB (ms.take (j + 1)) q = (tnB (ms.take j) q || tn1 m q)) := (show ∀ q, _ = _ from fun q => by rw [mtake_at hjl, ex, tnB_snoc])
        have X7 := MBox.new wr m 46
        have st : Below wr.heap.size wr (wr.alloc (mO m 46)) := (Below.refl _ _).alloc (Nat.le_refl _) _
        have i1 : (j : Int) < (N : Int) := by omega
        have hbl : b < wr.heap.size := gm.lt
        have n1 : b ≠ wr.heap.size := by omega
        have hst := run_storef Tryz.prog
        obtain ⟨s, kd, xa, xb, ha, hb, xe, xr, xi⟩ := m
        unfold mO at X7 st
        simp only at *
        obtain ⟨g0, g1, g2, g3, g4, g5, g6, g7, g8⟩ := gm
        simp only at g0 g1 g2 g3 g4 g5 g6 g7 g8
        clear hc ex
        go_upto_region 5 with fail
        clear hst g0 g1 g2 g3 g4 g5 g6 g7 g8
        replace hT := hT.below st
        have hbs := hbr.trans (st.mono (by omega : w.heap.size + 1 + 1 ≤ wr.heap.size))
        have hzz : W1.heap.size ≤ (wr.alloc (.cells #[.string s, .int .u8 kd, .int .i64 xa, .int .i64 xb, .bool ha, .bool hb, .float .f64 xe, .float .f64 xr, .float .f64 xi] 46)).heap.size := Nat.le_trans hz st.size
        generalize wr.alloc (.cells #[.string s, .int .u8 kd, .int .i64 xa, .int .i64 xb, .bool ha, .bool hb, .float .f64 xe, .float .f64 xr, .float .f64 xi] 46) = U1 at *
        obtain ⟨x0, x1, x2, x3, x4, x5, x6, x7, x8⟩ := X7.at0
        simp only [Nat.zero_add] at x0 x1 x2 x3 x4 x5 x6 x7 x8
        by_cases k2 : kd = 2
        case neg =>
          have j2 : ((kd : Int) == 2) = false := by simpa using (by omega : ¬ (kd : Int) = 2)
          have HQ : ∀ q, q < 16 → tnB (ms.take j) q = tnB (ms.take (j + 1)) q := fun q _ => by rw [HP.out]; unfold tn1; simp [k2]
          replace hT := hT.congr HQ
          clear HP HQ k2
          go_wp2
          go_roundg (N - (j + 1))
          case measure => rw [HG.out]; omega
          case rel => exact ⟨j + 1, by omega, rfl, by go_num, hT, hbs, hzz⟩
        subst k2
        obtain ⟨⟨a0, a1⟩, b0, b1⟩ := hen
        obtain ⟨ea, rfl⟩ : ∃ n : Nat, xa = n := ⟨xa.toNat, by omega⟩
        obtain ⟨eb, rfl⟩ : ∃ n : Nat, xb = n := ⟨xb.toNat, by omega⟩
        have a2 : ea < 16 := by omega
        have b2 : eb < 16 := by omega
        have a3 : (ea : Int) < 16 := by omega
        have b3 : (eb : Int) < 16 := by omega
        clear a0 a1 b0 b1
        obtain ⟨f, hf⟩ : ∃ f, tnB (ms.take j) = f := ⟨_, rfl⟩
        rw [hf] at hT
        have HF : Hid (∀ q, tnB (ms.take (j + 1)) q = (f q || tn1 ⟨s, 2, ea, eb, ha, hb, xe, xr, xi⟩ q)) := (show ∀ q, _ = _ from fun q => by rw [HP.out, hf])
        clear HP hf
        have t1 := hT.c ea a2
        have z1 := hT.z ea a2
        obtain ⟨v1, e1⟩ : ∃ v, f ea = v := ⟨_, rfl⟩
        rw [e1] at t1
        go_upto_region 6 with fail
        cases v1
        · obtain ⟨FL, hFL⟩ : ∃ f : Nat → Lz, f = (fun j => match j with | 0 => .is (.pointer (some ⟨wr.heap.size, 2, none⟩)) | 1 => .is (.int .i64 ea) | 2 => .is (.pointer (some ⟨wr.heap.size, 2, none⟩)) | 3 => .is (.int .i64 ea) | 4 => .is (.pointer (some ⟨w.heap.size + 1 + 1, ea, none⟩)) | 5 => .is (.bool false) | 6 => .is (.bool false) | 7 => .is (.pointer (some ⟨wr.heap.size, 4, none⟩)) | 8 => .is (.bool ha) | 9 => .is (.bool (!ha)) | 10 => .is (.bool (!ha)) | 11 => .is (.pointer (some ⟨w.heap.size + 1 + 1, ea, none⟩)) | 12 => .tr | _ => .tr) := ⟨_, rfl⟩
          have F0 := congrFun hFL 0
          have F1 := congrFun hFL 1
          have F2 := congrFun hFL 2
          have F3 := congrFun hFL 3
          have F4 := congrFun hFL 4
          have F5 := congrFun hFL 5
          have F6 := congrFun hFL 6
          have F7 := congrFun hFL 7
          have F8 := congrFun hFL 8
          have F9 := congrFun hFL 9
          have F10 := congrFun hFL 10
          have F11 := congrFun hFL 11
          have F12 := congrFun hFL 12
          simp only at F0 F1 F2 F3 F4 F5 F6 F7 F8 F9 F10 F11 F12
          clear hFL
          refine region_rgY (by kernel_rfl) (fun vv => ⟨#[Value.agg #[Value.slice ao A ac, Value.slice (some { block := b, off := off }) N mc], Value.pointer (some { block := w.heap.size, off := 0 }), Value.pointer (some { block := w.heap.size + 1, off := 0 }), Value.pointer (some { block := w.heap.size + 1 + 1, off := 0 }), undef, Value.pointer (some { block := wr.heap.size, off := 0 }), Value.pointer (some { block := w.heap.size, off := 1 }), Value.slice (some { block := b, off := off }) N mc, Value.int IntKind.i64 ↑N, Value.int IntKind.i64 ↑j, Value.bool true, Value.pointer (some { block := b, off := off + j * 9 }), .agg #[.string s, .int .u8 2, .int .i64 ea, .int .i64 eb, .bool ha, .bool hb, .float .f64 xe, .float .f64 xr, .float .f64 xi], Value.pointer (some { block := wr.heap.size, off := 1 }), Value.int IntKind.u8 2, Value.bool true, vv 0, vv 1, vv 2, vv 3, vv 4, vv 5, vv 6, vv 7, vv 8, vv 9, vv 10, vv 11, u28, u29, u30, u31, u32, u33, u34, u35, u36, u37, u38, u39, u40, undef], []⟩) 12 FL (fun wz _ => T16 wz (w.heap.size + 1 + 1) (fun i => if i = ea then (!ha) else f i) ∧ MBox wz wr.heap.size ⟨s, 2, ea, eb, ha, hb, xe, xr, xi⟩ ∧ Below (w.heap.size + 1 + 1) U1 wz ∧ U1.heap.size ≤ wz.heap.size) (fun j => match j with | 0 => u16 | 1 => u17 | 2 => u18 | 3 => u19 | 4 => u20 | 5 => u21 | 6 => u22 | 7 => u23 | 8 => u24 | 9 => u25 | 10 => u26 | 11 => u27 | _ => undef) rfl ?_ ?_
          · intro L vv wq i hL hS hD hi
            obtain ⟨hr1, hr2, hr3⟩ := mem_ready hi
            have hr1 : i < 13 := hr1
            try dsimp only
            have hcs : i = 0 ∨ i = 1 ∨ i = 2 ∨ i = 3 ∨ i = 4 ∨ i = 5 ∨ i = 6 ∨ i = 7 ∨ i = 8 ∨ i = 9 ∨ i = 10 ∨ i = 11 ∨ i = 12 := by omega
            clear hr1 hr2 hr3
            have hns := hS.open hL hi
            have hB := hS.a hns
            rcases hcs with rfl | rfl | rfl | rfl | rfl | rfl | rfl | rfl | rfl | rfl | rfl | rfl | rfl
            · refine wpOpT_of (fun K hK => ?_)
              unfold wpOp
              go_simp
              refine Or.inl ?_
              exact hK _ _ ⟨putT vv 0 (.pointer (some ⟨wr.heap.size, 2, none⟩)), (by simp [putT]), hS.step hL hi (by decide) (Below.refl _ _) (Lz.toIs F0)⟩
            · have e0 := Lz.ofIs (hS.f hns 0 (ready_dep hi 0 (by kernel_rfl))) F0
              have r2 := (hB.cell (p := ⟨wr.heap.size, 2, none⟩) X7.lt).trans x2
              refine wpOpT_of (fun K hK => ?_)
              unfold wpOp
              simp only [e0]
              go_simp
              refine Or.inl ?_
              exact hK _ _ ⟨putT vv 1 (.int .i64 ea), (by simp [putT, e0]), hS.step hL hi (by decide) (Below.refl _ _) (Lz.toIs F1)⟩
            · refine wpOpT_of (fun K hK => ?_)
              unfold wpOp
              go_simp
              refine Or.inl ?_
              exact hK _ _ ⟨putT vv 2 (.pointer (some ⟨wr.heap.size, 2, none⟩)), (by simp [putT]), hS.step hL hi (by decide) (Below.refl _ _) (Lz.toIs F2)⟩
            · have e2 := Lz.ofIs (hS.f hns 2 (ready_dep hi 2 (by kernel_rfl))) F2
              have r2 := (hB.cell (p := ⟨wr.heap.size, 2, none⟩) X7.lt).trans x2
              refine wpOpT_of (fun K hK => ?_)
              unfold wpOp
              simp only [e2]
              go_simp
              refine Or.inl ?_
              exact hK _ _ ⟨putT vv 3 (.int .i64 ea), (by simp [putT, e2]), hS.step hL hi (by decide) (Below.refl _ _) (Lz.toIs F3)⟩
            · have e3 := Lz.ofIs (hS.f hns 3 (ready_dep hi 3 (by kernel_rfl))) F3
              refine wpOpT_of (fun K hK => ?_)
              unfold wpOp
              simp only [e3]
              go_simp
              refine Or.inl ?_
              exact hK _ _ ⟨putT vv 4 (.pointer (some ⟨w.heap.size + 1 + 1, ea, none⟩)), (by simp [putT, e3]), hS.step hL hi (by decide) (Below.refl _ _) (Lz.toIs F4)⟩
            · have e4 := Lz.ofIs (hS.f hns 4 (ready_dep hi 4 (by kernel_rfl))) F4
              have rt := (hB.cell (p := ⟨w.heap.size + 1 + 1, ea, none⟩) hT.lt).trans t1
              refine wpOpT_of (fun K hK => ?_)
              unfold wpOp
              simp only [e4]
              go_simp
              refine Or.inl ?_
              exact hK _ _ ⟨putT vv 5 (.bool false), (by simp [putT, e4]), hS.step hL hi (by decide) (Below.refl _ _) (Lz.toIs F5)⟩
            · have e5 := Lz.ofIs (hS.f hns 5 (ready_dep hi 5 (by kernel_rfl))) F5
              refine wpOpT_of (fun K hK => ?_)
              unfold wpOp
              simp only [e5]
              go_simp
              refine Or.inl ?_
              exact hK _ _ ⟨putT vv 6 (.bool false), (by simp [putT, e5]), hS.step hL hi (by decide) (Below.refl _ _) (Lz.toIs F6)⟩
            · have e6 := Lz.ofIs (hS.f hns 6 (ready_dep hi 6 (by kernel_rfl))) F6
              refine wpOpT_of (fun K hK => ?_)
              unfold wpOp
              simp only [e6]
              go_simp
              refine Or.inl ?_
              exact hK _ _ ⟨putT vv 7 (.pointer (some ⟨wr.heap.size, 4, none⟩)), (by simp [putT, e6]), hS.step hL hi (by decide) (Below.refl _ _) (Lz.toIs F7)⟩
            · have e6 := Lz.ofIs (hS.f hns 6 (ready_dep hi 6 (by kernel_rfl))) F6
              have e7 := Lz.ofIs (hS.f hns 7 (ready_dep hi 7 (by kernel_rfl))) F7
              have r4 := (hB.cell (p := ⟨wr.heap.size, 4, none⟩) X7.lt).trans x4
              refine wpOpT_of (fun K hK => ?_)
              unfold wpOp
              simp only [e6, e7]
              go_simp
              refine Or.inl ?_
              exact hK _ _ ⟨putT vv 8 (.bool ha), (by simp [putT, e6, e7]), hS.step hL hi (by decide) (Below.refl _ _) (Lz.toIs F8)⟩
            · have e6 := Lz.ofIs (hS.f hns 6 (ready_dep hi 6 (by kernel_rfl))) F6
              have e8 := Lz.ofIs (hS.f hns 8 (ready_dep hi 8 (by kernel_rfl))) F8
              refine wpOpT_of (fun K hK => ?_)
              unfold wpOp
              simp only [e6, e8]
              go_simp
              refine Or.inl ?_
              exact hK _ _ ⟨putT vv 9 (.bool (!ha)), (by simp [putT, e6, e8]), hS.step hL hi (by decide) (Below.refl _ _) (Lz.toIs F9)⟩
            · have e6 := Lz.ofIs (hS.f hns 6 (ready_dep hi 6 (by kernel_rfl))) F6
              have e9 := Lz.ofIs (hS.f hns 9 (ready_dep hi 9 (by kernel_rfl))) F9
              refine wpOpT_of (fun K hK => ?_)
              unfold wpOp
              simp only [e6, e9]
              go_simp
              refine Or.inl ?_
              exact hK _ _ ⟨putT vv 10 (.bool (!ha)), (by simp [putT, e6, e9]), hS.step hL hi (by decide) (Below.refl _ _) (Lz.toIs F10)⟩
            · have e1 := Lz.ofIs (hS.f hns 1 (ready_dep hi 1 (by kernel_rfl))) F1
              refine wpOpT_of (fun K hK => ?_)
              unfold wpOp
              simp only [e1]
              go_simp
              refine Or.inl ?_
              exact hK _ _ ⟨putT vv 11 (.pointer (some ⟨w.heap.size + 1 + 1, ea, none⟩)), (by simp [putT, e1]), hS.step hL hi (by decide) (Below.refl _ _) (Lz.toIs F11)⟩
            · have e10 := Lz.ofIs (hS.f hns 10 (ready_dep hi 10 (by kernel_rfl))) F10
              have e11 := Lz.ofIs (hS.f hns 11 (ready_dep hi 11 (by kernel_rfl))) F11
              have rt := (hB.cell (p := ⟨w.heap.size + 1 + 1, ea, none⟩) hT.lt).trans t1
              have zt := (hB.frozen (p := ⟨w.heap.size + 1 + 1, ea, none⟩) hT.lt).trans z1
              refine wpOpT_of (fun K hK => ?_)
              unfold wpOp
              simp only [e10, e11]
              go_simp
              refine Or.inl ?_
              exact hK _ _ ⟨putT vv 12 undef, (by simp [putT, e10, e11]), hS.last hL hi (allY hD hi (by kernel_rfl)) (⟨(hT.below hB).put a2 _, (X7.below hB).far (by omega) _, (hB.mono (by omega : w.heap.size + 1 + 1 ≤ U1.heap.size)).setCell (p := ⟨w.heap.size + 1 + 1, ea, none⟩) (Nat.le_refl _) _, by simpa [World.setCell] using hB.size⟩)⟩
          · intro L vv wq hL hS hr
            have on := all_done hL hr (by kernel_rfl)
            obtain ⟨h6, X6, b6, z6⟩ := hS.z (on 12 (by decide))
            try dsimp only
            generalize vv 0 = y0 at *
            generalize vv 1 = y1 at *
            generalize vv 2 = y2 at *
            generalize vv 3 = y3 at *
            generalize vv 4 = y4 at *
            generalize vv 5 = y5 at *
            generalize vv 6 = y6 at *
            generalize vv 7 = y7 at *
            generalize vv 8 = y8 at *
            generalize vv 9 = y9 at *
            generalize vv 10 = y10 at *
            generalize vv 11 = y11 at *
            clear hS on hr FL hL L vv F0 F1 F2 F3 F4 F5 F6 F7 F8 F9 F10 F11 F12 hT X7 t1 z1 x0 x1 x2 x3 x4 x5 x6 x7 x8
            have hbs6 := below_go hbs b6 hzz z6
            have hz6 := Nat.le_trans hzz z6
            generalize wq = U2 at *
            obtain ⟨x0, x1, x2, x3, x4, x5, x6, x7, x8⟩ := X6.at0
            simp only [Nat.zero_add] at x0 x1 x2 x3 x4 x5 x6 x7 x8
            obtain ⟨f2, hf2⟩ : ∃ g : Nat → Bool, (fun i => if i = ea then (!ha) else f i) = g := ⟨_, rfl⟩
            rw [hf2] at h6
            have HQ : Hid (∀ q, f2 q = if q = ea then (!ha) else f q) := (show ∀ q, _ = _ from fun q => by rw [← hf2])
            have t1 := h6.c eb b2
            have z1 := h6.z eb b2
            obtain ⟨v2, e2⟩ : ∃ v, f2 eb = v := ⟨_, rfl⟩
            rw [e2] at t1
            clear hf2
            go_upto_region 7 with fail
            cases v2
            · obtain ⟨FL, hFL⟩ : ∃ f : Nat → Lz, f = (fun j => match j with | 0 => .is (.pointer (some ⟨wr.heap.size, 3, none⟩)) | 1 => .is (.int .i64 eb) | 2 => .is (.pointer (some ⟨wr.heap.size, 3, none⟩)) | 3 => .is (.int .i64 eb) | 4 => .is (.pointer (some ⟨w.heap.size + 1 + 1, eb, none⟩)) | 5 => .is (.bool false) | 6 => .is (.bool false) | 7 => .is (.pointer (some ⟨wr.heap.size, 5, none⟩)) | 8 => .is (.bool hb) | 9 => .is (.bool (!hb)) | 10 => .is (.bool (!hb)) | 11 => .is (.pointer (some ⟨w.heap.size + 1 + 1, eb, none⟩)) | 12 => .tr | _ => .tr) := ⟨_, rfl⟩
              have F0 := congrFun hFL 0
              have F1 := congrFun hFL 1
              have F2 := congrFun hFL 2
              have F3 := congrFun hFL 3
              have F4 := congrFun hFL 4
              have F5 := congrFun hFL 5
              have F6 := congrFun hFL 6
              have F7 := congrFun hFL 7
              have F8 := congrFun hFL 8
              have F9 := congrFun hFL 9
              have F10 := congrFun hFL 10
              have F11 := congrFun hFL 11
              have F12 := congrFun hFL 12
              simp only at F0 F1 F2 F3 F4 F5 F6 F7 F8 F9 F10 F11 F12
              clear hFL
              refine region_rgY (by kernel_rfl) (fun vv => ⟨#[Value.agg #[Value.slice ao A ac, Value.slice (some { block := b, off := off }) N mc], Value.pointer (some { block := w.heap.size, off := 0 }), Value.pointer (some { block := w.heap.size + 1, off := 0 }), Value.pointer (some { block := w.heap.size + 1 + 1, off := 0 }), undef, Value.pointer (some { block := wr.heap.size, off := 0 }), Value.pointer (some { block := w.heap.size, off := 1 }), Value.slice (some { block := b, off := off }) N mc, Value.int IntKind.i64 ↑N, Value.int IntKind.i64 ↑j, Value.bool true, Value.pointer (some { block := b, off := off + j * 9 }), .agg #[.string s, .int .u8 2, .int .i64 ea, .int .i64 eb, .bool ha, .bool hb, .float .f64 xe, .float .f64 xr, .float .f64 xi], Value.pointer (some { block := wr.heap.size, off := 1 }), Value.int IntKind.u8 2, Value.bool true, y0, y1, y2, y3, y4, y5, y6, y7, y8, y9, y10, y11, vv 0, vv 1, vv 2, vv 3, vv 4, vv 5, vv 6, vv 7, vv 8, vv 9, vv 10, vv 11, u40, undef], []⟩) 12 FL (fun wz _ => T16 wz (w.heap.size + 1 + 1) (fun i => if i = eb then (!hb) else f2 i) ∧ MBox wz wr.heap.size ⟨s, 2, ea, eb, ha, hb, xe, xr, xi⟩ ∧ Below (w.heap.size + 1 + 1) U2 wz ∧ U2.heap.size ≤ wz.heap.size) (fun j => match j with | 0 => u28 | 1 => u29 | 2 => u30 | 3 => u31 | 4 => u32 | 5 => u33 | 6 => u34 | 7 => u35 | 8 => u36 | 9 => u37 | 10 => u38 | 11 => u39 | _ => undef) rfl ?_ ?_
              · intro L vv wq i hL hS hD hi
                obtain ⟨hr1, hr2, hr3⟩ := mem_ready hi
                have hr1 : i < 13 := hr1
                try dsimp only
                have hcs : i = 0 ∨ i = 1 ∨ i = 2 ∨ i = 3 ∨ i = 4 ∨ i = 5 ∨ i = 6 ∨ i = 7 ∨ i = 8 ∨ i = 9 ∨ i = 10 ∨ i = 11 ∨ i = 12 := by omega
                clear hr1 hr2 hr3
                have hns := hS.open hL hi
                have hB := hS.a hns
                rcases hcs with rfl | rfl | rfl | rfl | rfl | rfl | rfl | rfl | rfl | rfl | rfl | rfl | rfl
                · refine wpOpT_of (fun K hK => ?_)
                  unfold wpOp
                  go_simp
                  refine Or.inl ?_
                  exact hK _ _ ⟨putT vv 0 (.pointer (some ⟨wr.heap.size, 3, none⟩)), (by simp [putT]), hS.step hL hi (by decide) (Below.refl _ _) (Lz.toIs F0)⟩
                · have e0 := Lz.ofIs (hS.f hns 0 (ready_dep hi 0 (by kernel_rfl))) F0
                  have r3 := (hB.cell (p := ⟨wr.heap.size, 3, none⟩) X6.lt).trans x3
                  refine wpOpT_of (fun K hK => ?_)
                  unfold wpOp
                  simp only [e0]
                  go_simp
                  refine Or.inl ?_
                  exact hK _ _ ⟨putT vv 1 (.int .i64 eb), (by simp [putT, e0]), hS.step hL hi (by decide) (Below.refl _ _) (Lz.toIs F1)⟩
                · refine wpOpT_of (fun K hK => ?_)
                  unfold wpOp
                  go_simp
                  refine Or.inl ?_
                  exact hK _ _ ⟨putT vv 2 (.pointer (some ⟨wr.heap.size, 3, none⟩)), (by simp [putT]), hS.step hL hi (by decide) (Below.refl _ _) (Lz.toIs F2)⟩
                · have e2 := Lz.ofIs (hS.f hns 2 (ready_dep hi 2 (by kernel_rfl))) F2
                  have r3 := (hB.cell (p := ⟨wr.heap.size, 3, none⟩) X6.lt).trans x3
                  refine wpOpT_of (fun K hK => ?_)
                  unfold wpOp
                  simp only [e2]
                  go_simp
                  refine Or.inl ?_
                  exact hK _ _ ⟨putT vv 3 (.int .i64 eb), (by simp [putT, e2]), hS.step hL hi (by decide) (Below.refl _ _) (Lz.toIs F3)⟩
                · have e3 := Lz.ofIs (hS.f hns 3 (ready_dep hi 3 (by kernel_rfl))) F3
                  refine wpOpT_of (fun K hK => ?_)
                  unfold wpOp
                  simp only [e3]
                  go_simp
                  refine Or.inl ?_
                  exact hK _ _ ⟨putT vv 4 (.pointer (some ⟨w.heap.size + 1 + 1, eb, none⟩)), (by simp [putT, e3]), hS.step hL hi (by decide) (Below.refl _ _) (Lz.toIs F4)⟩
                · have e4 := Lz.ofIs (hS.f hns 4 (ready_dep hi 4 (by kernel_rfl))) F4
                  have rt := (hB.cell (p := ⟨w.heap.size + 1 + 1, eb, none⟩) h6.lt).trans t1
                  refine wpOpT_of (fun K hK => ?_)
                  unfold wpOp
                  simp only [e4]
                  go_simp
                  refine Or.inl ?_
                  exact hK _ _ ⟨putT vv 5 (.bool false), (by simp [putT, e4]), hS.step hL hi (by decide) (Below.refl _ _) (Lz.toIs F5)⟩
                · have e5 := Lz.ofIs (hS.f hns 5 (ready_dep hi 5 (by kernel_rfl))) F5
                  refine wpOpT_of (fun K hK => ?_)
                  unfold wpOp
                  simp only [e5]
                  go_simp
                  refine Or.inl ?_
                  exact hK _ _ ⟨putT vv 6 (.bool false), (by simp [putT, e5]), hS.step hL hi (by decide) (Below.refl _ _) (Lz.toIs F6)⟩
                · have e6 := Lz.ofIs (hS.f hns 6 (ready_dep hi 6 (by kernel_rfl))) F6
                  refine wpOpT_of (fun K hK => ?_)
                  unfold wpOp
                  simp only [e6]
                  go_simp
                  refine Or.inl ?_
                  exact hK _ _ ⟨putT vv 7 (.pointer (some ⟨wr.heap.size, 5, none⟩)), (by simp [putT, e6]), hS.step hL hi (by decide) (Below.refl _ _) (Lz.toIs F7)⟩
                · have e6 := Lz.ofIs (hS.f hns 6 (ready_dep hi 6 (by kernel_rfl))) F6
                  have e7 := Lz.ofIs (hS.f hns 7 (ready_dep hi 7 (by kernel_rfl))) F7
                  have r5 := (hB.cell (p := ⟨wr.heap.size, 5, none⟩) X6.lt).trans x5
                  refine wpOpT_of (fun K hK => ?_)
                  unfold wpOp
                  simp only [e6, e7]
                  go_simp
                  refine Or.inl ?_
                  exact hK _ _ ⟨putT vv 8 (.bool hb), (by simp [putT, e6, e7]), hS.step hL hi (by decide) (Below.refl _ _) (Lz.toIs F8)⟩
                · have e6 := Lz.ofIs (hS.f hns 6 (ready_dep hi 6 (by kernel_rfl))) F6
                  have e8 := Lz.ofIs (hS.f hns 8 (ready_dep hi 8 (by kernel_rfl))) F8
                  refine wpOpT_of (fun K hK => ?_)
                  unfold wpOp
                  simp only [e6, e8]
                  go_simp
                  refine Or.inl ?_
                  exact hK _ _ ⟨putT vv 9 (.bool (!hb)), (by simp [putT, e6, e8]), hS.step hL hi (by decide) (Below.refl _ _) (Lz.toIs F9)⟩
                · have e6 := Lz.ofIs (hS.f hns 6 (ready_dep hi 6 (by kernel_rfl))) F6
                  have e9 := Lz.ofIs (hS.f hns 9 (ready_dep hi 9 (by kernel_rfl))) F9
                  refine wpOpT_of (fun K hK => ?_)
                  unfold wpOp
                  simp only [e6, e9]
                  go_simp
                  refine Or.inl ?_
                  exact hK _ _ ⟨putT vv 10 (.bool (!hb)), (by simp [putT, e6, e9]), hS.step hL hi (by decide) (Below.refl _ _) (Lz.toIs F10)⟩
                · have e1 := Lz.ofIs (hS.f hns 1 (ready_dep hi 1 (by kernel_rfl))) F1
                  refine wpOpT_of (fun K hK => ?_)
                  unfold wpOp
                  simp only [e1]
                  go_simp
                  refine Or.inl ?_
                  exact hK _ _ ⟨putT vv 11 (.pointer (some ⟨w.heap.size + 1 + 1, eb, none⟩)), (by simp [putT, e1]), hS.step hL hi (by decide) (Below.refl _ _) (Lz.toIs F11)⟩
                · have e10 := Lz.ofIs (hS.f hns 10 (ready_dep hi 10 (by kernel_rfl))) F10
                  have e11 := Lz.ofIs (hS.f hns 11 (ready_dep hi 11 (by kernel_rfl))) F11
                  have rt := (hB.cell (p := ⟨w.heap.size + 1 + 1, eb, none⟩) h6.lt).trans t1
                  have zt := (hB.frozen (p := ⟨w.heap.size + 1 + 1, eb, none⟩) h6.lt).trans z1
                  refine wpOpT_of (fun K hK => ?_)
                  unfold wpOp
                  simp only [e10, e11]
                  go_simp
                  refine Or.inl ?_
                  exact hK _ _ ⟨putT vv 12 undef, (by simp [putT, e10, e11]), hS.last hL hi (allY hD hi (by kernel_rfl)) (⟨(h6.below hB).put b2 _, (X6.below hB).far (by omega) _, (hB.mono (by omega : w.heap.size + 1 + 1 ≤ U2.heap.size)).setCell (p := ⟨w.heap.size + 1 + 1, eb, none⟩) (Nat.le_refl _) _, by simpa [World.setCell] using hB.size⟩)⟩
              · intro L vv wq hL hS hr
                have on := all_done hL hr (by kernel_rfl)
                obtain ⟨h7, _, b7, z7⟩ := hS.z (on 12 (by decide))
                try dsimp only
                generalize vv 0 = yy0 at *
                generalize vv 1 = yy1 at *
                generalize vv 2 = yy2 at *
                generalize vv 3 = yy3 at *
                generalize vv 4 = yy4 at *
                generalize vv 5 = yy5 at *
                generalize vv 6 = yy6 at *
                generalize vv 7 = yy7 at *
                generalize vv 8 = yy8 at *
                generalize vv 9 = yy9 at *
                generalize vv 10 = yy10 at *
                generalize vv 11 = yy11 at *
                clear hS on hr FL hL L vv F0 F1 F2 F3 F4 F5 F6 F7 F8 F9 F10 F11 F12 h6 X6 t1 z1 x0 x1 x2 x3 x4 x5 x6 x7 x8 b6
                have hbs7 := below_go hbs6 b7 hz6 z7
                have hz7 := Nat.le_trans hz6 z7
                replace h7 := h7.congr (g := tnB (ms.take (j + 1))) (fun q hq => tn_step HF.out HQ.out e1 e2 (by simp) (by simp) q)
                clear HF HQ e1 e2
                generalize wq = U3 at *
                go_wp2
                go_roundg (N - (j + 1))
                case measure => rw [HG.out]; omega
                case rel => exact ⟨j + 1, by omega, rfl, by go_num, h7, hbs7, hz7⟩
            · obtain ⟨FL, hFL⟩ : ∃ f : Nat → Lz, f = (fun j => match j with | 0 => .is (.pointer (some ⟨wr.heap.size, 3, none⟩)) | 1 => .is (.int .i64 eb) | 2 => .is (.pointer (some ⟨wr.heap.size, 3, none⟩)) | 3 => .is (.int .i64 eb) | 4 => .is (.pointer (some ⟨w.heap.size + 1 + 1, eb, none⟩)) | 5 => .is (.bool true) | 6 => .is (.bool true) | 7 => .tr | 8 => .tr | 9 => .tr | 10 => .is (.bool true) | 11 => .is (.pointer (some ⟨w.heap.size + 1 + 1, eb, none⟩)) | 12 => .tr | _ => .tr) := ⟨_, rfl⟩
              have F0 := congrFun hFL 0
              have F1 := congrFun hFL 1
              have F2 := congrFun hFL 2
              have F3 := congrFun hFL 3
              have F4 := congrFun hFL 4
              have F5 := congrFun hFL 5
              have F6 := congrFun hFL 6
              have F7 := congrFun hFL 7
              have F8 := congrFun hFL 8
              have F9 := congrFun hFL 9
              have F10 := congrFun hFL 10
              have F11 := congrFun hFL 11
              have F12 := congrFun hFL 12
              simp only at F0 F1 F2 F3 F4 F5 F6 F7 F8 F9 F10 F11 F12
              clear hFL
              refine region_rgY (by kernel_rfl) (fun vv => ⟨#[Value.agg #[Value.slice ao A ac, Value.slice (some { block := b, off := off }) N mc], Value.pointer (some { block := w.heap.size, off := 0 }), Value.pointer (some { block := w.heap.size + 1, off := 0 }), Value.pointer (some { block := w.heap.size + 1 + 1, off := 0 }), undef, Value.pointer (some { block := wr.heap.size, off := 0 }), Value.pointer (some { block := w.heap.size, off := 1 }), Value.slice (some { block := b, off := off }) N mc, Value.int IntKind.i64 ↑N, Value.int IntKind.i64 ↑j, Value.bool true, Value.pointer (some { block := b, off := off + j * 9 }), .agg #[.string s, .int .u8 2, .int .i64 ea, .int .i64 eb, .bool ha, .bool hb, .float .f64 xe, .float .f64 xr, .float .f64 xi], Value.pointer (some { block := wr.heap.size, off := 1 }), Value.int IntKind.u8 2, Value.bool true, y0, y1, y2, y3, y4, y5, y6, y7, y8, y9, y10, y11, vv 0, vv 1, vv 2, vv 3, vv 4, vv 5, vv 6, vv 7, vv 8, vv 9, vv 10, vv 11, u40, undef], []⟩) 12 FL (fun wz _ => T16 wz (w.heap.size + 1 + 1) (fun i => if i = eb then true else f2 i) ∧ MBox wz wr.heap.size ⟨s, 2, ea, eb, ha, hb, xe, xr, xi⟩ ∧ Below (w.heap.size + 1 + 1) U2 wz ∧ U2.heap.size ≤ wz.heap.size) (fun j => match j with | 0 => u28 | 1 => u29 | 2 => u30 | 3 => u31 | 4 => u32 | 5 => u33 | 6 => u34 | 7 => u35 | 8 => u36 | 9 => u37 | 10 => u38 | 11 => u39 | _ => undef) rfl ?_ ?_
              · intro L vv wq i hL hS hD hi
                obtain ⟨hr1, hr2, hr3⟩ := mem_ready hi
                have hr1 : i < 13 := hr1
                try dsimp only
                have hcs : i = 0 ∨ i = 1 ∨ i = 2 ∨ i = 3 ∨ i = 4 ∨ i = 5 ∨ i = 6 ∨ i = 7 ∨ i = 8 ∨ i = 9 ∨ i = 10 ∨ i = 11 ∨ i = 12 := by omega
                clear hr1 hr2 hr3
                have hns := hS.open hL hi
                have hB := hS.a hns
                rcases hcs with rfl | rfl | rfl | rfl | rfl | rfl | rfl | rfl | rfl | rfl | rfl | rfl | rfl
                · refine wpOpT_of (fun K hK => ?_)
                  unfold wpOp
                  go_simp
                  refine Or.inl ?_
                  exact hK _ _ ⟨putT vv 0 (.pointer (some ⟨wr.heap.size, 3, none⟩)), (by simp [putT]), hS.step hL hi (by decide) (Below.refl _ _) (Lz.toIs F0)⟩
                · have e0 := Lz.ofIs (hS.f hns 0 (ready_dep hi 0 (by kernel_rfl))) F0
                  have r3 := (hB.cell (p := ⟨wr.heap.size, 3, none⟩) X6.lt).trans x3
                  refine wpOpT_of (fun K hK => ?_)
                  unfold wpOp
                  simp only [e0]
                  go_simp
                  refine Or.inl ?_
                  exact hK _ _ ⟨putT vv 1 (.int .i64 eb), (by simp [putT, e0]), hS.step hL hi (by decide) (Below.refl _ _) (Lz.toIs F1)⟩
                · refine wpOpT_of (fun K hK => ?_)
                  unfold wpOp
                  go_simp
                  refine Or.inl ?_
                  exact hK _ _ ⟨putT vv 2 (.pointer (some ⟨wr.heap.size, 3, none⟩)), (by simp [putT]), hS.step hL hi (by decide) (Below.refl _ _) (Lz.toIs F2)⟩
                · have e2 := Lz.ofIs (hS.f hns 2 (ready_dep hi 2 (by kernel_rfl))) F2
                  have r3 := (hB.cell (p := ⟨wr.heap.size, 3, none⟩) X6.lt).trans x3
                  refine wpOpT_of (fun K hK => ?_)
                  unfold wpOp
                  simp only [e2]
                  go_simp
                  refine Or.inl ?_
                  exact hK _ _ ⟨putT vv 3 (.int .i64 eb), (by simp [putT, e2]), hS.step hL hi (by decide) (Below.refl _ _) (Lz.toIs F3)⟩
                · have e3 := Lz.ofIs (hS.f hns 3 (ready_dep hi 3 (by kernel_rfl))) F3
                  refine wpOpT_of (fun K hK => ?_)
                  unfold wpOp
                  simp only [e3]
                  go_simp
                  refine Or.inl ?_
                  exact hK _ _ ⟨putT vv 4 (.pointer (some ⟨w.heap.size + 1 + 1, eb, none⟩)), (by simp [putT, e3]), hS.step hL hi (by decide) (Below.refl _ _) (Lz.toIs F4)⟩
                · have e4 := Lz.ofIs (hS.f hns 4 (ready_dep hi 4 (by kernel_rfl))) F4
                  have rt := (hB.cell (p := ⟨w.heap.size + 1 + 1, eb, none⟩) h6.lt).trans t1
                  refine wpOpT_of (fun K hK => ?_)
                  unfold wpOp
                  simp only [e4]
                  go_simp
                  refine Or.inl ?_
                  exact hK _ _ ⟨putT vv 5 (.bool true), (by simp [putT, e4]), hS.step hL hi (by decide) (Below.refl _ _) (Lz.toIs F5)⟩
                · have e5 := Lz.ofIs (hS.f hns 5 (ready_dep hi 5 (by kernel_rfl))) F5
                  refine wpOpT_of (fun K hK => ?_)
                  unfold wpOp
                  simp only [e5]
                  go_simp
                  refine Or.inl ?_
                  exact hK _ _ ⟨putT vv 6 (.bool true), (by simp [putT, e5]), hS.step hL hi (by decide) (Below.refl _ _) (Lz.toIs F6)⟩
                · have e6 := Lz.ofIs (hS.f hns 6 (ready_dep hi 6 (by kernel_rfl))) F6
                  refine wpOpT_of (fun K hK => ?_)
                  unfold wpOp
                  simp only [e6]
                  go_simp
                  exact hK _ _ ⟨putT vv 7 undef, (by simp [putT, e6]), hS.step hL hi (by decide) (Below.refl _ _) (Lz.toTr F7)⟩
                · have e6 := Lz.ofIs (hS.f hns 6 (ready_dep hi 6 (by kernel_rfl))) F6
                  refine wpOpT_of (fun K hK => ?_)
                  unfold wpOp
                  simp only [e6]
                  go_simp
                  exact hK _ _ ⟨putT vv 8 undef, (by simp [putT, e6]), hS.step hL hi (by decide) (Below.refl _ _) (Lz.toTr F8)⟩
                · have e6 := Lz.ofIs (hS.f hns 6 (ready_dep hi 6 (by kernel_rfl))) F6
                  refine wpOpT_of (fun K hK => ?_)
                  unfold wpOp
                  simp only [e6]
                  go_simp
                  exact hK _ _ ⟨putT vv 9 undef, (by simp [putT, e6]), hS.step hL hi (by decide) (Below.refl _ _) (Lz.toTr F9)⟩
                · have e6 := Lz.ofIs (hS.f hns 6 (ready_dep hi 6 (by kernel_rfl))) F6
                  refine wpOpT_of (fun K hK => ?_)
                  unfold wpOp
                  simp only [e6]
                  go_simp
                  refine Or.inl ?_
                  exact hK _ _ ⟨putT vv 10 (.bool true), (by simp [putT, e6]), hS.step hL hi (by decide) (Below.refl _ _) (Lz.toIs F10)⟩
                · have e1 := Lz.ofIs (hS.f hns 1 (ready_dep hi 1 (by kernel_rfl))) F1
                  refine wpOpT_of (fun K hK => ?_)
                  unfold wpOp
                  simp only [e1]
                  go_simp
                  refine Or.inl ?_
                  exact hK _ _ ⟨putT vv 11 (.pointer (some ⟨w.heap.size + 1 + 1, eb, none⟩)), (by simp [putT, e1]), hS.step hL hi (by decide) (Below.refl _ _) (Lz.toIs F11)⟩
                · have e10 := Lz.ofIs (hS.f hns 10 (ready_dep hi 10 (by kernel_rfl))) F10
                  have e11 := Lz.ofIs (hS.f hns 11 (ready_dep hi 11 (by kernel_rfl))) F11
                  have rt := (hB.cell (p := ⟨w.heap.size + 1 + 1, eb, none⟩) h6.lt).trans t1
                  have zt := (hB.frozen (p := ⟨w.heap.size + 1 + 1, eb, none⟩) h6.lt).trans z1
                  refine wpOpT_of (fun K hK => ?_)
                  unfold wpOp
                  simp only [e10, e11]
                  go_simp
                  refine Or.inl ?_
                  exact hK _ _ ⟨putT vv 12 undef, (by simp [putT, e10, e11]), hS.last hL hi (allY hD hi (by kernel_rfl)) (⟨(h6.below hB).put b2 _, (X6.below hB).far (by omega) _, (hB.mono (by omega : w.heap.size + 1 + 1 ≤ U2.heap.size)).setCell (p := ⟨w.heap.size + 1 + 1, eb, none⟩) (Nat.le_refl _) _, by simpa [World.setCell] using hB.size⟩)⟩
              · intro L vv wq hL hS hr
                have on := all_done hL hr (by kernel_rfl)
                obtain ⟨h7, _, b7, z7⟩ := hS.z (on 12 (by decide))
                try dsimp only
                generalize vv 0 = yy0 at *
                generalize vv 1 = yy1 at *
                generalize vv 2 = yy2 at *
                generalize vv 3 = yy3 at *
                generalize vv 4 = yy4 at *
                generalize vv 5 = yy5 at *
                generalize vv 6 = yy6 at *
                generalize vv 7 = yy7 at *
                generalize vv 8 = yy8 at *
                generalize vv 9 = yy9 at *
                generalize vv 10 = yy10 at *
                generalize vv 11 = yy11 at *
                clear hS on hr FL hL L vv F0 F1 F2 F3 F4 F5 F6 F7 F8 F9 F10 F11 F12 h6 X6 t1 z1 x0 x1 x2 x3 x4 x5 x6 x7 x8 b6
                have hbs7 := below_go hbs6 b7 hz6 z7
                have hz7 := Nat.le_trans hz6 z7
                replace h7 := h7.congr (g := tnB (ms.take (j + 1))) (fun q hq => tn_step HF.out HQ.out e1 e2 (by simp) (by rfl) q)
                clear HF HQ e1 e2
                generalize wq = U3 at *
                go_wp2
                go_roundg (N - (j + 1))
                case measure => rw [HG.out]; omega
                case rel => exact ⟨j + 1, by omega, rfl, by go_num, h7, hbs7, hz7⟩
        · obtain ⟨FL, hFL⟩ : ∃ f : Nat → Lz, f = (fun j => match j with | 0 => .is (.pointer (some ⟨wr.heap.size, 2, none⟩)) | 1 => .is (.int .i64 ea) | 2 => .is (.pointer (some ⟨wr.heap.size, 2, none⟩)) | 3 => .is (.int .i64 ea) | 4 => .is (.pointer (some ⟨w.heap.size + 1 + 1, ea, none⟩)) | 5 => .is (.bool true) | 6 => .is (.bool true) | 7 => .tr | 8 => .tr | 9 => .tr | 10 => .is (.bool true) | 11 => .is (.pointer (some ⟨w.heap.size + 1 + 1, ea, none⟩)) | 12 => .tr | _ => .tr) := ⟨_, rfl⟩
          have F0 := congrFun hFL 0
          have F1 := congrFun hFL 1
          have F2 := congrFun hFL 2
          have F3 := congrFun hFL 3
          have F4 := congrFun hFL 4
          have F5 := congrFun hFL 5
          have F6 := congrFun hFL 6
          have F7 := congrFun hFL 7
          have F8 := congrFun hFL 8
          have F9 := congrFun hFL 9
          have F10 := congrFun hFL 10
          have F11 := congrFun hFL 11
          have F12 := congrFun hFL 12
          simp only at F0 F1 F2 F3 F4 F5 F6 F7 F8 F9 F10 F11 F12
          clear hFL
          refine region_rgY (by kernel_rfl) (fun vv => ⟨#[Value.agg #[Value.slice ao A ac, Value.slice (some { block := b, off := off }) N mc], Value.pointer (some { block := w.heap.size, off := 0 }), Value.pointer (some { block := w.heap.size + 1, off := 0 }), Value.pointer (some { block := w.heap.size + 1 + 1, off := 0 }), undef, Value.pointer (some { block := wr.heap.size, off := 0 }), Value.pointer (some { block := w.heap.size, off := 1 }), Value.slice (some { block := b, off := off }) N mc, Value.int IntKind.i64 ↑N, Value.int IntKind.i64 ↑j, Value.bool true, Value.pointer (some { block := b, off := off + j * 9 }), .agg #[.string s, .int .u8 2, .int .i64 ea, .int .i64 eb, .bool ha, .bool hb, .float .f64 xe, .float .f64 xr, .float .f64 xi], Value.pointer (some { block := wr.heap.size, off := 1 }), Value.int IntKind.u8 2, Value.bool true, vv 0, vv 1, vv 2, vv 3, vv 4, vv 5, vv 6, vv 7, vv 8, vv 9, vv 10, vv 11, u28, u29, u30, u31, u32, u33, u34, u35, u36, u37, u38, u39, u40, undef], []⟩) 12 FL (fun wz _ => T16 wz (w.heap.size + 1 + 1) (fun i => if i = ea then true else f i) ∧ MBox wz wr.heap.size ⟨s, 2, ea, eb, ha, hb, xe, xr, xi⟩ ∧ Below (w.heap.size + 1 + 1) U1 wz ∧ U1.heap.size ≤ wz.heap.size) (fun j => match j with | 0 => u16 | 1 => u17 | 2 => u18 | 3 => u19 | 4 => u20 | 5 => u21 | 6 => u22 | 7 => u23 | 8 => u24 | 9 => u25 | 10 => u26 | 11 => u27 | _ => undef) rfl ?_ ?_
          · intro L vv wq i hL hS hD hi
            obtain ⟨hr1, hr2, hr3⟩ := mem_ready hi
            have hr1 : i < 13 := hr1
            try dsimp only
            have hcs : i = 0 ∨ i = 1 ∨ i = 2 ∨ i = 3 ∨ i = 4 ∨ i = 5 ∨ i = 6 ∨ i = 7 ∨ i = 8 ∨ i = 9 ∨ i = 10 ∨ i = 11 ∨ i = 12 := by omega
            clear hr1 hr2 hr3
            have hns := hS.open hL hi
            have hB := hS.a hns
            rcases hcs with rfl | rfl | rfl | rfl | rfl | rfl | rfl | rfl | rfl | rfl | rfl | rfl | rfl
            · refine wpOpT_of (fun K hK => ?_)
              unfold wpOp
              go_simp
              refine Or.inl ?_
              exact hK _ _ ⟨putT vv 0 (.pointer (some ⟨wr.heap.size, 2, none⟩)), (by simp [putT]), hS.step hL hi (by decide) (Below.refl _ _) (Lz.toIs F0)⟩
            · have e0 := Lz.ofIs (hS.f hns 0 (ready_dep hi 0 (by kernel_rfl))) F0
              have r2 := (hB.cell (p := ⟨wr.heap.size, 2, none⟩) X7.lt).trans x2
              refine wpOpT_of (fun K hK => ?_)
              unfold wpOp
              simp only [e0]
              go_simp
              refine Or.inl ?_
              exact hK _ _ ⟨putT vv 1 (.int .i64 ea), (by simp [putT, e0]), hS.step hL hi (by decide) (Below.refl _ _) (Lz.toIs F1)⟩
            · refine wpOpT_of (fun K hK => ?_)
              unfold wpOp
              go_simp
              refine Or.inl ?_
              exact hK _ _ ⟨putT vv 2 (.pointer (some ⟨wr.heap.size, 2, none⟩)), (by simp [putT]), hS.step hL hi (by decide) (Below.refl _ _) (Lz.toIs F2)⟩
            · have e2 := Lz.ofIs (hS.f hns 2 (ready_dep hi 2 (by kernel_rfl))) F2
              have r2 := (hB.cell (p := ⟨wr.heap.size, 2, none⟩) X7.lt).trans x2
              refine wpOpT_of (fun K hK => ?_)
              unfold wpOp
              simp only [e2]
              go_simp
              refine Or.inl ?_
              exact hK _ _ ⟨putT vv 3 (.int .i64 ea), (by simp [putT, e2]), hS.step hL hi (by decide) (Below.refl _ _) (Lz.toIs F3)⟩
            · have e3 := Lz.ofIs (hS.f hns 3 (ready_dep hi 3 (by kernel_rfl))) F3
              refine wpOpT_of (fun K hK => ?_)
              unfold wpOp
              simp only [e3]
              go_simp
              refine Or.inl ?_
              exact hK _ _ ⟨putT vv 4 (.pointer (some ⟨w.heap.size + 1 + 1, ea, none⟩)), (by simp [putT, e3]), hS.step hL hi (by decide) (Below.refl _ _) (Lz.toIs F4)⟩
            · have e4 := Lz.ofIs (hS.f hns 4 (ready_dep hi 4 (by kernel_rfl))) F4
              have rt := (hB.cell (p := ⟨w.heap.size + 1 + 1, ea, none⟩) hT.lt).trans t1
              refine wpOpT_of (fun K hK => ?_)
              unfold wpOp
              simp only [e4]
              go_simp
              refine Or.inl ?_
              exact hK _ _ ⟨putT vv 5 (.bool true), (by simp [putT, e4]), hS.step hL hi (by decide) (Below.refl _ _) (Lz.toIs F5)⟩
            · have e5 := Lz.ofIs (hS.f hns 5 (ready_dep hi 5 (by kernel_rfl))) F5
              refine wpOpT_of (fun K hK => ?_)
              unfold wpOp
              simp only [e5]
              go_simp
              refine Or.inl ?_
              exact hK _ _ ⟨putT vv 6 (.bool true), (by simp [putT, e5]), hS.step hL hi (by decide) (Below.refl _ _) (Lz.toIs F6)⟩
            · have e6 := Lz.ofIs (hS.f hns 6 (ready_dep hi 6 (by kernel_rfl))) F6
              refine wpOpT_of (fun K hK => ?_)
              unfold wpOp
              simp only [e6]
              go_simp
              exact hK _ _ ⟨putT vv 7 undef, (by simp [putT, e6]), hS.step hL hi (by decide) (Below.refl _ _) (Lz.toTr F7)⟩
            · have e6 := Lz.ofIs (hS.f hns 6 (ready_dep hi 6 (by kernel_rfl))) F6
              refine wpOpT_of (fun K hK => ?_)
              unfold wpOp
              simp only [e6]
              go_simp
              exact hK _ _ ⟨putT vv 8 undef, (by simp [putT, e6]), hS.step hL hi (by decide) (Below.refl _ _) (Lz.toTr F8)⟩
            · have e6 := Lz.ofIs (hS.f hns 6 (ready_dep hi 6 (by kernel_rfl))) F6
              refine wpOpT_of (fun K hK => ?_)
              unfold wpOp
              simp only [e6]
              go_simp
              exact hK _ _ ⟨putT vv 9 undef, (by simp [putT, e6]), hS.step hL hi (by decide) (Below.refl _ _) (Lz.toTr F9)⟩
            · have e6 := Lz.ofIs (hS.f hns 6 (ready_dep hi 6 (by kernel_rfl))) F6
              refine wpOpT_of (fun K hK => ?_)
              unfold wpOp
              simp only [e6]
              go_simp
              refine Or.inl ?_
              exact hK _ _ ⟨putT vv 10 (.bool true), (by simp [putT, e6]), hS.step hL hi (by decide) (Below.refl _ _) (Lz.toIs F10)⟩
            · have e1 := Lz.ofIs (hS.f hns 1 (ready_dep hi 1 (by kernel_rfl))) F1
              refine wpOpT_of (fun K hK => ?_)
              unfold wpOp
              simp only [e1]
              go_simp
              refine Or.inl ?_
              exact hK _ _ ⟨putT vv 11 (.pointer (some ⟨w.heap.size + 1 + 1, ea, none⟩)), (by simp [putT, e1]), hS.step hL hi (by decide) (Below.refl _ _) (Lz.toIs F11)⟩
            · have e10 := Lz.ofIs (hS.f hns 10 (ready_dep hi 10 (by kernel_rfl))) F10
              have e11 := Lz.ofIs (hS.f hns 11 (ready_dep hi 11 (by kernel_rfl))) F11
              have rt := (hB.cell (p := ⟨w.heap.size + 1 + 1, ea, none⟩) hT.lt).trans t1
              have zt := (hB.frozen (p := ⟨w.heap.size + 1 + 1, ea, none⟩) hT.lt).trans z1
              refine wpOpT_of (fun K hK => ?_)
              unfold wpOp
              simp only [e10, e11]
              go_simp
              refine Or.inl ?_
              exact hK _ _ ⟨putT vv 12 undef, (by simp [putT, e10, e11]), hS.last hL hi (allY hD hi (by kernel_rfl)) (⟨(hT.below hB).put a2 _, (X7.below hB).far (by omega) _, (hB.mono (by omega : w.heap.size + 1 + 1 ≤ U1.heap.size)).setCell (p := ⟨w.heap.size + 1 + 1, ea, none⟩) (Nat.le_refl _) _, by simpa [World.setCell] using hB.size⟩)⟩
          · intro L vv wq hL hS hr
            have on := all_done hL hr (by kernel_rfl)
            obtain ⟨h6, X6, b6, z6⟩ := hS.z (on 12 (by decide))
            try dsimp only
            generalize vv 0 = y0 at *
            generalize vv 1 = y1 at *
            generalize vv 2 = y2 at *
            generalize vv 3 = y3 at *
            generalize vv 4 = y4 at *
            generalize vv 5 = y5 at *
            generalize vv 6 = y6 at *
            generalize vv 7 = y7 at *
            generalize vv 8 = y8 at *
            generalize vv 9 = y9 at *
            generalize vv 10 = y10 at *
            generalize vv 11 = y11 at *
            clear hS on hr FL hL L vv F0 F1 F2 F3 F4 F5 F6 F7 F8 F9 F10 F11 F12 hT X7 t1 z1 x0 x1 x2 x3 x4 x5 x6 x7 x8
            have hbs6 := below_go hbs b6 hzz z6
            have hz6 := Nat.le_trans hzz z6
            generalize wq = U2 at *
            obtain ⟨x0, x1, x2, x3, x4, x5, x6, x7, x8⟩ := X6.at0
            simp only [Nat.zero_add] at x0 x1 x2 x3 x4 x5 x6 x7 x8
            obtain ⟨f2, hf2⟩ : ∃ g : Nat → Bool, (fun i => if i = ea then true else f i) = g := ⟨_, rfl⟩
            rw [hf2] at h6
            have HQ : Hid (∀ q, f2 q = if q = ea then true else f q) := (show ∀ q, _ = _ from fun q => by rw [← hf2])
            have t1 := h6.c eb b2
            have z1 := h6.z eb b2
            obtain ⟨v2, e2⟩ : ∃ v, f2 eb = v := ⟨_, rfl⟩
            rw [e2] at t1
            clear hf2
            go_upto_region 7 with fail
            cases v2
            · obtain ⟨FL, hFL⟩ : ∃ f : Nat → Lz, f = (fun j => match j with | 0 => .is (.pointer (some ⟨wr.heap.size, 3, none⟩)) | 1 => .is (.int .i64 eb) | 2 => .is (.pointer (some ⟨wr.heap.size, 3, none⟩)) | 3 => .is (.int .i64 eb) | 4 => .is (.pointer (some ⟨w.heap.size + 1 + 1, eb, none⟩)) | 5 => .is (.bool false) | 6 => .is (.bool false) | 7 => .is (.pointer (some ⟨wr.heap.size, 5, none⟩)) | 8 => .is (.bool hb) | 9 => .is (.bool (!hb)) | 10 => .is (.bool (!hb)) | 11 => .is (.pointer (some ⟨w.heap.size + 1 + 1, eb, none⟩)) | 12 => .tr | _ => .tr) := ⟨_, rfl⟩
              have F0 := congrFun hFL 0
              have F1 := congrFun hFL 1
              have F2 := congrFun hFL 2
              have F3 := congrFun hFL 3
              have F4 := congrFun hFL 4
              have F5 := congrFun hFL 5
              have F6 := congrFun hFL 6
              have F7 := congrFun hFL 7
              have F8 := congrFun hFL 8
              have F9 := congrFun hFL 9
              have F10 := congrFun hFL 10
              have F11 := congrFun hFL 11
              have F12 := congrFun hFL 12
              simp only at F0 F1 F2 F3 F4 F5 F6 F7 F8 F9 F10 F11 F12
              clear hFL
              refine region_rgY (by kernel_rfl) (fun vv => ⟨#[Value.agg #[Value.slice ao A ac, Value.slice (some { block := b, off := off }) N mc], Value.pointer (some { block := w.heap.size, off := 0 }), Value.pointer (some { block := w.heap.size + 1, off := 0 }), Value.pointer (some { block := w.heap.size + 1 + 1, off := 0 }), undef, Value.pointer (some { block := wr.heap.size, off := 0 }), Value.pointer (some { block := w.heap.size, off := 1 }), Value.slice (some { block := b, off := off }) N mc, Value.int IntKind.i64 ↑N, Value.int IntKind.i64 ↑j, Value.bool true, Value.pointer (some { block := b, off := off + j * 9 }), .agg #[.string s, .int .u8 2, .int .i64 ea, .int .i64 eb, .bool ha, .bool hb, .float .f64 xe, .float .f64 xr, .float .f64 xi], Value.pointer (some { block := wr.heap.size, off := 1 }), Value.int IntKind.u8 2, Value.bool true, y0, y1, y2, y3, y4, y5, y6, y7, y8, y9, y10, y11, vv 0, vv 1, vv 2, vv 3, vv 4, vv 5, vv 6, vv 7, vv 8, vv 9, vv 10, vv 11, u40, undef], []⟩) 12 FL (fun wz _ => T16 wz (w.heap.size + 1 + 1) (fun i => if i = eb then (!hb) else f2 i) ∧ MBox wz wr.heap.size ⟨s, 2, ea, eb, ha, hb, xe, xr, xi⟩ ∧ Below (w.heap.size + 1 + 1) U2 wz ∧ U2.heap.size ≤ wz.heap.size) (fun j => match j with | 0 => u28 | 1 => u29 | 2 => u30 | 3 => u31 | 4 => u32 | 5 => u33 | 6 => u34 | 7 => u35 | 8 => u36 | 9 => u37 | 10 => u38 | 11 => u39 | _ => undef) rfl ?_ ?_
              · intro L vv wq i hL hS hD hi
                obtain ⟨hr1, hr2, hr3⟩ := mem_ready hi
                have hr1 : i < 13 := hr1
                try dsimp only
                have hcs : i = 0 ∨ i = 1 ∨ i = 2 ∨ i = 3 ∨ i = 4 ∨ i = 5 ∨ i = 6 ∨ i = 7 ∨ i = 8 ∨ i = 9 ∨ i = 10 ∨ i = 11 ∨ i = 12 := by omega
                clear hr1 hr2 hr3
                have hns := hS.open hL hi
                have hB := hS.a hns
                rcases hcs with rfl | rfl | rfl | rfl | rfl | rfl | rfl | rfl | rfl | rfl | rfl | rfl | rfl
                · refine wpOpT_of (fun K hK => ?_)
                  unfold wpOp
                  go_simp
                  refine Or.inl ?_
                  exact hK _ _ ⟨putT vv 0 (.pointer (some ⟨wr.heap.size, 3, none⟩)), (by simp [putT]), hS.step hL hi (by decide) (Below.refl _ _) (Lz.toIs F0)⟩
                · have e0 := Lz.ofIs (hS.f hns 0 (ready_dep hi 0 (by kernel_rfl))) F0
                  have r3 := (hB.cell (p := ⟨wr.heap.size, 3, none⟩) X6.lt).trans x3
                  refine wpOpT_of (fun K hK => ?_)
                  unfold wpOp
                  simp only [e0]
                  go_simp
                  refine Or.inl ?_
                  exact hK _ _ ⟨putT vv 1 (.int .i64 eb), (by simp [putT, e0]), hS.step hL hi (by decide) (Below.refl _ _) (Lz.toIs F1)⟩
                · refine wpOpT_of (fun K hK => ?_)
                  unfold wpOp
                  go_simp
                  refine Or.inl ?_
                  exact hK _ _ ⟨putT vv 2 (.pointer (some ⟨wr.heap.size, 3, none⟩)), (by simp [putT]), hS.step hL hi (by decide) (Below.refl _ _) (Lz.toIs F2)⟩
                · have e2 := Lz.ofIs (hS.f hns 2 (ready_dep hi 2 (by kernel_rfl))) F2
                  have r3 := (hB.cell (p := ⟨wr.heap.size, 3, none⟩) X6.lt).trans x3
                  refine wpOpT_of (fun K hK => ?_)
                  unfold wpOp
                  simp only [e2]
                  go_simp
                  refine Or.inl ?_
                  exact hK _ _ ⟨putT vv 3 (.int .i64 eb), (by simp [putT, e2]), hS.step hL hi (by decide) (Below.refl _ _) (Lz.toIs F3)⟩
                · have e3 := Lz.ofIs (hS.f hns 3 (ready_dep hi 3 (by kernel_rfl))) F3
                  refine wpOpT_of (fun K hK => ?_)
                  unfold wpOp
                  simp only [e3]
                  go_simp
                  refine Or.inl ?_
                  exact hK _ _ ⟨putT vv 4 (.pointer (some ⟨w.heap.size + 1 + 1, eb, none⟩)), (by simp [putT, e3]), hS.step hL hi (by decide) (Below.refl _ _) (Lz.toIs F4)⟩
                · have e4 := Lz.ofIs (hS.f hns 4 (ready_dep hi 4 (by kernel_rfl))) F4
                  have rt := (hB.cell (p := ⟨w.heap.size + 1 + 1, eb, none⟩) h6.lt).trans t1
                  refine wpOpT_of (fun K hK => ?_)
                  unfold wpOp
                  simp only [e4]
                  go_simp
                  refine Or.inl ?_
                  exact hK _ _ ⟨putT vv 5 (.bool false), (by simp [putT, e4]), hS.step hL hi (by decide) (Below.refl _ _) (Lz.toIs F5)⟩
                · have e5 := Lz.ofIs (hS.f hns 5 (ready_dep hi 5 (by kernel_rfl))) F5
                  refine wpOpT_of (fun K hK => ?_)
                  unfold wpOp
                  simp only [e5]
                  go_simp
                  refine Or.inl ?_
                  exact hK _ _ ⟨putT vv 6 (.bool false), (by simp [putT, e5]), hS.step hL hi (by decide) (Below.refl _ _) (Lz.toIs F6)⟩
                · have e6 := Lz.ofIs (hS.f hns 6 (ready_dep hi 6 (by kernel_rfl))) F6
                  refine wpOpT_of (fun K hK => ?_)
                  unfold wpOp
                  simp only [e6]
                  go_simp
                  refine Or.inl ?_
                  exact hK _ _ ⟨putT vv 7 (.pointer (some ⟨wr.heap.size, 5, none⟩)), (by simp [putT, e6]), hS.step hL hi (by decide) (Below.refl _ _) (Lz.toIs F7)⟩
                · have e6 := Lz.ofIs (hS.f hns 6 (ready_dep hi 6 (by kernel_rfl))) F6
                  have e7 := Lz.ofIs (hS.f hns 7 (ready_dep hi 7 (by kernel_rfl))) F7
                  have r5 := (hB.cell (p := ⟨wr.heap.size, 5, none⟩) X6.lt).trans x5
                  refine wpOpT_of (fun K hK => ?_)
                  unfold wpOp
                  simp only [e6, e7]
                  go_simp
                  refine Or.inl ?_
                  exact hK _ _ ⟨putT vv 8 (.bool hb), (by simp [putT, e6, e7]), hS.step hL hi (by decide) (Below.refl _ _) (Lz.toIs F8)⟩
                · have e6 := Lz.ofIs (hS.f hns 6 (ready_dep hi 6 (by kernel_rfl))) F6
                  have e8 := Lz.ofIs (hS.f hns 8 (ready_dep hi 8 (by kernel_rfl))) F8
                  refine wpOpT_of (fun K hK => ?_)
                  unfold wpOp
                  simp only [e6, e8]
                  go_simp
                  refine Or.inl ?_
                  exact hK _ _ ⟨putT vv 9 (.bool (!hb)), (by simp [putT, e6, e8]), hS.step hL hi (by decide) (Below.refl _ _) (Lz.toIs F9)⟩
                · have e6 := Lz.ofIs (hS.f hns 6 (ready_dep hi 6 (by kernel_rfl))) F6
                  have e9 := Lz.ofIs (hS.f hns 9 (ready_dep hi 9 (by kernel_rfl))) F9
                  refine wpOpT_of (fun K hK => ?_)
                  unfold wpOp
                  simp only [e6, e9]
                  go_simp
                  refine Or.inl ?_
                  exact hK _ _ ⟨putT vv 10 (.bool (!hb)), (by simp [putT, e6, e9]), hS.step hL hi (by decide) (Below.refl _ _) (Lz.toIs F10)⟩
                · have e1 := Lz.ofIs (hS.f hns 1 (ready_dep hi 1 (by kernel_rfl))) F1
                  refine wpOpT_of (fun K hK => ?_)
                  unfold wpOp
                  simp only [e1]
                  go_simp
                  refine Or.inl ?_
                  exact hK _ _ ⟨putT vv 11 (.pointer (some ⟨w.heap.size + 1 + 1, eb, none⟩)), (by simp [putT, e1]), hS.step hL hi (by decide) (Below.refl _ _) (Lz.toIs F11)⟩
                · have e10 := Lz.ofIs (hS.f hns 10 (ready_dep hi 10 (by kernel_rfl))) F10
                  have e11 := Lz.ofIs (hS.f hns 11 (ready_dep hi 11 (by kernel_rfl))) F11
                  have rt := (hB.cell (p := ⟨w.heap.size + 1 + 1, eb, none⟩) h6.lt).trans t1
                  have zt := (hB.frozen (p := ⟨w.heap.size + 1 + 1, eb, none⟩) h6.lt).trans z1
                  refine wpOpT_of (fun K hK => ?_)
                  unfold wpOp
                  simp only [e10, e11]
                  go_simp
                  refine Or.inl ?_
                  exact hK _ _ ⟨putT vv 12 undef, (by simp [putT, e10, e11]), hS.last hL hi (allY hD hi (by kernel_rfl)) (⟨(h6.below hB).put b2 _, (X6.below hB).far (by omega) _, (hB.mono (by omega : w.heap.size + 1 + 1 ≤ U2.heap.size)).setCell (p := ⟨w.heap.size + 1 + 1, eb, none⟩) (Nat.le_refl _) _, by simpa [World.setCell] using hB.size⟩)⟩
              · intro L vv wq hL hS hr
                have on := all_done hL hr (by kernel_rfl)
                obtain ⟨h7, _, b7, z7⟩ := hS.z (on 12 (by decide))
                try dsimp only
                generalize vv 0 = yy0 at *
                generalize vv 1 = yy1 at *
                generalize vv 2 = yy2 at *
                generalize vv 3 = yy3 at *
                generalize vv 4 = yy4 at *
                generalize vv 5 = yy5 at *
                generalize vv 6 = yy6 at *
                generalize vv 7 = yy7 at *
                generalize vv 8 = yy8 at *
                generalize vv 9 = yy9 at *
                generalize vv 10 = yy10 at *
                generalize vv 11 = yy11 at *
                clear hS on hr FL hL L vv F0 F1 F2 F3 F4 F5 F6 F7 F8 F9 F10 F11 F12 h6 X6 t1 z1 x0 x1 x2 x3 x4 x5 x6 x7 x8 b6
                have hbs7 := below_go hbs6 b7 hz6 z7
                have hz7 := Nat.le_trans hz6 z7
                replace h7 := h7.congr (g := tnB (ms.take (j + 1))) (fun q hq => tn_step HF.out HQ.out e1 e2 (by rfl) (by simp) q)
                clear HF HQ e1 e2
                generalize wq = U3 at *
                go_wp2
                go_roundg (N - (j + 1))
                case measure => rw [HG.out]; omega
                case rel => exact ⟨j + 1, by omega, rfl, by go_num, h7, hbs7, hz7⟩
            · obtain ⟨FL, hFL⟩ : ∃ f : Nat → Lz, f = (fun j => match j with | 0 => .is (.pointer (some ⟨wr.heap.size, 3, none⟩)) | 1 => .is (.int .i64 eb) | 2 => .is (.pointer (some ⟨wr.heap.size, 3, none⟩)) | 3 => .is (.int .i64 eb) | 4 => .is (.pointer (some ⟨w.heap.size + 1 + 1, eb, none⟩)) | 5 => .is (.bool true) | 6 => .is (.bool true) | 7 => .tr | 8 => .tr | 9 => .tr | 10 => .is (.bool true) | 11 => .is (.pointer (some ⟨w.heap.size + 1 + 1, eb, none⟩)) | 12 => .tr | _ => .tr) := ⟨_, rfl⟩
              have F0 := congrFun hFL 0
              have F1 := congrFun hFL 1
              have F2 := congrFun hFL 2
              have F3 := congrFun hFL 3
              have F4 := congrFun hFL 4
              have F5 := congrFun hFL 5
              have F6 := congrFun hFL 6
              have F7 := congrFun hFL 7
              have F8 := congrFun hFL 8
              have F9 := congrFun hFL 9
              have F10 := congrFun hFL 10
              have F11 := congrFun hFL 11
              have F12 := congrFun hFL 12
              simp only at F0 F1 F2 F3 F4 F5 F6 F7 F8 F9 F10 F11 F12
              clear hFL
              refine region_rgY (by kernel_rfl) (fun vv => ⟨#[Value.agg #[Value.slice ao A ac, Value.slice (some { block := b, off := off }) N mc], Value.pointer (some { block := w.heap.size, off := 0 }), Value.pointer (some { block := w.heap.size + 1, off := 0 }), Value.pointer (some { block := w.heap.size + 1 + 1, off := 0 }), undef, Value.pointer (some { block := wr.heap.size, off := 0 }), Value.pointer (some { block := w.heap.size, off := 1 }), Value.slice (some { block := b, off := off }) N mc, Value.int IntKind.i64 ↑N, Value.int IntKind.i64 ↑j, Value.bool true, Value.pointer (some { block := b, off := off + j * 9 }), .agg #[.string s, .int .u8 2, .int .i64 ea, .int .i64 eb, .bool ha, .bool hb, .float .f64 xe, .float .f64 xr, .float .f64 xi], Value.pointer (some { block := wr.heap.size, off := 1 }), Value.int IntKind.u8 2, Value.bool true, y0, y1, y2, y3, y4, y5, y6, y7, y8, y9, y10, y11, vv 0, vv 1, vv 2, vv 3, vv 4, vv 5, vv 6, vv 7, vv 8, vv 9, vv 10, vv 11, u40, undef], []⟩) 12 FL (fun wz _ => T16 wz (w.heap.size + 1 + 1) (fun i => if i = eb then true else f2 i) ∧ MBox wz wr.heap.size ⟨s, 2, ea, eb, ha, hb, xe, xr, xi⟩ ∧ Below (w.heap.size + 1 + 1) U2 wz ∧ U2.heap.size ≤ wz.heap.size) (fun j => match j with | 0 => u28 | 1 => u29 | 2 => u30 | 3 => u31 | 4 => u32 | 5 => u33 | 6 => u34 | 7 => u35 | 8 => u36 | 9 => u37 | 10 => u38 | 11 => u39 | _ => undef) rfl ?_ ?_
              · intro L vv wq i hL hS hD hi
                obtain ⟨hr1, hr2, hr3⟩ := mem_ready hi
                have hr1 : i < 13 := hr1
                try dsimp only
                have hcs : i = 0 ∨ i = 1 ∨ i = 2 ∨ i = 3 ∨ i = 4 ∨ i = 5 ∨ i = 6 ∨ i = 7 ∨ i = 8 ∨ i = 9 ∨ i = 10 ∨ i = 11 ∨ i = 12 := by omega
                clear hr1 hr2 hr3
                have hns := hS.open hL hi
                have hB := hS.a hns
                rcases hcs with rfl | rfl | rfl | rfl | rfl | rfl | rfl | rfl | rfl | rfl | rfl | rfl | rfl
                · refine wpOpT_of (fun K hK => ?_)
                  unfold wpOp
                  go_simp
                  refine Or.inl ?_
                  exact hK _ _ ⟨putT vv 0 (.pointer (some ⟨wr.heap.size, 3, none⟩)), (by simp [putT]), hS.step hL hi (by decide) (Below.refl _ _) (Lz.toIs F0)⟩
                · have e0 := Lz.ofIs (hS.f hns 0 (ready_dep hi 0 (by kernel_rfl))) F0
                  have r3 := (hB.cell (p := ⟨wr.heap.size, 3, none⟩) X6.lt).trans x3
                  refine wpOpT_of (fun K hK => ?_)
                  unfold wpOp
                  simp only [e0]
                  go_simp
                  refine Or.inl ?_
                  exact hK _ _ ⟨putT vv 1 (.int .i64 eb), (by simp [putT, e0]), hS.step hL hi (by decide) (Below.refl _ _) (Lz.toIs F1)⟩
                · refine wpOpT_of (fun K hK => ?_)
                  unfold wpOp
                  go_simp
                  refine Or.inl ?_
                  exact hK _ _ ⟨putT vv 2 (.pointer (some ⟨wr.heap.size, 3, none⟩)), (by simp [putT]), hS.step hL hi (by decide) (Below.refl _ _) (Lz.toIs F2)⟩
                · have e2 := Lz.ofIs (hS.f hns 2 (ready_dep hi 2 (by kernel_rfl))) F2
                  have r3 := (hB.cell (p := ⟨wr.heap.size, 3, none⟩) X6.lt).trans x3
                  refine wpOpT_of (fun K hK => ?_)
                  unfold wpOp
                  simp only [e2]
                  go_simp
                  refine Or.inl ?_
                  exact hK _ _ ⟨putT vv 3 (.int .i64 eb), (by simp [putT, e2]), hS.step hL hi (by decide) (Below.refl _ _) (Lz.toIs F3)⟩
                · have e3 := Lz.ofIs (hS.f hns 3 (ready_dep hi 3 (by kernel_rfl))) F3
                  refine wpOpT_of (fun K hK => ?_)
                  unfold wpOp
                  simp only [e3]
                  go_simp
                  refine Or.inl ?_
                  exact hK _ _ ⟨putT vv 4 (.pointer (some ⟨w.heap.size + 1 + 1, eb, none⟩)), (by simp [putT, e3]), hS.step hL hi (by decide) (Below.refl _ _) (Lz.toIs F4)⟩
                · have e4 := Lz.ofIs (hS.f hns 4 (ready_dep hi 4 (by kernel_rfl))) F4
                  have rt := (hB.cell (p := ⟨w.heap.size + 1 + 1, eb, none⟩) h6.lt).trans t1
                  refine wpOpT_of (fun K hK => ?_)
                  unfold wpOp
                  simp only [e4]
                  go_simp
                  refine Or.inl ?_
                  exact hK _ _ ⟨putT vv 5 (.bool true), (by simp [putT, e4]), hS.step hL hi (by decide) (Below.refl _ _) (Lz.toIs F5)⟩
                · have e5 := Lz.ofIs (hS.f hns 5 (ready_dep hi 5 (by kernel_rfl))) F5
                  refine wpOpT_of (fun K hK => ?_)
                  unfold wpOp
                  simp only [e5]
                  go_simp
                  refine Or.inl ?_
                  exact hK _ _ ⟨putT vv 6 (.bool true), (by simp [putT, e5]), hS.step hL hi (by decide) (Below.refl _ _) (Lz.toIs F6)⟩
                · have e6 := Lz.ofIs (hS.f hns 6 (ready_dep hi 6 (by kernel_rfl))) F6
                  refine wpOpT_of (fun K hK => ?_)
                  unfold wpOp
                  simp only [e6]
                  go_simp
                  exact hK _ _ ⟨putT vv 7 undef, (by simp [putT, e6]), hS.step hL hi (by decide) (Below.refl _ _) (Lz.toTr F7)⟩
                · have e6 := Lz.ofIs (hS.f hns 6 (ready_dep hi 6 (by kernel_rfl))) F6
                  refine wpOpT_of (fun K hK => ?_)
                  unfold wpOp
                  simp only [e6]
                  go_simp
                  exact hK _ _ ⟨putT vv 8 undef, (by simp [putT, e6]), hS.step hL hi (by decide) (Below.refl _ _) (Lz.toTr F8)⟩
                · have e6 := Lz.ofIs (hS.f hns 6 (ready_dep hi 6 (by kernel_rfl))) F6
                  refine wpOpT_of (fun K hK => ?_)
                  unfold wpOp
                  simp only [e6]
                  go_simp
                  exact hK _ _ ⟨putT vv 9 undef, (by simp [putT, e6]), hS.step hL hi (by decide) (Below.refl _ _) (Lz.toTr F9)⟩
                · have e6 := Lz.ofIs (hS.f hns 6 (ready_dep hi 6 (by kernel_rfl))) F6
                  refine wpOpT_of (fun K hK => ?_)
                  unfold wpOp
                  simp only [e6]
                  go_simp
                  refine Or.inl ?_
                  exact hK _ _ ⟨putT vv 10 (.bool true), (by simp [putT, e6]), hS.step hL hi (by decide) (Below.refl _ _) (Lz.toIs F10)⟩
                · have e1 := Lz.ofIs (hS.f hns 1 (ready_dep hi 1 (by kernel_rfl))) F1
                  refine wpOpT_of (fun K hK => ?_)
                  unfold wpOp
                  simp only [e1]
                  go_simp
                  refine Or.inl ?_
                  exact hK _ _ ⟨putT vv 11 (.pointer (some ⟨w.heap.size + 1 + 1, eb, none⟩)), (by simp [putT, e1]), hS.step hL hi (by decide) (Below.refl _ _) (Lz.toIs F11)⟩
                · have e10 := Lz.ofIs (hS.f hns 10 (ready_dep hi 10 (by kernel_rfl))) F10
                  have e11 := Lz.ofIs (hS.f hns 11 (ready_dep hi 11 (by kernel_rfl))) F11
                  have rt := (hB.cell (p := ⟨w.heap.size + 1 + 1, eb, none⟩) h6.lt).trans t1
                  have zt := (hB.frozen (p := ⟨w.heap.size + 1 + 1, eb, none⟩) h6.lt).trans z1
                  refine wpOpT_of (fun K hK => ?_)
                  unfold wpOp
                  simp only [e10, e11]
                  go_simp
                  refine Or.inl ?_
                  exact hK _ _ ⟨putT vv 12 undef, (by simp [putT, e10, e11]), hS.last hL hi (allY hD hi (by kernel_rfl)) (⟨(h6.below hB).put b2 _, (X6.below hB).far (by omega) _, (hB.mono (by omega : w.heap.size + 1 + 1 ≤ U2.heap.size)).setCell (p := ⟨w.heap.size + 1 + 1, eb, none⟩) (Nat.le_refl _) _, by simpa [World.setCell] using hB.size⟩)⟩
              · intro L vv wq hL hS hr
                have on := all_done hL hr (by kernel_rfl)
                obtain ⟨h7, _, b7, z7⟩ := hS.z (on 12 (by decide))
                try dsimp only
                generalize vv 0 = yy0 at *
                generalize vv 1 = yy1 at *
                generalize vv 2 = yy2 at *
                generalize vv 3 = yy3 at *
                generalize vv 4 = yy4 at *
                generalize vv 5 = yy5 at *
                generalize vv 6 = yy6 at *
                generalize vv 7 = yy7 at *
                generalize vv 8 = yy8 at *
                generalize vv 9 = yy9 at *
                generalize vv 10 = yy10 at *
                generalize vv 11 = yy11 at *
                clear hS on hr FL hL L vv F0 F1 F2 F3 F4 F5 F6 F7 F8 F9 F10 F11 F12 h6 X6 t1 z1 x0 x1 x2 x3 x4 x5 x6 x7 x8 b6
                have hbs7 := below_go hbs6 b7 hz6 z7
                have hz7 := Nat.le_trans hz6 z7
                replace h7 := h7.congr (g := tnB (ms.take (j + 1))) (fun q hq => tn_step HF.out HQ.out e1 e2 (by rfl) (by rfl) q)
                clear HF HQ e1 e2
                generalize wq = U3 at *
                go_wp2
                go_roundg (N - (j + 1))
                case measure => rw [HG.out]; omega
                case rel => exact ⟨j + 1, by omega, rfl, by go_num, h7, hbs7, hz7⟩
    · have e : j = ms.length := by have := HN.out; omega
      have i1 : ¬ (j : Int) < (N : Int) := by omega
      have hr := RB.belowB (by omega : w.heap.size + 1 < w.heap.size + 1 + 1) hbr
      rw [e, List.take_length] at hT
      have hbx := hb1.trans (hbr.mono (by omega : w.heap.size ≤ w.heap.size + 1 + 1))
      clear e HG he HN
      obtain ⟨f, hf⟩ : ∃ f, tnB ms = f := ⟨_, rfl⟩
      have HF : Hid (tnB ms = f) := hf
      rw [hf] at hT
      clear hf
      have c0 := hT.c 0 (by decide)
      have c1 := hT.c 1 (by decide)
      have c2 := hT.c 2 (by decide)
      have c3 := hT.c 3 (by decide)
      have c4 := hT.c 4 (by decide)
      have c5 := hT.c 5 (by decide)
      have c6 := hT.c 6 (by decide)
      have c7 := hT.c 7 (by decide)
      have c8 := hT.c 8 (by decide)
      have c9 := hT.c 9 (by decide)
      have c10 := hT.c 10 (by decide)
      have c11 := hT.c 11 (by decide)
      have c12 := hT.c 12 (by decide)
      have c13 := hT.c 13 (by decide)
      have c14 := hT.c 14 (by decide)
      have c15 := hT.c 15 (by decide)
      have z0 := hr.z 0 (by decide)
      have d0 := hr.c 0 (by decide)
      have z1 := hr.z 1 (by decide)
      have d1 := hr.c 1 (by decide)
      have z2 := hr.z 2 (by decide)
      have d2 := hr.c 2 (by decide)
      have z3 := hr.z 3 (by decide)
      have d3 := hr.c 3 (by decide)
      have z4 := hr.z 4 (by decide)
      have d4 := hr.c 4 (by decide)
      have z5 := hr.z 5 (by decide)
      have d5 := hr.c 5 (by decide)
      have z6 := hr.z 6 (by decide)
      have d6 := hr.c 6 (by decide)
      have z7 := hr.z 7 (by decide)
      have d7 := hr.c 7 (by decide)
      have z8 := hr.z 8 (by decide)
      have d8 := hr.c 8 (by decide)
      have z9 := hr.z 9 (by decide)
      have d9 := hr.c 9 (by decide)
      have z10 := hr.z 10 (by decide)
      have d10 := hr.c 10 (by decide)
      have z11 := hr.z 11 (by decide)
      have d11 := hr.c 11 (by decide)
      have z12 := hr.z 12 (by decide)
      have d12 := hr.c 12 (by decide)
      have z13 := hr.z 13 (by decide)
      have d13 := hr.c 13 (by decide)
      have z14 := hr.z 14 (by decide)
      have d14 := hr.c 14 (by decide)
      have z15 := hr.z 15 (by decide)
      have d15 := hr.c 15 (by decide)
      have hlt := hr.lt
      go_wp2
      refine bodyPost_ret (v := b16 f) ?_ rfl ⟨by rw [HF.out], ?_⟩
      · simp [results, Tryz.results37, go_sem, b16, d0, d1, d2, d3, d4, d5, d6, d7, d8, d9, d10, d11, d12, d13, d14, d15]
      · have hle : w.heap.size ≤ w.heap.size + 1 := by omega
        exact (Below.setCell (Below.setCell (Below.setCell (Below.setCell (Below.setCell (Below.setCell (Below.setCell (Below.setCell (Below.setCell (Below.setCell (Below.setCell (Below.setCell (Below.setCell (Below.setCell (Below.setCell (Below.setCell hbx (p := ⟨w.heap.size + 1, 0, none⟩) hle _) (p := ⟨w.heap.size + 1, 1, none⟩) hle _) (p := ⟨w.heap.size + 1, 2, none⟩) hle _) (p := ⟨w.heap.size + 1, 3, none⟩) hle _) (p := ⟨w.heap.size + 1, 4, none⟩) hle _) (p := ⟨w.heap.size + 1, 5, none⟩) hle _) (p := ⟨w.heap.size + 1, 6, none⟩) hle _) (p := ⟨w.heap.size + 1, 7, none⟩) hle _) (p := ⟨w.heap.size + 1, 8, none⟩) hle _) (p := ⟨w.heap.size + 1, 9, none⟩) hle _) (p := ⟨w.heap.size + 1, 10, none⟩) hle _) (p := ⟨w.heap.size + 1, 11, none⟩) hle _) (p := ⟨w.heap.size + 1, 12, none⟩) hle _) (p := ⟨w.heap.size + 1, 13, none⟩) hle _) (p := ⟨w.heap.size + 1, 14, none⟩) hle _) (p := ⟨w.heap.size + 1, 15, none⟩) hle _)
end Go.Proofs.YtomohmjjaijlbaaGreatDoor

namespace Go.Proofs.YtomohmjjaijlbaaGreatDoor
open Go.RowKit

/-- Ints in a block. -/
structure IR (w : World) (g M : Nat) (c : Nat → Int) : Prop where
  c : ∀ q, q < M → w.cell? ⟨g, q, none⟩ = some (.int .i64 (c q))
  z : ∀ q, q < M → w.frozen? ⟨g, q, none⟩ = false
  lt : g < w.heap.size
theorem IR.below {w w' : World} {g M : Nat} {c : Nat → Int} (h : IR w g M c) (hb : Below w.heap.size w w') : IR w' g M c :=
  ⟨fun q hq => (hb.cell (p := ⟨g, q, none⟩) h.lt).trans (h.c q hq), fun q hq => (hb.frozen (p := ⟨g, q, none⟩) h.lt).trans (h.z q hq), Nat.lt_of_lt_of_le h.lt hb.size⟩
theorem IR.put {w : World} {g M a : Nat} {c : Nat → Int} (h : IR w g M c) (ha : a < M) (v : Int) : IR (w.setCell ⟨g, a, none⟩ (.int .i64 v)) g M (fun i => if i = a then v else c i) := by
  have hc := h.c a ha
  have hz := h.z a ha
  refine ⟨fun q hq => ?_, fun q hq => ?_, by simpa [World.setCell] using h.lt⟩
  · by_cases e : q = a
    · subst e
      rw [if_pos rfl]
      go_simp
    · rw [if_neg e]
      have := h.c q hq
      simp [go_sem, this]
  · have := h.z q hq
    simp [go_sem, this]
theorem IR.far {w : World} {g g' M i : Nat} {c : Nat → Int} (h : IR w g M c) (hn : g ≠ g') (v : Value) : IR (w.setCell ⟨g', i, none⟩ v) g M c := by
  refine ⟨fun q hq => ?_, fun q hq => ?_, by simpa [World.setCell] using h.lt⟩
  · have := h.c q hq
    simp [go_sem, this]
  · have := h.z q hq
    simp [go_sem, this]
theorem T16.far {w : World} {b g i : Nat} {f : Nat → Bool} (h : T16 w b f) (hn : b ≠ g) (v : Value) : T16 (w.setCell ⟨g, i, none⟩ v) b f := by
  refine ⟨fun q hq => ?_, fun q hq => ?_, by simpa [World.setCell] using h.lt⟩
  · have := h.c q hq
    simp [go_sem, this]
  · have := h.z q hq
    simp [go_sem, this]
abbrev b16O (f : Nat → Bool) (t : TypeId) : Obj := .cells #[.bool (f 0), .bool (f 1), .bool (f 2), .bool (f 3), .bool (f 4), .bool (f 5), .bool (f 6), .bool (f 7), .bool (f 8), .bool (f 9), .bool (f 10), .bool (f 11), .bool (f 12), .bool (f 13), .bool (f 14), .bool (f 15)] t
theorem T16.of (w : World) (f : Nat → Bool) (t : TypeId) : T16 (w.alloc (b16O f t)) w.heap.size f := by
  refine ⟨fun q hq => ?_, fun q hq => by go_simp, by simp⟩
  rcases (show q = 0 ∨ q = 1 ∨ q = 2 ∨ q = 3 ∨ q = 4 ∨ q = 5 ∨ q = 6 ∨ q = 7 ∨ q = 8 ∨ q = 9 ∨ q = 10 ∨ q = 11 ∨ q = 12 ∨ q = 13 ∨ q = 14 ∨ q = 15 by omega) with rfl | rfl | rfl | rfl | rfl | rfl | rfl | rfl | rfl | rfl | rfl | rfl | rfl | rfl | rfl | rfl <;> simp [go_sem]
/-- The three of a joint, one by one. -/
def bq3 (b : Bool × Bool × Bool) : Nat → Bool
  | 0 => b.1
  | 1 => b.2.1
  | _ => b.2.2
def cn3 (n : Int) (b : Bool × Bool × Bool) : Nat → Int
  | 0 => n
  | k + 1 => cn3 n b k + (if bq3 b k then 1 else 0)
def vl3 (n : Int) (b : Bool × Bool × Bool) (k : Nat) : Int := if bq3 b k then cn3 n b k else -1
theorem plN_is (n : Int) (b : Bool × Bool × Bool) : plN n b = ((vl3 n b 0, vl3 n b 1, vl3 n b 2), cn3 n b 3) := by
  obtain ⟨x, y, z⟩ := b
  cases x <;> cases y <;> cases z <;> simp [plN, vl3, cn3, bq3]
theorem cn3_le (n : Int) (b : Bool × Bool × Bool) (k : Nat) : n ≤ cn3 n b k ∧ cn3 n b k ≤ n + k := by
  induction k with
  | zero => simp [cn3]
  | succ m ih => unfold cn3; split <;> omega
/-- The first i joints' places stand in the block. -/
def Pl3 (c : Nat → Int) (ps : List (Int × Int × Int)) : Prop := ∀ j, j < ps.length → c (j * 3) = (ps.getD j (0, 0, 0)).1 ∧ c (j * 3 + 1) = (ps.getD j (0, 0, 0)).2.1 ∧ c (j * 3 + 2) = (ps.getD j (0, 0, 0)).2.2
theorem Pl3.put {c : Nat → Int} {ps : List (Int × Int × Int)} (h : Pl3 c ps) {a : Nat} (ha : ps.length * 3 ≤ a) (v : Int) : Pl3 (fun i => if i = a then v else c i) ps := fun j hj => by
  obtain ⟨h0, h1, h2⟩ := h j hj
  refine ⟨?_, ?_, ?_⟩
  · show (if _ then _ else _) = _; rw [if_neg (by omega)]; exact h0
  · show (if _ then _ else _) = _; rw [if_neg (by omega)]; exact h1
  · show (if _ then _ else _) = _; rw [if_neg (by omega)]; exact h2
theorem Pl3.snoc {c : Nat → Int} {ps : List (Int × Int × Int)} (h : Pl3 c ps) {p : Int × Int × Int} (h0 : c (ps.length * 3) = p.1) (h1 : c (ps.length * 3 + 1) = p.2.1) (h2 : c (ps.length * 3 + 2) = p.2.2) : Pl3 c (ps ++ [p]) := fun j hj => by
  rw [List.length_append, List.length_singleton] at hj
  by_cases e : j = ps.length
  · subst e
    simp only [List.getD_eq_getElem?_getD, List.getElem?_append_right (Nat.le_refl _), Nat.sub_self]
    exact ⟨h0, h1, h2⟩
  · have hj2 : j < ps.length := by omega
    simp only [List.getD_eq_getElem?_getD, List.getElem?_append_left hj2]
    exact h j hj2
theorem below_two18 {B g : Nat} {w w' : World} (h : Below B w w') (hg : B ≤ g) (x y : Value) : Below B w ((w'.setCell ⟨g, 0, none⟩ x).setCell ⟨g, 1, none⟩ y) :=
  (h.setCell (p := ⟨g, 0, none⟩) hg _).setCell (p := ⟨g, 1, none⟩) hg _
theorem below_thr3 {B g : Nat} {w w' : World} (h : Below B w w') (hg : B ≤ g) (x y z : Value) : Below B w (((w'.setCell ⟨g, 0, none⟩ x).setCell ⟨g, 1, none⟩ y).setCell ⟨g, 2, none⟩ z) :=
  ((h.setCell (p := ⟨g, 0, none⟩) hg _).setCell (p := ⟨g, 1, none⟩) hg _).setCell (p := ⟨g, 2, none⟩) hg _
theorem hc_keep {c F : Nat → Int} {i k a : Nat} (h : ∀ r, r < k → c (i * 3 + r) = F r) (ha : a = i * 3 + k) (v : Int) : ∀ r, r < k → (fun q => if q = a then v else c q) (i * 3 + r) = F r := fun r hr => by
  show (if _ then _ else _) = _
  rw [if_neg (by omega)]
  exact h r hr
theorem hc_put {c F : Nat → Int} {i k a : Nat} (h : ∀ r, r < k → c (i * 3 + r) = F r) (ha : a = i * 3 + k) {v : Int} (hv : v = F k) : ∀ r, r < k + 1 → (fun q => if q = a then v else c q) (i * 3 + r) = F r := fun r hr => by
  show (if _ then _ else _) = _
  by_cases e : r = k
  · subst e
    rw [if_pos ha.symm, hv]
  · rw [if_neg (by omega)]
    exact h r (by omega)
theorem p3_ir {w : World} {g M : Nat} {c : Nat → Int} {ps : List (Int × Int × Int)} (h : IR w g M c) (p : Pl3 c ps) (hm : ps.length * 3 ≤ M) : P3Row w (some ⟨g, 0, none⟩) ps := by
  refine Or.inr ⟨g, 0, rfl, fun k hk => ?_⟩
  obtain ⟨a, b, d⟩ := p k hk
  rw [Nat.zero_add]
  exact ⟨by rw [h.c _ (by omega), a], by rw [h.c _ (by omega), b], by rw [h.c _ (by omega), d]⟩
theorem make3 (A : Nat) (hA : A ≤ 16) : ∃ cs : Array Value, (∀ q, q < A * 3 → cs[q]? = some (.int .i64 0)) ∧ ∀ w, (Instr.makeSlice 30 (.int .i64 A) (.int .i64 A)).run Tryz.prog w = .ok (.slice (some ⟨w.heap.size, 0, none⟩) A A) (w.alloc (.cells cs 51)) := by
  obtain ⟨i, hi, hz0, hz1, hz2⟩ := info_span Tryz.info3
  refine ⟨madeCells #[.int .i64 0, .int .i64 0, .int .i64 0] (A * 3), fun q hq => ?_, fun w => ?_⟩
  · have h3 : q % 3 = 0 ∨ q % 3 = 1 ∨ q % 3 = 2 := by omega
    rcases h3 with h | h | h <;> simp [madeCells, hq, h]
  · have h := run_make (P := Tryz.prog) w 30 51 i _ Tryz.underlying30 hi hz0 .i64 .i64 (A : Int) (A : Int) (by omega) (Int.le_refl _) (by rw [hz2]; omega) (by omega)
    rw [hz1, show (Value.agg #[.int .i64 0, .int .i64 0, .int .i64 0]).cells = #[.int .i64 0, .int .i64 0, .int .i64 0] from rfl] at h
    simpa using h
theorem IR.made (w : World) (cs : Array Value) (M : Nat) (t : TypeId) (h : ∀ q, q < M → cs[q]? = some (.int .i64 0)) : IR (w.alloc (.cells cs t)) w.heap.size M (fun _ => 0) :=
  ⟨fun q hq => by have := h q hq; simp [go_sem, this], fun q hq => by simp [go_sem], by simp⟩
theorem and_parts : ∀ g : Fin 256, bits .and .u8 ((g.val : Nat) : Int) 1 = ((g.val % 2 : Nat) : Int) ∧ bits .and .u8 ((g.val : Nat) : Int) 2 = ((g.val / 2 % 2 * 2 : Nat) : Int) ∧ bits .and .u8 ((g.val : Nat) : Int) 4 = ((g.val / 4 % 2 * 4 : Nat) : Int) := of_decide_eq_true (by kernel_rfl)
theorem fre_and {f : Nat} (hf : f < 256) (t : Bool) : ∃ (m1 m2 m4 : Int) (b0 b1 b4 : Bool), bits .and .u8 (f : Int) 1 = m1 ∧ bits .and .u8 (f : Int) 2 = m2 ∧ bits .and .u8 (f : Int) 4 = m4 ∧ (m1 == 0) = b0 ∧ (m2 == 0) = b1 ∧ (m4 == 0) = b4 ∧ freB f t = (b0, b1, b4 && t) := by
  obtain ⟨h1, h2, h4⟩ := and_parts ⟨f, hf⟩
  simp only at h1 h2 h4
  refine ⟨_, _, _, _, _, _, rfl, rfl, rfl, rfl, rfl, rfl, ?_⟩
  rw [h1, h2, h4]
  unfold freB
  congr 1
  · rw [Bool.eq_iff_iff]; simp; omega
  · congr 1
    · rw [Bool.eq_iff_iff]; simp; omega
    · congr 1
      rw [Bool.eq_iff_iff]; simp; omega
set_option maxRecDepth 100000 in
set_option maxHeartbeats 16000000 in
theorem unknowns_any (js : List Jn) (ms : List Mb) (ao mo : Option Addr) (ac mc : Nat) (w : World) (hr : JRow w ao js) (hw : JWs js) (hn : js.length ≤ 16) (mr : MRow w mo ms) (mn : ms.length ≤ 1125899906842624) (he : En16 ms) :
    Calls Tryz.prog 18 #[.agg #[.slice ao js.length ac, .slice mo ms.length mc]] w (fun e w' => ∃ g, e = .returned (.agg #[.slice (some ⟨g, 0, none⟩) js.length js.length, .int .i64 (plK js ms js.length).2]) ∧ P3Row w' (some ⟨g, 0, none⟩) (plK js ms js.length).1 ∧ Below w.heap.size w w') := by
  have ct := fun w' (h : Below w.heap.size w w') => turning_any ms js.length ao mo ac mc w' (mr.below h) mn he
  obtain ⟨N, hN⟩ : ∃ N, ms.length = N := ⟨_, rfl⟩
  obtain ⟨A, hA⟩ : ∃ A, js.length = A := ⟨_, rfl⟩
  have HA : Hid (js.length = A) := hA
  rw [hN] at ct ⊢
  rw [hA] at ct hn ⊢
  obtain ⟨tf, htf⟩ : ∃ f, tnB ms = f := ⟨_, rfl⟩
  have HTF : Hid (tnB ms = tf) := htf
  rw [htf] at ct
  unfold b16 at ct
  clear hN hA htf mr mn he
  have X0 := (PBox.new w (.slice ao A ac) (.slice mo N mc) 25).alloc (.cells #[.slice none 0 0, .int .i64 0] 32)
  have X1 := PBox.new (w.alloc (.cells #[.slice ao A ac, .slice mo N mc] 25)) (.slice none 0 0) (.int .i64 0) 32
  have hs1 : (w.alloc (.cells #[.slice ao A ac, .slice mo N mc] 25)).heap.size = w.heap.size + 1 := by simp
  rw [hs1] at X1
  have hb0 : Below w.heap.size w ((w.alloc (.cells #[.slice ao A ac, .slice mo N mc] 25)).alloc (.cells #[.slice none 0 0, .int .i64 0] 32)) := ((Below.refl _ _).alloc (Nat.le_refl _) _).alloc (by rw [hs1]; omega) _
  clear hs1
  go_enter Tryz.func18, Tryz.ntmps18
  go_upto_region 1 with fail
  generalize (w.alloc (.cells #[.slice ao A ac, .slice mo N mc] 25)).alloc (.cells #[.slice none 0 0, .int .i64 0] 32) = U0 at *
  obtain ⟨x0, x1, f0, f1, x4⟩ := id X0
  go_upto_region 2 with (go_at_call 37; refine (ct _ hb0).mono ?_; rintro e w1 ⟨rfl, b1⟩)
  have TB := T16.of w1 tf 77
  have st : Below w1.heap.size w1 (w1.alloc (b16O tf 77)) := (Below.refl _ _).alloc (Nat.le_refl _) _
  have b2 := b1.trans (st.mono b1.size)
  replace X0 := X0.below b2
  have l0 : w.heap.size + 1 < w1.heap.size := Nat.lt_of_lt_of_le X1.lt b1.size
  replace X1 := X1.below b2
  have hb2 := hb0.trans (b2.mono hb0.size)
  have l1 : w.heap.size + 1 < w1.heap.size := l0
  clear x0 x1 f0 f1 x4 ct hb0 b1 b2 st
  generalize w1.alloc (b16O tf 77) = U1 at *
  generalize w1.heap.size = tb at *
  obtain ⟨x0, x1, _, _, _⟩ := id X0
  obtain ⟨cs, hcs, hmk⟩ := make3 A hn
  go_upto_region 3 with fail
  have hI := (IR.made U1 cs (A * 3) 51 hcs).below ((Below.refl _ _).alloc (Nat.le_refl _) (.cells #[.slice (some ⟨U1.heap.size, 0, none⟩) A A, .int .i64 0] 32))
  have hP := PBox.new (U1.alloc (.cells cs 51)) (.slice (some ⟨U1.heap.size, 0, none⟩) A A) (.int .i64 0) 32
  have hs1 : (U1.alloc (.cells cs 51)).heap.size = U1.heap.size + 1 := by simp
  rw [hs1] at hP
  have st : Below U1.heap.size U1 ((U1.alloc (.cells cs 51)).alloc (.cells #[.slice (some ⟨U1.heap.size, 0, none⟩) A A, .int .i64 0] 32)) := ((Below.refl _ _).alloc (Nat.le_refl _) _).alloc (by rw [hs1]; omega) _
  have hz : U1.heap.size + 2 ≤ ((U1.alloc (.cells cs 51)).alloc (.cells #[.slice (some ⟨U1.heap.size, 0, none⟩) A A, .int .i64 0] 32)).heap.size := by simp
  have l2 := TB.lt
  replace X0 := X0.below st
  replace X1 := X1.below st
  replace TB := TB.below st
  have hb3 := hb2.trans (st.mono hb2.size)
  clear hs1 x0 x1 hmk hcs st
  generalize (U1.alloc (.cells cs 51)).alloc (.cells #[.slice (some ⟨U1.heap.size, 0, none⟩) A A, .int .i64 0] 32) = V0 at *
  clear cs
  have HR : ∀ W, Below w.heap.size w W → JRow W ao js := fun W h => hr.below h
  obtain ⟨x0, x1, _, _, _⟩ := id X0
  generalize U1.heap.size = gb at *
  clear hr hb2
  go_upto_region 4 with fail
  go_loopg [20] A (fun gh v wr => ∃ (i : Nat) (c : Nat → Int), i ≤ A ∧ gh = A - i ∧ v = .int .i64 i ∧ IR wr gb (A * 3) c ∧ Pl3 c (plK js ms i).1 ∧ PBox wr (gb + 1) (.slice (some ⟨gb, 0, none⟩) A A) (.int .i64 (plK js ms i).2) ∧ Below gb V0 wr ∧ V0.heap.size ≤ wr.heap.size)
  case atStart => exact ⟨0, _, by omega, rfl, rfl, hI, (fun j hj => absurd hj (by simp [plK])), hP, Below.refl _ _, Nat.le_refl _⟩
  case round =>
    obtain ⟨i, c, hi, hg, rfl, I0, P0, B0, hbr, hz2⟩ := hrel
    have HG : Hid (gk = A - i) := hg
    clear hg hI hP
    have hbx := hb3.trans (hbr.mono (by omega : w.heap.size ≤ gb))
    by_cases hlt : i < A
    · rcases HR _ hbx with h | ⟨b, off, rfl, hc⟩
      · exact absurd (HA.out ▸ h) (by omega)
      · obtain ⟨g0, g1, g2, g3⟩ := hc i (by rw [HA.out]; exact hlt)
        have hjw := hw.at (k := i) (by rw [HA.out]; exact hlt)
        have TR := TB.belowB l2 hbr
        have HPN : Hid (plK js ms (i + 1) = ((plK js ms i).1 ++ [(plN (plK js ms i).2 (freB (js.getD i jz).2.2.2 (tnB ms i))).1], (plN (plK js ms i).2 (freB (js.getD i jz).2.2.2 (tnB ms i))).2)) := (show _ = _ by rw [plK])
        rw [HTF.out] at HPN
        obtain ⟨⟨s, jx, jy, f⟩, ej⟩ : ∃ j, js.getD i jz = j := ⟨_, rfl⟩
        rw [ej] at g0 g1 g2 g3 hjw HPN
        simp only at g0 g1 g2 g3 HPN
        have hbl : b < wr.heap.size := World.block_lt_of_cell? _ _ g3
        have i1 : (i : Int) < (A : Int) := by omega
        have n1 : b ≠ wr.heap.size := by omega
        clear hc ej
        go_upto_region 6 with fail
        have JB := JBox.new wr (.string s) (.int .i32 jx) (.int .i32 jy) (.int .u8 f) 53
        have st : Below wr.heap.size wr (wr.alloc (.cells #[.string s, .int .i32 jx, .int .i32 jy, .int .u8 f] 53)) := (Below.refl _ _).alloc (Nat.le_refl _) _
        replace I0 := I0.below st
        replace B0 := B0.below st
        replace TR := TR.below st
        have hbs := hbr.trans (st.mono (by omega : gb ≤ wr.heap.size))
        have hzs : V0.heap.size ≤ (wr.alloc (.cells #[.string s, .int .i32 jx, .int .i32 jy, .int .u8 f] 53)).heap.size := Nat.le_trans hz2 st.size
        have hf : f < 256 := hjw.2.2.2.2.2
        clear g0 g1 g2 g3 st hjw hbl n1
        have jl : V0.heap.size ≤ wr.heap.size := hz2
        generalize wr.alloc (.cells #[.string s, .int .i32 jx, .int .i32 jy, .int .u8 f] 53) = V1 at *
        generalize wr.heap.size = jb at *
        obtain ⟨x0, x1, x2, x3, _, _, _, _, xl⟩ := id JB
        obtain ⟨m1, m2, m4, b0, b1, b4, k1, k2, k4, z1, z2, z4, hfre⟩ := fre_and hf (tf i)
        rw [hfre] at HPN
        have ti := TR.c i (by omega)
        obtain ⟨tv, etv⟩ : ∃ t, tf i = t := ⟨_, rfl⟩
        rw [etv] at ti HPN
        rw [plN_is] at HPN
        have hn0 := plK_le js ms i
        have hlp := plK_len js ms i
        generalize (plK js ms i).2 = n at *
        generalize (plK js ms i).1 = ps at *
        have i2 : (i : Int) < 16 := by omega
        clear hf hfre etv
        cases b4
        · obtain ⟨FL, hFL⟩ : ∃ fz : Nat → Lz, fz = (fun j => match j with | 0 => .is (.pointer (some ⟨jb, 3, none⟩)) | 1 => .is (.int .u8 f) | 2 => .is (.int .u8 m1) | 3 => .is (.bool b0) | 4 => .is (.pointer (some ⟨jb, 3, none⟩)) | 5 => .is (.int .u8 f) | 6 => .is (.int .u8 m2) | 7 => .is (.bool b1) | 8 => .is (.pointer (some ⟨jb, 3, none⟩)) | 9 => .is (.int .u8 f) | 10 => .is (.int .u8 m4) | 11 => .is (.bool false) | 12 => .is (.bool false) | 13 => .tr | 14 => .tr | 15 => .tr | 16 => .is (.bool false) | 17 => .is (.agg #[.bool b0, .bool b1, .bool false]) | 18 => .gn (fun a x => ∃ g, x = .pointer (some ⟨g, 0, none⟩) ∧ T3 a g (.bool false) (.bool false) (.bool false) ∧ V1.heap.size ≤ g) (fun a a' x h hb => h.elim fun g h => ⟨g, h.1, h.2.1.below hb, h.2.2⟩) | 19 => .tr | _ => .tr) := ⟨_, rfl⟩
          have F0 := congrFun hFL 0
          have F1 := congrFun hFL 1
          have F2 := congrFun hFL 2
          have F3 := congrFun hFL 3
          have F4 := congrFun hFL 4
          have F5 := congrFun hFL 5
          have F6 := congrFun hFL 6
          have F7 := congrFun hFL 7
          have F8 := congrFun hFL 8
          have F9 := congrFun hFL 9
          have F10 := congrFun hFL 10
          have F11 := congrFun hFL 11
          have F12 := congrFun hFL 12
          have F13 := congrFun hFL 13
          have F14 := congrFun hFL 14
          have F15 := congrFun hFL 15
          have F16 := congrFun hFL 16
          have F17 := congrFun hFL 17
          have F18 := congrFun hFL 18
          have F19 := congrFun hFL 19
          simp only at F0 F1 F2 F3 F4 F5 F6 F7 F8 F9 F10 F11 F12 F13 F14 F15 F16 F17 F18 F19
          clear hFL
          refine region_rgY (by kernel_rfl) (fun vv => ⟨#[Value.agg #[Value.slice (some { block := b, off := off }) A ac, Value.slice mo N mc], Value.pointer (some { block := w.heap.size, off := 0 }), Value.pointer (some { block := w.heap.size + 1, off := 0 }), Value.pointer (some { block := tb, off := 0 }), Value.pointer (some { block := gb + 1, off := 0 }), Value.int IntKind.i64 ↑i, Value.pointer (some { block := jb, off := 0 }), vv 18, u8, u9, Value.agg #[Value.slice (some { block := b, off := off }) A ac, Value.slice mo N mc], Value.agg #[Value.bool (tf 0), Value.bool (tf 1), Value.bool (tf 2), Value.bool (tf 3), Value.bool (tf 4), Value.bool (tf 5), Value.bool (tf 6), Value.bool (tf 7), Value.bool (tf 8), Value.bool (tf 9), Value.bool (tf 10), Value.bool (tf 11), Value.bool (tf 12), Value.bool (tf 13), Value.bool (tf 14), Value.bool (tf 15)], Value.pointer (some { block := w.heap.size, off := 0 }), Value.slice (some { block := b, off := off }) A ac, Value.int IntKind.i64 ↑A, Value.slice (some { block := gb, off := 0 }) A A, Value.agg #[Value.slice (some { block := gb, off := 0 }) A A, Value.int IntKind.i64 0], Value.pointer (some { block := w.heap.size, off := 0 }), Value.slice (some { block := b, off := off }) A ac, Value.int IntKind.i64 ↑A, Value.int IntKind.i64 ↑i, Value.bool true, Value.int IntKind.i64 ↑i, Value.pointer (some { block := b, off := off + i * 4 }), Value.agg #[Value.string s, Value.int IntKind.i32 jx, Value.int IntKind.i32 jy, Value.int IntKind.u8 ↑f], vv 0, vv 1, vv 2, vv 3, vv 4, vv 5, vv 6, vv 7, vv 8, vv 9, vv 10, vv 11, vv 12, vv 13, vv 14, vv 15, vv 16, vv 17, u43, u44, u45, u46, u47, u48, u49, u50, u51, u52, u53, u54, u55, u56, u57, u58, u59, u60, u61, u62, u63, u64, u65, u66, u67, u68, undef], []⟩) 19 FL (fun wz vz => ∃ g, vz 18 = .pointer (some ⟨g, 0, none⟩) ∧ T3 wz g (.bool b0) (.bool b1) (.bool false) ∧ IR wz gb (A * 3) c ∧ PBox wz (gb + 1) (.slice (some ⟨gb, 0, none⟩) A A) (.int .i64 n) ∧ Below gb V0 wz ∧ V0.heap.size ≤ wz.heap.size ∧ V1.heap.size ≤ g) (fun j => match j with | 0 => u25 | 1 => u26 | 2 => u27 | 3 => u28 | 4 => u29 | 5 => u30 | 6 => u31 | 7 => u32 | 8 => u33 | 9 => u34 | 10 => u35 | 11 => u36 | 12 => u37 | 13 => u38 | 14 => u39 | 15 => u40 | 16 => u41 | 17 => u42 | 18 => u7 | _ => undef) rfl ?_ ?_
          · intro L vv wq i hL hS hD hi
            obtain ⟨hr1, hr2, hr3⟩ := mem_ready hi
            have hr1 : i < 20 := hr1
            try dsimp only
            have hcs : i = 0 ∨ i = 1 ∨ i = 2 ∨ i = 3 ∨ i = 4 ∨ i = 5 ∨ i = 6 ∨ i = 7 ∨ i = 8 ∨ i = 9 ∨ i = 10 ∨ i = 11 ∨ i = 12 ∨ i = 13 ∨ i = 14 ∨ i = 15 ∨ i = 16 ∨ i = 17 ∨ i = 18 ∨ i = 19 := by omega
            clear hr1 hr2 hr3
            have hns := hS.open hL hi
            have hB := hS.a hns
            rcases hcs with rfl | rfl | rfl | rfl | rfl | rfl | rfl | rfl | rfl | rfl | rfl | rfl | rfl | rfl | rfl | rfl | rfl | rfl | rfl | rfl
            · refine wpOpT_of (fun K hK => ?_)
              unfold wpOp
              go_simp
              refine Or.inl ?_
              exact hK _ _ ⟨putT vv 0 (.pointer (some ⟨jb, 3, none⟩)), (by simp [putT]), hS.step hL hi (by decide) (Below.refl _ _) (Lz.toIs F0)⟩
            · have e0 := Lz.ofIs (hS.f hns 0 (ready_dep hi 0 (by kernel_rfl))) F0
              have r3 := (hB.cell (p := ⟨jb, 3, none⟩) xl).trans x3
              refine wpOpT_of (fun K hK => ?_)
              unfold wpOp
              simp only [e0]
              go_simp
              refine Or.inl ?_
              exact hK _ _ ⟨putT vv 1 (.int .u8 f), (by simp [putT, e0]), hS.step hL hi (by decide) (Below.refl _ _) (Lz.toIs F1)⟩
            · have e1 := Lz.ofIs (hS.f hns 1 (ready_dep hi 1 (by kernel_rfl))) F1
              refine wpOpT_of (fun K hK => ?_)
              unfold wpOp
              simp only [e1]
              go_simp
              refine Or.inl ?_
              exact hK _ _ ⟨putT vv 2 (.int .u8 m1), (by simp [putT, e1]), hS.step hL hi (by decide) (Below.refl _ _) (Lz.toIs F2)⟩
            · have e2 := Lz.ofIs (hS.f hns 2 (ready_dep hi 2 (by kernel_rfl))) F2
              refine wpOpT_of (fun K hK => ?_)
              unfold wpOp
              simp only [e2]
              go_simp
              refine Or.inl ?_
              exact hK _ _ ⟨putT vv 3 (.bool b0), (by simp [putT, e2]), hS.step hL hi (by decide) (Below.refl _ _) (Lz.toIs F3)⟩
            · refine wpOpT_of (fun K hK => ?_)
              unfold wpOp
              go_simp
              refine Or.inl ?_
              exact hK _ _ ⟨putT vv 4 (.pointer (some ⟨jb, 3, none⟩)), (by simp [putT]), hS.step hL hi (by decide) (Below.refl _ _) (Lz.toIs F4)⟩
            · have e4 := Lz.ofIs (hS.f hns 4 (ready_dep hi 4 (by kernel_rfl))) F4
              have r3 := (hB.cell (p := ⟨jb, 3, none⟩) xl).trans x3
              refine wpOpT_of (fun K hK => ?_)
              unfold wpOp
              simp only [e4]
              go_simp
              refine Or.inl ?_
              exact hK _ _ ⟨putT vv 5 (.int .u8 f), (by simp [putT, e4]), hS.step hL hi (by decide) (Below.refl _ _) (Lz.toIs F5)⟩
            · have e5 := Lz.ofIs (hS.f hns 5 (ready_dep hi 5 (by kernel_rfl))) F5
              refine wpOpT_of (fun K hK => ?_)
              unfold wpOp
              simp only [e5]
              go_simp
              refine Or.inl ?_
              exact hK _ _ ⟨putT vv 6 (.int .u8 m2), (by simp [putT, e5]), hS.step hL hi (by decide) (Below.refl _ _) (Lz.toIs F6)⟩
            · have e6 := Lz.ofIs (hS.f hns 6 (ready_dep hi 6 (by kernel_rfl))) F6
              refine wpOpT_of (fun K hK => ?_)
              unfold wpOp
              simp only [e6]
              go_simp
              refine Or.inl ?_
              exact hK _ _ ⟨putT vv 7 (.bool b1), (by simp [putT, e6]), hS.step hL hi (by decide) (Below.refl _ _) (Lz.toIs F7)⟩
            · refine wpOpT_of (fun K hK => ?_)
              unfold wpOp
              go_simp
              refine Or.inl ?_
              exact hK _ _ ⟨putT vv 8 (.pointer (some ⟨jb, 3, none⟩)), (by simp [putT]), hS.step hL hi (by decide) (Below.refl _ _) (Lz.toIs F8)⟩
            · have e8 := Lz.ofIs (hS.f hns 8 (ready_dep hi 8 (by kernel_rfl))) F8
              have r3 := (hB.cell (p := ⟨jb, 3, none⟩) xl).trans x3
              refine wpOpT_of (fun K hK => ?_)
              unfold wpOp
              simp only [e8]
              go_simp
              refine Or.inl ?_
              exact hK _ _ ⟨putT vv 9 (.int .u8 f), (by simp [putT, e8]), hS.step hL hi (by decide) (Below.refl _ _) (Lz.toIs F9)⟩
            · have e9 := Lz.ofIs (hS.f hns 9 (ready_dep hi 9 (by kernel_rfl))) F9
              refine wpOpT_of (fun K hK => ?_)
              unfold wpOp
              simp only [e9]
              go_simp
              refine Or.inl ?_
              exact hK _ _ ⟨putT vv 10 (.int .u8 m4), (by simp [putT, e9]), hS.step hL hi (by decide) (Below.refl _ _) (Lz.toIs F10)⟩
            · have e10 := Lz.ofIs (hS.f hns 10 (ready_dep hi 10 (by kernel_rfl))) F10
              refine wpOpT_of (fun K hK => ?_)
              unfold wpOp
              simp only [e10]
              go_simp
              refine Or.inl ?_
              exact hK _ _ ⟨putT vv 11 (.bool false), (by simp [putT, e10]), hS.step hL hi (by decide) (Below.refl _ _) (Lz.toIs F11)⟩
            · have e11 := Lz.ofIs (hS.f hns 11 (ready_dep hi 11 (by kernel_rfl))) F11
              refine wpOpT_of (fun K hK => ?_)
              unfold wpOp
              simp only [e11]
              go_simp
              refine Or.inl ?_
              exact hK _ _ ⟨putT vv 12 (.bool false), (by simp [putT, e11]), hS.step hL hi (by decide) (Below.refl _ _) (Lz.toIs F12)⟩
            · have e12 := Lz.ofIs (hS.f hns 12 (ready_dep hi 12 (by kernel_rfl))) F12
              refine wpOpT_of (fun K hK => ?_)
              unfold wpOp
              simp only [e12]
              go_simp
              exact hK _ _ ⟨putT vv 13 undef, (by simp [putT, e12]), hS.step hL hi (by decide) (Below.refl _ _) (Lz.toTr F13)⟩
            · have e12 := Lz.ofIs (hS.f hns 12 (ready_dep hi 12 (by kernel_rfl))) F12
              refine wpOpT_of (fun K hK => ?_)
              unfold wpOp
              simp only [e12]
              go_simp
              exact hK _ _ ⟨putT vv 14 undef, (by simp [putT, e12]), hS.step hL hi (by decide) (Below.refl _ _) (Lz.toTr F14)⟩
            · have e12 := Lz.ofIs (hS.f hns 12 (ready_dep hi 12 (by kernel_rfl))) F12
              refine wpOpT_of (fun K hK => ?_)
              unfold wpOp
              simp only [e12]
              go_simp
              exact hK _ _ ⟨putT vv 15 undef, (by simp [putT, e12]), hS.step hL hi (by decide) (Below.refl _ _) (Lz.toTr F15)⟩
            · have e12 := Lz.ofIs (hS.f hns 12 (ready_dep hi 12 (by kernel_rfl))) F12
              refine wpOpT_of (fun K hK => ?_)
              unfold wpOp
              simp only [e12]
              go_simp
              refine Or.inl ?_
              exact hK _ _ ⟨putT vv 16 (.bool false), (by simp [putT, e12]), hS.step hL hi (by decide) (Below.refl _ _) (Lz.toIs F16)⟩
            · have e3 := Lz.ofIs (hS.f hns 3 (ready_dep hi 3 (by kernel_rfl))) F3
              have e7 := Lz.ofIs (hS.f hns 7 (ready_dep hi 7 (by kernel_rfl))) F7
              have e16 := Lz.ofIs (hS.f hns 16 (ready_dep hi 16 (by kernel_rfl))) F16
              refine wpOpT_of (fun K hK => ?_)
              unfold wpOp
              simp only [e3, e7, e16]
              go_simp
              refine Or.inl ?_
              exact hK _ _ ⟨putT vv 17 (.agg #[.bool b0, .bool b1, .bool false]), (by simp [putT, e3, e7, e16]), hS.step hL hi (by decide) (Below.refl _ _) (Lz.toIs F17)⟩
            · refine wpOpT_of (fun K hK => ?_)
              unfold wpOp
              go_simp
              refine Or.inl ?_
              exact hK _ _ ⟨putT vv 18 (.pointer (some ⟨wq.heap.size, 0, none⟩)), (by simp [putT]), hS.step hL hi (by decide) ((Below.refl _ _).alloc (Nat.le_refl _) _) (Lz.toGn F18 (⟨_, rfl, T3.new _ _ _ _ _, hB.size⟩))⟩
            · have e17 := Lz.ofIs (hS.f hns 17 (ready_dep hi 17 (by kernel_rfl))) F17
              obtain ⟨g18, e18, u18, l18⟩ := Lz.ofGn (hS.f hns 18 (ready_dep hi 18 (by kernel_rfl))) F18
              obtain ⟨s0, s1, s2, f0, f1, f2, _⟩ := id u18
              have lg : gb + 1 < V1.heap.size := B0.lt
              refine wpOpT_of (fun K hK => ?_)
              unfold wpOp
              simp only [e17, e18]
              go_simp
              refine Or.inl ?_
              exact hK _ _ ⟨putT vv 19 undef, (by simp [putT, e17, e18]), hS.last hL hi (allY hD hi (by kernel_rfl)) (⟨g18, (by simp [putT, e18]), ((u18.set0 _).set1 _).set2 _, (((I0.below hB).far (by omega) _).far (by omega) _).far (by omega) _, (((B0.below hB).far (by omega) _).far (by omega) _).far (by omega) _, below_thr3 (hbs.trans (hB.mono (by omega))) (by omega) _ _ _, (by simp only [World.setCell]; simp; have := hB.size; omega), l18⟩)⟩
          · intro L vv wq hL hS hr
            have on := all_done hL hr (by kernel_rfl)
            obtain ⟨fb, h6, Y, I0, B0, hbs, hzs, lb⟩ := hS.z (on 19 (by decide))
            try dsimp only
            rw [h6]
            generalize vv 0 = y0 at *
            generalize vv 1 = y1 at *
            generalize vv 2 = y2 at *
            generalize vv 3 = y3 at *
            generalize vv 4 = y4 at *
            generalize vv 5 = y5 at *
            generalize vv 6 = y6 at *
            generalize vv 7 = y7 at *
            generalize vv 8 = y8 at *
            generalize vv 9 = y9 at *
            generalize vv 10 = y10 at *
            generalize vv 11 = y11 at *
            generalize vv 12 = y12 at *
            generalize vv 13 = y13 at *
            generalize vv 14 = y14 at *
            generalize vv 15 = y15 at *
            generalize vv 16 = y16 at *
            generalize vv 17 = y17 at *
            clear hS on hr FL hL L h6 vv F0 F1 F2 F3 F4 F5 F6 F7 F8 F9 F10 F11 F12 F13 F14 F15 F16 F17 F18 F19 JB x0 x1 x2 x3 ti k1 k2 k4 z1 z2 z4 m1 m2 m4 TR xl
            generalize wq = V2 at *
            obtain ⟨q0, q1, q2, _, _, _, _⟩ := id Y
            go_upto_region 8 with fail
            go_loopg [44] 3 (fun gh v wr => ∃ (k : Nat) (c : Nat → Int), k ≤ 3 ∧ gh = 3 - k ∧ v = .int .i64 k ∧ IR wr gb (A * 3) c ∧ Pl3 c ps ∧ (∀ r, r < k → c (i * 3 + r) = vl3 n (b0, b1, false && tv) r) ∧ PBox wr (gb + 1) (.slice (some ⟨gb, 0, none⟩) A A) (.int .i64 (cn3 n (b0, b1, false && tv) k)) ∧ Below gb V0 wr ∧ V0.heap.size ≤ wr.heap.size)
            case atStart => exact ⟨0, c, by omega, rfl, rfl, I0, P0, (fun r hr => absurd hr (by omega)), B0, hbs, hzs⟩
            case round =>
              obtain ⟨k, c, hk, hg, rfl, I0, P0, HC, B0, hbr, hzr⟩ := hrel
              have HG2 : Hid (gk = 3 - k) := hg
              clear hg
              have hcn := cn3_le n (b0, b1, false && tv) k
              by_cases hk3 : k < 3
              · rcases (show k = 0 ∨ k = 1 ∨ k = 2 by omega) with rfl | rfl | rfl
                · have hci := I0.c (i * 3) (by omega)
                  have hzi := I0.z (i * 3) (by omega)
                  obtain ⟨o0, o1, u0, u1, _⟩ := id B0
                  have HV : Hid (vl3 n (b0, b1, false && tv) 0 = if b0 then cn3 n (b0, b1, false && tv) 0 else -1) := (show _ = _ from by simp [vl3, bq3])
                  have HN1 : Hid (cn3 n (b0, b1, false && tv) (0 + 1) = cn3 n (b0, b1, false && tv) 0 + (if b0 then 1 else 0)) := (show _ = _ from by simp [cn3, bq3])
                  generalize cn3 n (b0, b1, false && tv) 0 = nk at *
                  have hix : ∀ w, (Instr.index 79 (.agg #[.bool b0, .bool b1, .bool false]) (.int .i64 0)).run Tryz.prog w = .ok (.bool b0) w := fun w => by kernel_rfl
                  go_upto_region 11 with fail
                  have hbr1 : Below gb V0 (wr.setCell ⟨gb, i * 3, none⟩ (.int .i64 (-1))) := hbr.setCell (p := ⟨gb, i * 3, none⟩) (Nat.le_refl _) _
                  have hzr1 : V0.heap.size ≤ (wr.setCell ⟨gb, i * 3, none⟩ (.int .i64 (-1))).heap.size := by simpa [World.setCell] using hzr
                  replace I0 := I0.put (a := i * 3) (by omega) (-1)
                  replace P0 := P0.put (a := i * 3) (by omega) (-1)
                  replace B0 := B0.far (g := gb) (i := i * 3) (by omega) (.int .i64 (-1))
                  clear hci hzi o0 o1 u0 u1 hbr hzr hix
                  generalize wr.setCell ⟨gb, i * 3, none⟩ (.int .i64 (-1)) = V3 at *
                  cases b0
                  · replace HC := hc_put HC (a := i * 3) (by omega) (v := -1) (by rw [HV.out]; rfl)
                    have HN2 := HN1.out
                    clear HV HN1
                    go_wp2
                    go_roundg (3 - (0 + 1))
                    case measure => rw [HG2.out]; omega
                    case rel => exact ⟨0 + 1, _, by omega, rfl, by go_num, I0, P0, HC, by rw [HN2]; simpa using B0, hbr1, hzr1⟩
                  · replace HC := hc_keep HC (a := i * 3) (by omega) (-1)
                    have hci := I0.c (i * 3) (by omega)
                    have hzi := I0.z (i * 3) (by omega)
                    obtain ⟨o0, o1, u0, u1, _⟩ := id B0
                    have wr1 : IntKind.i64.wrap (nk + 1) = nk + 1 := by rw [IntKind.wrap_i64]; omega
                    have a0 : ¬ gb = gb + 1 := by omega
                    have a1 : ¬ gb + 1 = gb := by omega
                    have i0 : (0 : Int) ≤ (i : Int) := by omega
                    go_upto_region 12 with fail
                    go_region_held3 (fun w' => w'.cell? ⟨gb + 1, 0, none⟩ = some (.slice (some ⟨gb, 0, none⟩) A A) ∧ w'.cell? ⟨gb + 1, 1, none⟩ = some (.int .i64 nk)) (go_keep) (fail)
                    have hbr2 : Below gb V0 (V3.setCell ⟨gb, i * 3, none⟩ (.int .i64 nk)) := hbr1.setCell (p := ⟨gb, i * 3, none⟩) (Nat.le_refl _) _
                    have hzr2 : V0.heap.size ≤ (V3.setCell ⟨gb, i * 3, none⟩ (.int .i64 nk)).heap.size := by simpa [World.setCell] using hzr1
                    replace I0 := I0.put (a := i * 3) (by omega) nk
                    replace P0 := P0.put (a := i * 3) (by omega) nk
                    replace B0 := B0.far (g := gb) (i := i * 3) (by omega) (.int .i64 nk)
                    replace HC := hc_put (c := fun q => if q = i * 3 then -1 else c q) (i := i) (k := 0) HC (a := i * 3) (by omega) (v := nk) (by rw [HV.out]; rfl)
                    have HN2 := HN1.out
                    clear hci hzi o0 o1 u0 u1 hbr1 hzr1 a0 a1 HV HN1
                    generalize V3.setCell ⟨gb, i * 3, none⟩ (.int .i64 nk) = V4 at *
                    obtain ⟨o0, o1, u0, u1, _⟩ := id B0
                    go_upto_region 14 with fail
                    have D := (Below.refl (V4.setCell ⟨gb + 1, 1, none⟩ (.int .i64 (nk + 1))).heap.size (V4.setCell ⟨gb + 1, 1, none⟩ (.int .i64 (nk + 1)))).drew
                    replace I0 := (I0.far (g' := gb + 1) (i := 1) (by omega) (.int .i64 (nk + 1))).below D
                    replace B0 := (B0.set1 (.int .i64 (nk + 1))).below D
                    have hbr3 : Below gb V0 (V4.setCell ⟨gb + 1, 1, none⟩ (.int .i64 (nk + 1))).drew := (hbr2.setCell (p := ⟨gb + 1, 1, none⟩) (by show gb ≤ gb + 1; omega) _).drew
                    have hzr3 : V0.heap.size ≤ (V4.setCell ⟨gb + 1, 1, none⟩ (.int .i64 (nk + 1))).drew.heap.size := Nat.le_trans (by simpa [World.setCell] using hzr2) D.size
                    clear o0 o1 u0 u1 D hbr2 hzr2
                    generalize (V4.setCell ⟨gb + 1, 1, none⟩ (.int .i64 (nk + 1))).drew = V5 at *
                    go_wp2
                    go_roundg (3 - (0 + 1))
                    case measure => rw [HG2.out]; omega
                    case rel => exact ⟨0 + 1, _, by omega, rfl, by go_num, I0, P0, HC, by rw [HN2]; simpa using B0, hbr3, hzr3⟩
                · have hci := I0.c (i * 3 + 1) (by omega)
                  have hzi := I0.z (i * 3 + 1) (by omega)
                  obtain ⟨o0, o1, u0, u1, _⟩ := id B0
                  have HV : Hid (vl3 n (b0, b1, false && tv) 1 = if b1 then cn3 n (b0, b1, false && tv) 1 else -1) := (show _ = _ from by simp [vl3, bq3])
                  have HN1 : Hid (cn3 n (b0, b1, false && tv) (1 + 1) = cn3 n (b0, b1, false && tv) 1 + (if b1 then 1 else 0)) := (show _ = _ from by simp [cn3, bq3])
                  generalize cn3 n (b0, b1, false && tv) 1 = nk at *
                  have hix : ∀ w, (Instr.index 79 (.agg #[.bool b0, .bool b1, .bool false]) (.int .i64 1)).run Tryz.prog w = .ok (.bool b1) w := fun w => by kernel_rfl
                  go_upto_region 11 with fail
                  have hbr1 : Below gb V0 (wr.setCell ⟨gb, i * 3 + 1, none⟩ (.int .i64 (-1))) := hbr.setCell (p := ⟨gb, i * 3 + 1, none⟩) (Nat.le_refl _) _
                  have hzr1 : V0.heap.size ≤ (wr.setCell ⟨gb, i * 3 + 1, none⟩ (.int .i64 (-1))).heap.size := by simpa [World.setCell] using hzr
                  replace I0 := I0.put (a := i * 3 + 1) (by omega) (-1)
                  replace P0 := P0.put (a := i * 3 + 1) (by omega) (-1)
                  replace B0 := B0.far (g := gb) (i := i * 3 + 1) (by omega) (.int .i64 (-1))
                  clear hci hzi o0 o1 u0 u1 hbr hzr hix
                  generalize wr.setCell ⟨gb, i * 3 + 1, none⟩ (.int .i64 (-1)) = V3 at *
                  cases b1
                  · replace HC := hc_put HC (a := i * 3 + 1) (by omega) (v := -1) (by rw [HV.out]; rfl)
                    have HN2 := HN1.out
                    clear HV HN1
                    go_wp2
                    go_roundg (3 - (1 + 1))
                    case measure => rw [HG2.out]; omega
                    case rel => exact ⟨1 + 1, _, by omega, rfl, by go_num, I0, P0, HC, by rw [HN2]; simpa using B0, hbr1, hzr1⟩
                  · replace HC := hc_keep HC (a := i * 3 + 1) (by omega) (-1)
                    have hci := I0.c (i * 3 + 1) (by omega)
                    have hzi := I0.z (i * 3 + 1) (by omega)
                    obtain ⟨o0, o1, u0, u1, _⟩ := id B0
                    have wr1 : IntKind.i64.wrap (nk + 1) = nk + 1 := by rw [IntKind.wrap_i64]; omega
                    have a0 : ¬ gb = gb + 1 := by omega
                    have a1 : ¬ gb + 1 = gb := by omega
                    have i0 : (0 : Int) ≤ (i : Int) := by omega
                    go_upto_region 12 with fail
                    go_region_held3 (fun w' => w'.cell? ⟨gb + 1, 0, none⟩ = some (.slice (some ⟨gb, 0, none⟩) A A) ∧ w'.cell? ⟨gb + 1, 1, none⟩ = some (.int .i64 nk)) (go_keep) (fail)
                    have hbr2 : Below gb V0 (V3.setCell ⟨gb, i * 3 + 1, none⟩ (.int .i64 nk)) := hbr1.setCell (p := ⟨gb, i * 3 + 1, none⟩) (Nat.le_refl _) _
                    have hzr2 : V0.heap.size ≤ (V3.setCell ⟨gb, i * 3 + 1, none⟩ (.int .i64 nk)).heap.size := by simpa [World.setCell] using hzr1
                    replace I0 := I0.put (a := i * 3 + 1) (by omega) nk
                    replace P0 := P0.put (a := i * 3 + 1) (by omega) nk
                    replace B0 := B0.far (g := gb) (i := i * 3 + 1) (by omega) (.int .i64 nk)
                    replace HC := hc_put (c := fun q => if q = i * 3 + 1 then -1 else c q) (i := i) (k := 1) HC (a := i * 3 + 1) (by omega) (v := nk) (by rw [HV.out]; rfl)
                    have HN2 := HN1.out
                    clear hci hzi o0 o1 u0 u1 hbr1 hzr1 a0 a1 HV HN1
                    generalize V3.setCell ⟨gb, i * 3 + 1, none⟩ (.int .i64 nk) = V4 at *
                    obtain ⟨o0, o1, u0, u1, _⟩ := id B0
                    go_upto_region 14 with fail
                    have D := (Below.refl (V4.setCell ⟨gb + 1, 1, none⟩ (.int .i64 (nk + 1))).heap.size (V4.setCell ⟨gb + 1, 1, none⟩ (.int .i64 (nk + 1)))).drew
                    replace I0 := (I0.far (g' := gb + 1) (i := 1) (by omega) (.int .i64 (nk + 1))).below D
                    replace B0 := (B0.set1 (.int .i64 (nk + 1))).below D
                    have hbr3 : Below gb V0 (V4.setCell ⟨gb + 1, 1, none⟩ (.int .i64 (nk + 1))).drew := (hbr2.setCell (p := ⟨gb + 1, 1, none⟩) (by show gb ≤ gb + 1; omega) _).drew
                    have hzr3 : V0.heap.size ≤ (V4.setCell ⟨gb + 1, 1, none⟩ (.int .i64 (nk + 1))).drew.heap.size := Nat.le_trans (by simpa [World.setCell] using hzr2) D.size
                    clear o0 o1 u0 u1 D hbr2 hzr2
                    generalize (V4.setCell ⟨gb + 1, 1, none⟩ (.int .i64 (nk + 1))).drew = V5 at *
                    go_wp2
                    go_roundg (3 - (1 + 1))
                    case measure => rw [HG2.out]; omega
                    case rel => exact ⟨1 + 1, _, by omega, rfl, by go_num, I0, P0, HC, by rw [HN2]; simpa using B0, hbr3, hzr3⟩
                · have hci := I0.c (i * 3 + 2) (by omega)
                  have hzi := I0.z (i * 3 + 2) (by omega)
                  obtain ⟨o0, o1, u0, u1, _⟩ := id B0
                  have HV : Hid (vl3 n (b0, b1, false && tv) 2 = if false then cn3 n (b0, b1, false && tv) 2 else -1) := (show _ = _ from by simp [vl3, bq3])
                  have HN1 : Hid (cn3 n (b0, b1, false && tv) (2 + 1) = cn3 n (b0, b1, false && tv) 2 + (if false then 1 else 0)) := (show _ = _ from by simp [cn3, bq3])
                  generalize cn3 n (b0, b1, false && tv) 2 = nk at *
                  have hix : ∀ w, (Instr.index 79 (.agg #[.bool b0, .bool b1, .bool false]) (.int .i64 2)).run Tryz.prog w = .ok (.bool false) w := fun w => by kernel_rfl
                  go_upto_region 11 with fail
                  have hbr1 : Below gb V0 (wr.setCell ⟨gb, i * 3 + 2, none⟩ (.int .i64 (-1))) := hbr.setCell (p := ⟨gb, i * 3 + 2, none⟩) (Nat.le_refl _) _
                  have hzr1 : V0.heap.size ≤ (wr.setCell ⟨gb, i * 3 + 2, none⟩ (.int .i64 (-1))).heap.size := by simpa [World.setCell] using hzr
                  replace I0 := I0.put (a := i * 3 + 2) (by omega) (-1)
                  replace P0 := P0.put (a := i * 3 + 2) (by omega) (-1)
                  replace B0 := B0.far (g := gb) (i := i * 3 + 2) (by omega) (.int .i64 (-1))
                  clear hci hzi o0 o1 u0 u1 hbr hzr hix
                  generalize wr.setCell ⟨gb, i * 3 + 2, none⟩ (.int .i64 (-1)) = V3 at *
                  replace HC := hc_put HC (a := i * 3 + 2) (by omega) (v := -1) (by rw [HV.out]; rfl)
                  have HN2 := HN1.out
                  clear HV HN1
                  go_wp2
                  go_roundg (3 - (2 + 1))
                  case measure => rw [HG2.out]; omega
                  case rel => exact ⟨2 + 1, _, by omega, rfl, by go_num, I0, P0, HC, by rw [HN2]; simpa using B0, hbr1, hzr1⟩
              · have e3 : k = 3 := by omega
                subst e3
                have i3 : ¬ (3 : Int) < 3 := by omega
                have h0 := HC 0 (by omega)
                have h1 := HC 1 (by omega)
                have h2 := HC 2 (by omega)
                have HPN2 : Hid (plK js ms (i + 1) = (ps ++ [(vl3 n (b0, b1, false && tv) 0, vl3 n (b0, b1, false && tv) 1, vl3 n (b0, b1, false && tv) 2)], cn3 n (b0, b1, false && tv) 3)) := HPN
                have P1 := P0.snoc (p := (c (i * 3), c (i * 3 + 1), c (i * 3 + 2))) (by rw [hlp]) (by rw [hlp]) (by rw [hlp])
                have e0 : c (i * 3) = _ := h0
                rw [e0, h1, h2] at P1
                clear HPN HC h0 h1 h2 e0 P0
                go_wp2
                go_roundg (A - (i + 1))
                case measure => rw [HG.out]; omega
                case rel => exact ⟨i + 1, _, by omega, rfl, by go_num, I0, by rw [HPN2.out]; exact P1, by rw [HPN2.out]; exact B0, hbr, hzr⟩
        · obtain ⟨FL, hFL⟩ : ∃ fz : Nat → Lz, fz = (fun j => match j with | 0 => .is (.pointer (some ⟨jb, 3, none⟩)) | 1 => .is (.int .u8 f) | 2 => .is (.int .u8 m1) | 3 => .is (.bool b0) | 4 => .is (.pointer (some ⟨jb, 3, none⟩)) | 5 => .is (.int .u8 f) | 6 => .is (.int .u8 m2) | 7 => .is (.bool b1) | 8 => .is (.pointer (some ⟨jb, 3, none⟩)) | 9 => .is (.int .u8 f) | 10 => .is (.int .u8 m4) | 11 => .is (.bool true) | 12 => .is (.bool true) | 13 => .is (.int .i64 i) | 14 => .is (.pointer (some ⟨tb, i, none⟩)) | 15 => .is (.bool tv) | 16 => .is (.bool tv) | 17 => .is (.agg #[.bool b0, .bool b1, .bool tv]) | 18 => .gn (fun a x => ∃ g, x = .pointer (some ⟨g, 0, none⟩) ∧ T3 a g (.bool false) (.bool false) (.bool false) ∧ V1.heap.size ≤ g) (fun a a' x h hb => h.elim fun g h => ⟨g, h.1, h.2.1.below hb, h.2.2⟩) | 19 => .tr | _ => .tr) := ⟨_, rfl⟩
          have F0 := congrFun hFL 0
          have F1 := congrFun hFL 1
          have F2 := congrFun hFL 2
          have F3 := congrFun hFL 3
          have F4 := congrFun hFL 4
          have F5 := congrFun hFL 5
          have F6 := congrFun hFL 6
          have F7 := congrFun hFL 7
          have F8 := congrFun hFL 8
          have F9 := congrFun hFL 9
          have F10 := congrFun hFL 10
          have F11 := congrFun hFL 11
          have F12 := congrFun hFL 12
          have F13 := congrFun hFL 13
          have F14 := congrFun hFL 14
          have F15 := congrFun hFL 15
          have F16 := congrFun hFL 16
          have F17 := congrFun hFL 17
          have F18 := congrFun hFL 18
          have F19 := congrFun hFL 19
          simp only at F0 F1 F2 F3 F4 F5 F6 F7 F8 F9 F10 F11 F12 F13 F14 F15 F16 F17 F18 F19
          clear hFL
          refine region_rgY (by kernel_rfl) (fun vv => ⟨#[Value.agg #[Value.slice (some { block := b, off := off }) A ac, Value.slice mo N mc], Value.pointer (some { block := w.heap.size, off := 0 }), Value.pointer (some { block := w.heap.size + 1, off := 0 }), Value.pointer (some { block := tb, off := 0 }), Value.pointer (some { block := gb + 1, off := 0 }), Value.int IntKind.i64 ↑i, Value.pointer (some { block := jb, off := 0 }), vv 18, u8, u9, Value.agg #[Value.slice (some { block := b, off := off }) A ac, Value.slice mo N mc], Value.agg #[Value.bool (tf 0), Value.bool (tf 1), Value.bool (tf 2), Value.bool (tf 3), Value.bool (tf 4), Value.bool (tf 5), Value.bool (tf 6), Value.bool (tf 7), Value.bool (tf 8), Value.bool (tf 9), Value.bool (tf 10), Value.bool (tf 11), Value.bool (tf 12), Value.bool (tf 13), Value.bool (tf 14), Value.bool (tf 15)], Value.pointer (some { block := w.heap.size, off := 0 }), Value.slice (some { block := b, off := off }) A ac, Value.int IntKind.i64 ↑A, Value.slice (some { block := gb, off := 0 }) A A, Value.agg #[Value.slice (some { block := gb, off := 0 }) A A, Value.int IntKind.i64 0], Value.pointer (some { block := w.heap.size, off := 0 }), Value.slice (some { block := b, off := off }) A ac, Value.int IntKind.i64 ↑A, Value.int IntKind.i64 ↑i, Value.bool true, Value.int IntKind.i64 ↑i, Value.pointer (some { block := b, off := off + i * 4 }), Value.agg #[Value.string s, Value.int IntKind.i32 jx, Value.int IntKind.i32 jy, Value.int IntKind.u8 ↑f], vv 0, vv 1, vv 2, vv 3, vv 4, vv 5, vv 6, vv 7, vv 8, vv 9, vv 10, vv 11, vv 12, vv 13, vv 14, vv 15, vv 16, vv 17, u43, u44, u45, u46, u47, u48, u49, u50, u51, u52, u53, u54, u55, u56, u57, u58, u59, u60, u61, u62, u63, u64, u65, u66, u67, u68, undef], []⟩) 19 FL (fun wz vz => ∃ g, vz 18 = .pointer (some ⟨g, 0, none⟩) ∧ T3 wz g (.bool b0) (.bool b1) (.bool tv) ∧ IR wz gb (A * 3) c ∧ PBox wz (gb + 1) (.slice (some ⟨gb, 0, none⟩) A A) (.int .i64 n) ∧ Below gb V0 wz ∧ V0.heap.size ≤ wz.heap.size ∧ V1.heap.size ≤ g) (fun j => match j with | 0 => u25 | 1 => u26 | 2 => u27 | 3 => u28 | 4 => u29 | 5 => u30 | 6 => u31 | 7 => u32 | 8 => u33 | 9 => u34 | 10 => u35 | 11 => u36 | 12 => u37 | 13 => u38 | 14 => u39 | 15 => u40 | 16 => u41 | 17 => u42 | 18 => u7 | _ => undef) rfl ?_ ?_
          · intro L vv wq i hL hS hD hi
            obtain ⟨hr1, hr2, hr3⟩ := mem_ready hi
            have hr1 : i < 20 := hr1
            try dsimp only
            have hcs : i = 0 ∨ i = 1 ∨ i = 2 ∨ i = 3 ∨ i = 4 ∨ i = 5 ∨ i = 6 ∨ i = 7 ∨ i = 8 ∨ i = 9 ∨ i = 10 ∨ i = 11 ∨ i = 12 ∨ i = 13 ∨ i = 14 ∨ i = 15 ∨ i = 16 ∨ i = 17 ∨ i = 18 ∨ i = 19 := by omega
            clear hr1 hr2 hr3
            have hns := hS.open hL hi
            have hB := hS.a hns
            rcases hcs with rfl | rfl | rfl | rfl | rfl | rfl | rfl | rfl | rfl | rfl | rfl | rfl | rfl | rfl | rfl | rfl | rfl | rfl | rfl | rfl
            · refine wpOpT_of (fun K hK => ?_)
              unfold wpOp
              go_simp
              refine Or.inl ?_
              exact hK _ _ ⟨putT vv 0 (.pointer (some ⟨jb, 3, none⟩)), (by simp [putT]), hS.step hL hi (by decide) (Below.refl _ _) (Lz.toIs F0)⟩
            · have e0 := Lz.ofIs (hS.f hns 0 (ready_dep hi 0 (by kernel_rfl))) F0
              have r3 := (hB.cell (p := ⟨jb, 3, none⟩) xl).trans x3
              refine wpOpT_of (fun K hK => ?_)
              unfold wpOp
              simp only [e0]
              go_simp
              refine Or.inl ?_
              exact hK _ _ ⟨putT vv 1 (.int .u8 f), (by simp [putT, e0]), hS.step hL hi (by decide) (Below.refl _ _) (Lz.toIs F1)⟩
            · have e1 := Lz.ofIs (hS.f hns 1 (ready_dep hi 1 (by kernel_rfl))) F1
              refine wpOpT_of (fun K hK => ?_)
              unfold wpOp
              simp only [e1]
              go_simp
              refine Or.inl ?_
              exact hK _ _ ⟨putT vv 2 (.int .u8 m1), (by simp [putT, e1]), hS.step hL hi (by decide) (Below.refl _ _) (Lz.toIs F2)⟩
            · have e2 := Lz.ofIs (hS.f hns 2 (ready_dep hi 2 (by kernel_rfl))) F2
              refine wpOpT_of (fun K hK => ?_)
              unfold wpOp
              simp only [e2]
              go_simp
              refine Or.inl ?_
              exact hK _ _ ⟨putT vv 3 (.bool b0), (by simp [putT, e2]), hS.step hL hi (by decide) (Below.refl _ _) (Lz.toIs F3)⟩
            · refine wpOpT_of (fun K hK => ?_)
              unfold wpOp
              go_simp
              refine Or.inl ?_
              exact hK _ _ ⟨putT vv 4 (.pointer (some ⟨jb, 3, none⟩)), (by simp [putT]), hS.step hL hi (by decide) (Below.refl _ _) (Lz.toIs F4)⟩
            · have e4 := Lz.ofIs (hS.f hns 4 (ready_dep hi 4 (by kernel_rfl))) F4
              have r3 := (hB.cell (p := ⟨jb, 3, none⟩) xl).trans x3
              refine wpOpT_of (fun K hK => ?_)
              unfold wpOp
              simp only [e4]
              go_simp
              refine Or.inl ?_
              exact hK _ _ ⟨putT vv 5 (.int .u8 f), (by simp [putT, e4]), hS.step hL hi (by decide) (Below.refl _ _) (Lz.toIs F5)⟩
            · have e5 := Lz.ofIs (hS.f hns 5 (ready_dep hi 5 (by kernel_rfl))) F5
              refine wpOpT_of (fun K hK => ?_)
              unfold wpOp
              simp only [e5]
              go_simp
              refine Or.inl ?_
              exact hK _ _ ⟨putT vv 6 (.int .u8 m2), (by simp [putT, e5]), hS.step hL hi (by decide) (Below.refl _ _) (Lz.toIs F6)⟩
            · have e6 := Lz.ofIs (hS.f hns 6 (ready_dep hi 6 (by kernel_rfl))) F6
              refine wpOpT_of (fun K hK => ?_)
              unfold wpOp
              simp only [e6]
              go_simp
              refine Or.inl ?_
              exact hK _ _ ⟨putT vv 7 (.bool b1), (by simp [putT, e6]), hS.step hL hi (by decide) (Below.refl _ _) (Lz.toIs F7)⟩
            · refine wpOpT_of (fun K hK => ?_)
              unfold wpOp
              go_simp
              refine Or.inl ?_
              exact hK _ _ ⟨putT vv 8 (.pointer (some ⟨jb, 3, none⟩)), (by simp [putT]), hS.step hL hi (by decide) (Below.refl _ _) (Lz.toIs F8)⟩
            · have e8 := Lz.ofIs (hS.f hns 8 (ready_dep hi 8 (by kernel_rfl))) F8
              have r3 := (hB.cell (p := ⟨jb, 3, none⟩) xl).trans x3
              refine wpOpT_of (fun K hK => ?_)
              unfold wpOp
              simp only [e8]
              go_simp
              refine Or.inl ?_
              exact hK _ _ ⟨putT vv 9 (.int .u8 f), (by simp [putT, e8]), hS.step hL hi (by decide) (Below.refl _ _) (Lz.toIs F9)⟩
            · have e9 := Lz.ofIs (hS.f hns 9 (ready_dep hi 9 (by kernel_rfl))) F9
              refine wpOpT_of (fun K hK => ?_)
              unfold wpOp
              simp only [e9]
              go_simp
              refine Or.inl ?_
              exact hK _ _ ⟨putT vv 10 (.int .u8 m4), (by simp [putT, e9]), hS.step hL hi (by decide) (Below.refl _ _) (Lz.toIs F10)⟩
            · have e10 := Lz.ofIs (hS.f hns 10 (ready_dep hi 10 (by kernel_rfl))) F10
              refine wpOpT_of (fun K hK => ?_)
              unfold wpOp
              simp only [e10]
              go_simp
              refine Or.inl ?_
              exact hK _ _ ⟨putT vv 11 (.bool true), (by simp [putT, e10]), hS.step hL hi (by decide) (Below.refl _ _) (Lz.toIs F11)⟩
            · have e11 := Lz.ofIs (hS.f hns 11 (ready_dep hi 11 (by kernel_rfl))) F11
              refine wpOpT_of (fun K hK => ?_)
              unfold wpOp
              simp only [e11]
              go_simp
              refine Or.inl ?_
              exact hK _ _ ⟨putT vv 12 (.bool true), (by simp [putT, e11]), hS.step hL hi (by decide) (Below.refl _ _) (Lz.toIs F12)⟩
            · have e12 := Lz.ofIs (hS.f hns 12 (ready_dep hi 12 (by kernel_rfl))) F12
              refine wpOpT_of (fun K hK => ?_)
              unfold wpOp
              simp only [e12]
              go_simp
              refine Or.inl ?_
              exact hK _ _ ⟨putT vv 13 (.int .i64 i), (by simp [putT, e12]), hS.step hL hi (by decide) (Below.refl _ _) (Lz.toIs F13)⟩
            · have e12 := Lz.ofIs (hS.f hns 12 (ready_dep hi 12 (by kernel_rfl))) F12
              have e13 := Lz.ofIs (hS.f hns 13 (ready_dep hi 13 (by kernel_rfl))) F13
              refine wpOpT_of (fun K hK => ?_)
              unfold wpOp
              simp only [e12, e13]
              go_simp
              refine Or.inl ?_
              exact hK _ _ ⟨putT vv 14 (.pointer (some ⟨tb, i, none⟩)), (by simp [putT, e12, e13]), hS.step hL hi (by decide) (Below.refl _ _) (Lz.toIs F14)⟩
            · have e12 := Lz.ofIs (hS.f hns 12 (ready_dep hi 12 (by kernel_rfl))) F12
              have e14 := Lz.ofIs (hS.f hns 14 (ready_dep hi 14 (by kernel_rfl))) F14
              have rt := (hB.cell (p := ⟨tb, i, none⟩) TR.lt).trans ti
              refine wpOpT_of (fun K hK => ?_)
              unfold wpOp
              simp only [e12, e14]
              go_simp
              refine Or.inl ?_
              exact hK _ _ ⟨putT vv 15 (.bool tv), (by simp [putT, e12, e14]), hS.step hL hi (by decide) (Below.refl _ _) (Lz.toIs F15)⟩
            · have e12 := Lz.ofIs (hS.f hns 12 (ready_dep hi 12 (by kernel_rfl))) F12
              have e15 := Lz.ofIs (hS.f hns 15 (ready_dep hi 15 (by kernel_rfl))) F15
              refine wpOpT_of (fun K hK => ?_)
              unfold wpOp
              simp only [e12, e15]
              go_simp
              refine Or.inl ?_
              exact hK _ _ ⟨putT vv 16 (.bool tv), (by simp [putT, e12, e15]), hS.step hL hi (by decide) (Below.refl _ _) (Lz.toIs F16)⟩
            · have e3 := Lz.ofIs (hS.f hns 3 (ready_dep hi 3 (by kernel_rfl))) F3
              have e7 := Lz.ofIs (hS.f hns 7 (ready_dep hi 7 (by kernel_rfl))) F7
              have e16 := Lz.ofIs (hS.f hns 16 (ready_dep hi 16 (by kernel_rfl))) F16
              refine wpOpT_of (fun K hK => ?_)
              unfold wpOp
              simp only [e3, e7, e16]
              go_simp
              refine Or.inl ?_
              exact hK _ _ ⟨putT vv 17 (.agg #[.bool b0, .bool b1, .bool tv]), (by simp [putT, e3, e7, e16]), hS.step hL hi (by decide) (Below.refl _ _) (Lz.toIs F17)⟩
            · refine wpOpT_of (fun K hK => ?_)
              unfold wpOp
              go_simp
              refine Or.inl ?_
              exact hK _ _ ⟨putT vv 18 (.pointer (some ⟨wq.heap.size, 0, none⟩)), (by simp [putT]), hS.step hL hi (by decide) ((Below.refl _ _).alloc (Nat.le_refl _) _) (Lz.toGn F18 (⟨_, rfl, T3.new _ _ _ _ _, hB.size⟩))⟩
            · have e17 := Lz.ofIs (hS.f hns 17 (ready_dep hi 17 (by kernel_rfl))) F17
              obtain ⟨g18, e18, u18, l18⟩ := Lz.ofGn (hS.f hns 18 (ready_dep hi 18 (by kernel_rfl))) F18
              obtain ⟨s0, s1, s2, f0, f1, f2, _⟩ := id u18
              have lg : gb + 1 < V1.heap.size := B0.lt
              refine wpOpT_of (fun K hK => ?_)
              unfold wpOp
              simp only [e17, e18]
              go_simp
              refine Or.inl ?_
              exact hK _ _ ⟨putT vv 19 undef, (by simp [putT, e17, e18]), hS.last hL hi (allY hD hi (by kernel_rfl)) (⟨g18, (by simp [putT, e18]), ((u18.set0 _).set1 _).set2 _, (((I0.below hB).far (by omega) _).far (by omega) _).far (by omega) _, (((B0.below hB).far (by omega) _).far (by omega) _).far (by omega) _, below_thr3 (hbs.trans (hB.mono (by omega))) (by omega) _ _ _, (by simp only [World.setCell]; simp; have := hB.size; omega), l18⟩)⟩
          · intro L vv wq hL hS hr
            have on := all_done hL hr (by kernel_rfl)
            obtain ⟨fb, h6, Y, I0, B0, hbs, hzs, lb⟩ := hS.z (on 19 (by decide))
            try dsimp only
            rw [h6]
            generalize vv 0 = y0 at *
            generalize vv 1 = y1 at *
            generalize vv 2 = y2 at *
            generalize vv 3 = y3 at *
            generalize vv 4 = y4 at *
            generalize vv 5 = y5 at *
            generalize vv 6 = y6 at *
            generalize vv 7 = y7 at *
            generalize vv 8 = y8 at *
            generalize vv 9 = y9 at *
            generalize vv 10 = y10 at *
            generalize vv 11 = y11 at *
            generalize vv 12 = y12 at *
            generalize vv 13 = y13 at *
            generalize vv 14 = y14 at *
            generalize vv 15 = y15 at *
            generalize vv 16 = y16 at *
            generalize vv 17 = y17 at *
            clear hS on hr FL hL L h6 vv F0 F1 F2 F3 F4 F5 F6 F7 F8 F9 F10 F11 F12 F13 F14 F15 F16 F17 F18 F19 JB x0 x1 x2 x3 ti k1 k2 k4 z1 z2 z4 m1 m2 m4 TR xl
            generalize wq = V2 at *
            obtain ⟨q0, q1, q2, _, _, _, _⟩ := id Y
            go_upto_region 8 with fail
            go_loopg [44] 3 (fun gh v wr => ∃ (k : Nat) (c : Nat → Int), k ≤ 3 ∧ gh = 3 - k ∧ v = .int .i64 k ∧ IR wr gb (A * 3) c ∧ Pl3 c ps ∧ (∀ r, r < k → c (i * 3 + r) = vl3 n (b0, b1, true && tv) r) ∧ PBox wr (gb + 1) (.slice (some ⟨gb, 0, none⟩) A A) (.int .i64 (cn3 n (b0, b1, true && tv) k)) ∧ Below gb V0 wr ∧ V0.heap.size ≤ wr.heap.size)
            case atStart => exact ⟨0, c, by omega, rfl, rfl, I0, P0, (fun r hr => absurd hr (by omega)), B0, hbs, hzs⟩
            case round =>
              obtain ⟨k, c, hk, hg, rfl, I0, P0, HC, B0, hbr, hzr⟩ := hrel
              have HG2 : Hid (gk = 3 - k) := hg
              clear hg
              have hcn := cn3_le n (b0, b1, true && tv) k
              by_cases hk3 : k < 3
              · rcases (show k = 0 ∨ k = 1 ∨ k = 2 by omega) with rfl | rfl | rfl
                · have hci := I0.c (i * 3) (by omega)
                  have hzi := I0.z (i * 3) (by omega)
                  obtain ⟨o0, o1, u0, u1, _⟩ := id B0
                  have HV : Hid (vl3 n (b0, b1, true && tv) 0 = if b0 then cn3 n (b0, b1, true && tv) 0 else -1) := (show _ = _ from by simp [vl3, bq3])
                  have HN1 : Hid (cn3 n (b0, b1, true && tv) (0 + 1) = cn3 n (b0, b1, true && tv) 0 + (if b0 then 1 else 0)) := (show _ = _ from by simp [cn3, bq3])
                  generalize cn3 n (b0, b1, true && tv) 0 = nk at *
                  have hix : ∀ w, (Instr.index 79 (.agg #[.bool b0, .bool b1, .bool tv]) (.int .i64 0)).run Tryz.prog w = .ok (.bool b0) w := fun w => by kernel_rfl
                  go_upto_region 11 with fail
                  have hbr1 : Below gb V0 (wr.setCell ⟨gb, i * 3, none⟩ (.int .i64 (-1))) := hbr.setCell (p := ⟨gb, i * 3, none⟩) (Nat.le_refl _) _
                  have hzr1 : V0.heap.size ≤ (wr.setCell ⟨gb, i * 3, none⟩ (.int .i64 (-1))).heap.size := by simpa [World.setCell] using hzr
                  replace I0 := I0.put (a := i * 3) (by omega) (-1)
                  replace P0 := P0.put (a := i * 3) (by omega) (-1)
                  replace B0 := B0.far (g := gb) (i := i * 3) (by omega) (.int .i64 (-1))
                  clear hci hzi o0 o1 u0 u1 hbr hzr hix
                  generalize wr.setCell ⟨gb, i * 3, none⟩ (.int .i64 (-1)) = V3 at *
                  cases b0
                  · replace HC := hc_put HC (a := i * 3) (by omega) (v := -1) (by rw [HV.out]; rfl)
                    have HN2 := HN1.out
                    clear HV HN1
                    go_wp2
                    go_roundg (3 - (0 + 1))
                    case measure => rw [HG2.out]; omega
                    case rel => exact ⟨0 + 1, _, by omega, rfl, by go_num, I0, P0, HC, by rw [HN2]; simpa using B0, hbr1, hzr1⟩
                  · replace HC := hc_keep HC (a := i * 3) (by omega) (-1)
                    have hci := I0.c (i * 3) (by omega)
                    have hzi := I0.z (i * 3) (by omega)
                    obtain ⟨o0, o1, u0, u1, _⟩ := id B0
                    have wr1 : IntKind.i64.wrap (nk + 1) = nk + 1 := by rw [IntKind.wrap_i64]; omega
                    have a0 : ¬ gb = gb + 1 := by omega
                    have a1 : ¬ gb + 1 = gb := by omega
                    have i0 : (0 : Int) ≤ (i : Int) := by omega
                    go_upto_region 12 with fail
                    go_region_held3 (fun w' => w'.cell? ⟨gb + 1, 0, none⟩ = some (.slice (some ⟨gb, 0, none⟩) A A) ∧ w'.cell? ⟨gb + 1, 1, none⟩ = some (.int .i64 nk)) (go_keep) (fail)
                    have hbr2 : Below gb V0 (V3.setCell ⟨gb, i * 3, none⟩ (.int .i64 nk)) := hbr1.setCell (p := ⟨gb, i * 3, none⟩) (Nat.le_refl _) _
                    have hzr2 : V0.heap.size ≤ (V3.setCell ⟨gb, i * 3, none⟩ (.int .i64 nk)).heap.size := by simpa [World.setCell] using hzr1
                    replace I0 := I0.put (a := i * 3) (by omega) nk
                    replace P0 := P0.put (a := i * 3) (by omega) nk
                    replace B0 := B0.far (g := gb) (i := i * 3) (by omega) (.int .i64 nk)
                    replace HC := hc_put (c := fun q => if q = i * 3 then -1 else c q) (i := i) (k := 0) HC (a := i * 3) (by omega) (v := nk) (by rw [HV.out]; rfl)
                    have HN2 := HN1.out
                    clear hci hzi o0 o1 u0 u1 hbr1 hzr1 a0 a1 HV HN1
                    generalize V3.setCell ⟨gb, i * 3, none⟩ (.int .i64 nk) = V4 at *
                    obtain ⟨o0, o1, u0, u1, _⟩ := id B0
                    go_upto_region 14 with fail
                    have D := (Below.refl (V4.setCell ⟨gb + 1, 1, none⟩ (.int .i64 (nk + 1))).heap.size (V4.setCell ⟨gb + 1, 1, none⟩ (.int .i64 (nk + 1)))).drew
                    replace I0 := (I0.far (g' := gb + 1) (i := 1) (by omega) (.int .i64 (nk + 1))).below D
                    replace B0 := (B0.set1 (.int .i64 (nk + 1))).below D
                    have hbr3 : Below gb V0 (V4.setCell ⟨gb + 1, 1, none⟩ (.int .i64 (nk + 1))).drew := (hbr2.setCell (p := ⟨gb + 1, 1, none⟩) (by show gb ≤ gb + 1; omega) _).drew
                    have hzr3 : V0.heap.size ≤ (V4.setCell ⟨gb + 1, 1, none⟩ (.int .i64 (nk + 1))).drew.heap.size := Nat.le_trans (by simpa [World.setCell] using hzr2) D.size
                    clear o0 o1 u0 u1 D hbr2 hzr2
                    generalize (V4.setCell ⟨gb + 1, 1, none⟩ (.int .i64 (nk + 1))).drew = V5 at *
                    go_wp2
                    go_roundg (3 - (0 + 1))
                    case measure => rw [HG2.out]; omega
                    case rel => exact ⟨0 + 1, _, by omega, rfl, by go_num, I0, P0, HC, by rw [HN2]; simpa using B0, hbr3, hzr3⟩
                · have hci := I0.c (i * 3 + 1) (by omega)
                  have hzi := I0.z (i * 3 + 1) (by omega)
                  obtain ⟨o0, o1, u0, u1, _⟩ := id B0
                  have HV : Hid (vl3 n (b0, b1, true && tv) 1 = if b1 then cn3 n (b0, b1, true && tv) 1 else -1) := (show _ = _ from by simp [vl3, bq3])
                  have HN1 : Hid (cn3 n (b0, b1, true && tv) (1 + 1) = cn3 n (b0, b1, true && tv) 1 + (if b1 then 1 else 0)) := (show _ = _ from by simp [cn3, bq3])
                  generalize cn3 n (b0, b1, true && tv) 1 = nk at *
                  have hix : ∀ w, (Instr.index 79 (.agg #[.bool b0, .bool b1, .bool tv]) (.int .i64 1)).run Tryz.prog w = .ok (.bool b1) w := fun w => by kernel_rfl
                  go_upto_region 11 with fail
                  have hbr1 : Below gb V0 (wr.setCell ⟨gb, i * 3 + 1, none⟩ (.int .i64 (-1))) := hbr.setCell (p := ⟨gb, i * 3 + 1, none⟩) (Nat.le_refl _) _
                  have hzr1 : V0.heap.size ≤ (wr.setCell ⟨gb, i * 3 + 1, none⟩ (.int .i64 (-1))).heap.size := by simpa [World.setCell] using hzr
                  replace I0 := I0.put (a := i * 3 + 1) (by omega) (-1)
                  replace P0 := P0.put (a := i * 3 + 1) (by omega) (-1)
                  replace B0 := B0.far (g := gb) (i := i * 3 + 1) (by omega) (.int .i64 (-1))
                  clear hci hzi o0 o1 u0 u1 hbr hzr hix
                  generalize wr.setCell ⟨gb, i * 3 + 1, none⟩ (.int .i64 (-1)) = V3 at *
                  cases b1
                  · replace HC := hc_put HC (a := i * 3 + 1) (by omega) (v := -1) (by rw [HV.out]; rfl)
                    have HN2 := HN1.out
                    clear HV HN1
                    go_wp2
                    go_roundg (3 - (1 + 1))
                    case measure => rw [HG2.out]; omega
                    case rel => exact ⟨1 + 1, _, by omega, rfl, by go_num, I0, P0, HC, by rw [HN2]; simpa using B0, hbr1, hzr1⟩
                  · replace HC := hc_keep HC (a := i * 3 + 1) (by omega) (-1)
                    have hci := I0.c (i * 3 + 1) (by omega)
                    have hzi := I0.z (i * 3 + 1) (by omega)
                    obtain ⟨o0, o1, u0, u1, _⟩ := id B0
                    have wr1 : IntKind.i64.wrap (nk + 1) = nk + 1 := by rw [IntKind.wrap_i64]; omega
                    have a0 : ¬ gb = gb + 1 := by omega
                    have a1 : ¬ gb + 1 = gb := by omega
                    have i0 : (0 : Int) ≤ (i : Int) := by omega
                    go_upto_region 12 with fail
                    go_region_held3 (fun w' => w'.cell? ⟨gb + 1, 0, none⟩ = some (.slice (some ⟨gb, 0, none⟩) A A) ∧ w'.cell? ⟨gb + 1, 1, none⟩ = some (.int .i64 nk)) (go_keep) (fail)
                    have hbr2 : Below gb V0 (V3.setCell ⟨gb, i * 3 + 1, none⟩ (.int .i64 nk)) := hbr1.setCell (p := ⟨gb, i * 3 + 1, none⟩) (Nat.le_refl _) _
                    have hzr2 : V0.heap.size ≤ (V3.setCell ⟨gb, i * 3 + 1, none⟩ (.int .i64 nk)).heap.size := by simpa [World.setCell] using hzr1
                    replace I0 := I0.put (a := i * 3 + 1) (by omega) nk
                    replace P0 := P0.put (a := i * 3 + 1) (by omega) nk
                    replace B0 := B0.far (g := gb) (i := i * 3 + 1) (by omega) (.int .i64 nk)
                    replace HC := hc_put (c := fun q => if q = i * 3 + 1 then -1 else c q) (i := i) (k := 1) HC (a := i * 3 + 1) (by omega) (v := nk) (by rw [HV.out]; rfl)
                    have HN2 := HN1.out
                    clear hci hzi o0 o1 u0 u1 hbr1 hzr1 a0 a1 HV HN1
                    generalize V3.setCell ⟨gb, i * 3 + 1, none⟩ (.int .i64 nk) = V4 at *
                    obtain ⟨o0, o1, u0, u1, _⟩ := id B0
                    go_upto_region 14 with fail
                    have D := (Below.refl (V4.setCell ⟨gb + 1, 1, none⟩ (.int .i64 (nk + 1))).heap.size (V4.setCell ⟨gb + 1, 1, none⟩ (.int .i64 (nk + 1)))).drew
                    replace I0 := (I0.far (g' := gb + 1) (i := 1) (by omega) (.int .i64 (nk + 1))).below D
                    replace B0 := (B0.set1 (.int .i64 (nk + 1))).below D
                    have hbr3 : Below gb V0 (V4.setCell ⟨gb + 1, 1, none⟩ (.int .i64 (nk + 1))).drew := (hbr2.setCell (p := ⟨gb + 1, 1, none⟩) (by show gb ≤ gb + 1; omega) _).drew
                    have hzr3 : V0.heap.size ≤ (V4.setCell ⟨gb + 1, 1, none⟩ (.int .i64 (nk + 1))).drew.heap.size := Nat.le_trans (by simpa [World.setCell] using hzr2) D.size
                    clear o0 o1 u0 u1 D hbr2 hzr2
                    generalize (V4.setCell ⟨gb + 1, 1, none⟩ (.int .i64 (nk + 1))).drew = V5 at *
                    go_wp2
                    go_roundg (3 - (1 + 1))
                    case measure => rw [HG2.out]; omega
                    case rel => exact ⟨1 + 1, _, by omega, rfl, by go_num, I0, P0, HC, by rw [HN2]; simpa using B0, hbr3, hzr3⟩
                · have hci := I0.c (i * 3 + 2) (by omega)
                  have hzi := I0.z (i * 3 + 2) (by omega)
                  obtain ⟨o0, o1, u0, u1, _⟩ := id B0
                  have HV : Hid (vl3 n (b0, b1, true && tv) 2 = if tv then cn3 n (b0, b1, true && tv) 2 else -1) := (show _ = _ from by simp [vl3, bq3])
                  have HN1 : Hid (cn3 n (b0, b1, true && tv) (2 + 1) = cn3 n (b0, b1, true && tv) 2 + (if tv then 1 else 0)) := (show _ = _ from by simp [cn3, bq3])
                  generalize cn3 n (b0, b1, true && tv) 2 = nk at *
                  have hix : ∀ w, (Instr.index 79 (.agg #[.bool b0, .bool b1, .bool tv]) (.int .i64 2)).run Tryz.prog w = .ok (.bool tv) w := fun w => by kernel_rfl
                  go_upto_region 11 with fail
                  have hbr1 : Below gb V0 (wr.setCell ⟨gb, i * 3 + 2, none⟩ (.int .i64 (-1))) := hbr.setCell (p := ⟨gb, i * 3 + 2, none⟩) (Nat.le_refl _) _
                  have hzr1 : V0.heap.size ≤ (wr.setCell ⟨gb, i * 3 + 2, none⟩ (.int .i64 (-1))).heap.size := by simpa [World.setCell] using hzr
                  replace I0 := I0.put (a := i * 3 + 2) (by omega) (-1)
                  replace P0 := P0.put (a := i * 3 + 2) (by omega) (-1)
                  replace B0 := B0.far (g := gb) (i := i * 3 + 2) (by omega) (.int .i64 (-1))
                  clear hci hzi o0 o1 u0 u1 hbr hzr hix
                  generalize wr.setCell ⟨gb, i * 3 + 2, none⟩ (.int .i64 (-1)) = V3 at *
                  cases tv
                  · replace HC := hc_put HC (a := i * 3 + 2) (by omega) (v := -1) (by rw [HV.out]; rfl)
                    have HN2 := HN1.out
                    clear HV HN1
                    go_wp2
                    go_roundg (3 - (2 + 1))
                    case measure => rw [HG2.out]; omega
                    case rel => exact ⟨2 + 1, _, by omega, rfl, by go_num, I0, P0, HC, by rw [HN2]; simpa using B0, hbr1, hzr1⟩
                  · replace HC := hc_keep HC (a := i * 3 + 2) (by omega) (-1)
                    have hci := I0.c (i * 3 + 2) (by omega)
                    have hzi := I0.z (i * 3 + 2) (by omega)
                    obtain ⟨o0, o1, u0, u1, _⟩ := id B0
                    have wr1 : IntKind.i64.wrap (nk + 1) = nk + 1 := by rw [IntKind.wrap_i64]; omega
                    have a0 : ¬ gb = gb + 1 := by omega
                    have a1 : ¬ gb + 1 = gb := by omega
                    have i0 : (0 : Int) ≤ (i : Int) := by omega
                    go_upto_region 12 with fail
                    go_region_held3 (fun w' => w'.cell? ⟨gb + 1, 0, none⟩ = some (.slice (some ⟨gb, 0, none⟩) A A) ∧ w'.cell? ⟨gb + 1, 1, none⟩ = some (.int .i64 nk)) (go_keep) (fail)
                    have hbr2 : Below gb V0 (V3.setCell ⟨gb, i * 3 + 2, none⟩ (.int .i64 nk)) := hbr1.setCell (p := ⟨gb, i * 3 + 2, none⟩) (Nat.le_refl _) _
                    have hzr2 : V0.heap.size ≤ (V3.setCell ⟨gb, i * 3 + 2, none⟩ (.int .i64 nk)).heap.size := by simpa [World.setCell] using hzr1
                    replace I0 := I0.put (a := i * 3 + 2) (by omega) nk
                    replace P0 := P0.put (a := i * 3 + 2) (by omega) nk
                    replace B0 := B0.far (g := gb) (i := i * 3 + 2) (by omega) (.int .i64 nk)
                    replace HC := hc_put (c := fun q => if q = i * 3 + 2 then -1 else c q) (i := i) (k := 2) HC (a := i * 3 + 2) (by omega) (v := nk) (by rw [HV.out]; rfl)
                    have HN2 := HN1.out
                    clear hci hzi o0 o1 u0 u1 hbr1 hzr1 a0 a1 HV HN1
                    generalize V3.setCell ⟨gb, i * 3 + 2, none⟩ (.int .i64 nk) = V4 at *
                    obtain ⟨o0, o1, u0, u1, _⟩ := id B0
                    go_upto_region 14 with fail
                    have D := (Below.refl (V4.setCell ⟨gb + 1, 1, none⟩ (.int .i64 (nk + 1))).heap.size (V4.setCell ⟨gb + 1, 1, none⟩ (.int .i64 (nk + 1)))).drew
                    replace I0 := (I0.far (g' := gb + 1) (i := 1) (by omega) (.int .i64 (nk + 1))).below D
                    replace B0 := (B0.set1 (.int .i64 (nk + 1))).below D
                    have hbr3 : Below gb V0 (V4.setCell ⟨gb + 1, 1, none⟩ (.int .i64 (nk + 1))).drew := (hbr2.setCell (p := ⟨gb + 1, 1, none⟩) (by show gb ≤ gb + 1; omega) _).drew
                    have hzr3 : V0.heap.size ≤ (V4.setCell ⟨gb + 1, 1, none⟩ (.int .i64 (nk + 1))).drew.heap.size := Nat.le_trans (by simpa [World.setCell] using hzr2) D.size
                    clear o0 o1 u0 u1 D hbr2 hzr2
                    generalize (V4.setCell ⟨gb + 1, 1, none⟩ (.int .i64 (nk + 1))).drew = V5 at *
                    go_wp2
                    go_roundg (3 - (2 + 1))
                    case measure => rw [HG2.out]; omega
                    case rel => exact ⟨2 + 1, _, by omega, rfl, by go_num, I0, P0, HC, by rw [HN2]; simpa using B0, hbr3, hzr3⟩
              · have e3 : k = 3 := by omega
                subst e3
                have i3 : ¬ (3 : Int) < 3 := by omega
                have h0 := HC 0 (by omega)
                have h1 := HC 1 (by omega)
                have h2 := HC 2 (by omega)
                have HPN2 : Hid (plK js ms (i + 1) = (ps ++ [(vl3 n (b0, b1, true && tv) 0, vl3 n (b0, b1, true && tv) 1, vl3 n (b0, b1, true && tv) 2)], cn3 n (b0, b1, true && tv) 3)) := HPN
                have P1 := P0.snoc (p := (c (i * 3), c (i * 3 + 1), c (i * 3 + 2))) (by rw [hlp]) (by rw [hlp]) (by rw [hlp])
                have e0 : c (i * 3) = _ := h0
                rw [e0, h1, h2] at P1
                clear HPN HC h0 h1 h2 e0 P0
                go_wp2
                go_roundg (A - (i + 1))
                case measure => rw [HG.out]; omega
                case rel => exact ⟨i + 1, _, by omega, rfl, by go_num, I0, by rw [HPN2.out]; exact P1, by rw [HPN2.out]; exact B0, hbr, hzr⟩
    · have e : i = A := by omega
      subst e
      have i1 : ¬ (i : Int) < (i : Int) := by omega
      have hlp := plK_len js ms i
      obtain ⟨pl, hpl⟩ : ∃ p, plK js ms i = p := ⟨_, rfl⟩
      have HPL : Hid (plK js ms i = pl) := hpl
      rw [hpl] at P0 B0 hlp
      have l3 : w.heap.size + 1 < gb := by omega
      have X2 := X1.belowB l3 hbr
      obtain ⟨o0, o1, _, _, _⟩ := id B0
      obtain ⟨r0, r1, u0, u1, _⟩ := id X2
      clear hpl HG
      go_wp2
      refine bodyPost_ret (v := .agg #[.slice (some ⟨gb, 0, none⟩) i i, .int .i64 pl.2]) (by simp [results, Tryz.results18, go_sem, r0, r1]) rfl ⟨gb, by rw [HPL.out], ?_, ?_⟩
      · rw [HPL.out]
        exact p3_ir ((I0.far (by omega) _).far (by omega) _) P0 (by omega)
      · exact below_two18 hbx (by omega) _ _
end Go.Proofs.YtomohmjjaijlbaaGreatDoor

namespace Go.Proofs.YtomohmjjaijlbaaGreatDoor
open Go.RowKit

/-- A plan that may be. -/
theorem cp_facts {js : List Jn} {ms : List Mb} (h : (cpA js ms).1 = 0) : cpA js ms = (0, 0) ∧ js.length ≤ 16 ∧ ms.length ≤ 48 ∧ ∀ k, k < ms.length → mmB js.length (ms.getD k mz) = true := by
  by_cases hc : (ckA js).1 = 0
  · have e : cpA js ms = cmA js.length ms := by unfold cpA; rw [if_pos hc]
    rw [e] at h ⊢
    have h16 : js.length ≤ 16 := by
      rcases Nat.lt_or_ge 16 js.length with q | q
      · rw [ck_long q] at hc
        simp at hc
      · exact q
    rcases Nat.lt_or_ge 48 ms.length with q | q
    · rw [cm_long q] at h
      simp at h
    · unfold cmA at h ⊢
      rw [if_neg (by omega)] at h ⊢
      cases hf : (List.range ms.length).find? (fM js.length ms) with
      | some k =>
        rw [hf] at h
        simp at h
      | none =>
        refine ⟨rfl, h16, q, fun k hk => ?_⟩
        have := List.find?_eq_none.1 hf k (List.mem_range.2 hk)
        unfold fM at this
        simp only [Bool.or_eq_true, Bool.not_eq_true', not_or, Bool.not_eq_true, Bool.not_eq_false] at this
        exact this.2
  · unfold cpA at h
    rw [if_neg hc] at h
    exact absurd h hc
theorem mm_facts {n : Nat} {m : Mb} (h : mmB n m = true) : (0 ≤ m.a ∧ m.a < n) ∧ (0 ≤ m.b ∧ m.b < n) ∧ m.a ≠ m.b ∧ nbB m.e = true ∧ nbB m.ar = true ∧ (m.kd ≠ 1 → nbB m.i = true) := by
  unfold mmB at h
  simp only [Bool.and_eq_true] at h
  obtain ⟨⟨⟨_, h1⟩, h2, h3⟩, h4⟩ := h
  unfold ldB at h1
  simp only [Bool.and_eq_true, decide_eq_true_eq] at h1
  obtain ⟨⟨⟨⟨a1, a2⟩, a3⟩, a4⟩, a5⟩ := h1
  refine ⟨⟨a1, a3⟩, ⟨a2, a4⟩, a5, h2, h3, fun hk => ?_⟩
  unfold kdB at h4
  rw [if_neg hk] at h4
  split at h4
  · exact h4
  · cases h4
theorem en16_of {js : List Jn} {ms : List Mb} (h16 : js.length ≤ 16) (h : ∀ k, k < ms.length → mmB js.length (ms.getD k mz) = true) : En16 ms := fun m hm => by
  obtain ⟨k, hk, rfl⟩ := List.getElem_of_mem hm
  have := mm_facts (h k hk)
  rw [mgetD_at hk] at this
  omega
set_option maxRecDepth 100000 in
set_option maxHeartbeats 8000000 in
theorem bunk_any (js : List Jn) (ms : List Mb) (ao mo : Option Addr) (ac mc : Nat) (w : World) (hr : JRow w ao js) (hw : JWs js) (hn : js.length ≤ 1125899906842624) (mr : MRow w mo ms) (mw : MWs ms) (mn : ms.length ≤ 1125899906842624) :
    Calls Tryz.prog 7 #[.agg #[.slice ao js.length ac, .slice mo ms.length mc]] w (GavePl w (unkA js ms)) := by
  have cc := fun w' (hb : Below w.heap.size w w') => bcheck_any js ms ao mo ac mc w' (hr.below hb) hw hn (mr.below hb) mw mn
  have HU : Hid (unkA js ms = if (cpA js ms).1 = 0 then (plK js ms js.length, 0) else (([], 0), (cpA js ms).1)) := (show _ = _ from rfl)
  have cu : (cpA js ms).1 = 0 → ∀ w', Below w.heap.size w w' → Calls Tryz.prog 18 #[.agg #[.slice ao js.length ac, .slice mo ms.length mc]] w' (fun e w'' => ∃ g, e = .returned (.agg #[.slice (some ⟨g, 0, none⟩) js.length js.length, .int .i64 (plK js ms js.length).2]) ∧ P3Row w'' (some ⟨g, 0, none⟩) (plK js ms js.length).1 ∧ Below w'.heap.size w' w'') := fun h w' hb => by
    obtain ⟨_, f1, f2, f3⟩ := cp_facts h
    exact unknowns_any js ms ao mo ac mc w' (hr.below hb) hw f1 (mr.below hb) mn (en16_of f1 f3)
  obtain ⟨N, hN⟩ : ∃ N, ms.length = N := ⟨_, rfl⟩
  obtain ⟨A, hA⟩ : ∃ A, js.length = A := ⟨_, rfl⟩
  have HL : Hid ((plK js ms A).1.length = A) := plK_len js ms A
  rw [hN] at cc cu ⊢
  rw [hA] at cc cu HU ⊢
  generalize unkA js ms = un at *
  generalize plK js ms A = pk at *
  obtain ⟨⟨c1, c2⟩, hc⟩ : ∃ c, cpA js ms = c := ⟨_, rfl⟩
  rw [hc] at cc HU cu
  simp only at cc HU cu
  have X0 := (PBox.new w (.slice ao A ac) (.slice mo N mc) 25).alloc (.cells #[.slice none 0 0, .int .i64 0] 32)
  have X1 := PBox.new (w.alloc (.cells #[.slice ao A ac, .slice mo N mc] 25)) (.slice none 0 0) (.int .i64 0) 32
  have hs1 : (w.alloc (.cells #[.slice ao A ac, .slice mo N mc] 25)).heap.size = w.heap.size + 1 := by simp
  rw [hs1] at X1
  have hb0 : Below w.heap.size w ((w.alloc (.cells #[.slice ao A ac, .slice mo N mc] 25)).alloc (.cells #[.slice none 0 0, .int .i64 0] 32)) := ((Below.refl _ _).alloc (Nat.le_refl _) _).alloc (by rw [hs1]; omega) _
  clear hN hA hc mr mw mn hn hw hr hs1
  go_enter Tryz.func7, Tryz.ntmps7
  go_upto_region 1 with fail
  generalize (w.alloc (.cells #[.slice ao A ac, .slice mo N mc] 25)).alloc (.cells #[.slice none 0 0, .int .i64 0] 32) = U0 at *
  obtain ⟨x0, x1, _, _, _⟩ := id X0
  go_upto_region 2 with (go_at_call 5; refine (cc _ hb0).mono ?_; rintro e w1 ⟨rfl, b1⟩)
  replace X0 := X0.below b1
  replace X1 := X1.below b1
  have hb1 := hb0.trans (b1.mono hb0.size)
  clear x0 x1 cc hb0 b1
  by_cases hc0 : c1 = 0
  case neg =>
    have hne : (c1 != 0) = true := by simpa using hc0
    have HC2 : Hid (un = (([], 0), c1)) := HU.out.trans (by rw [if_neg hc0])
    obtain ⟨y0, y1, f0, f1, _⟩ := id X1
    clear HU hc0 cu
    go_wp2
    refine bodyPost_ret (v := .tuple #[.agg #[.slice none 0 0, .int .i64 0], .int .i64 c1]) (by simp [results, Tryz.results7, go_sem, y0, y1]) rfl ?_
    rw [HC2.out]
    exact ⟨none, 0, rfl, Or.inl rfl, below_two18 hb1 (by omega) _ _⟩
  subst hc0
  have HC2 : Hid (un = (pk, 0)) := HU.out.trans (by rw [if_pos rfl])
  have cu2 := cu rfl
  clear HU cu
  obtain ⟨x0, x1, _, _, _⟩ := id X0
  go_wp2_with (go_at_call 18; refine (cu2 _ hb1).mono ?_; rintro e w2 ⟨g, rfl, pr, b2⟩; obtain ⟨y0, y1, f0, f1, hlt⟩ := X1.below b2)
  have hb2 := hb1.trans (b2.mono hb1.size)
  refine bodyPost_ret (v := .tuple #[.agg #[.slice (some ⟨g, 0, none⟩) A A, .int .i64 pk.2], .int .i64 0]) (by simp [results, Tryz.results7, go_sem, y0, y1]) rfl ?_
  rw [HC2.out]
  refine ⟨some ⟨g, 0, none⟩, A, by rw [HL.out], ?_, below_two18 hb2 (by omega) _ _⟩
  rcases pr with h | ⟨b, off, e, hc⟩
  · exact Or.inl h
  · cases e
    rcases Nat.eq_zero_or_pos pk.1.length with h0 | h0
    · exact Or.inl h0
    · have hne : g ≠ w.heap.size + 1 := fun q => by
        have h1 := (hc 0 h0).1
        rw [Nat.zero_mul, Nat.zero_add, q, y0] at h1
        cases h1
      have K : ∀ (o : Nat) (u : Value), w2.cell? ⟨g, o, none⟩ = some u → ((w2.setCell ⟨w.heap.size + 1, 0, none⟩ (.slice (some ⟨g, 0, none⟩) A A)).setCell ⟨w.heap.size + 1, 1, none⟩ (.int .i64 pk.2)).cell? ⟨g, o, none⟩ = some u := fun o u h => by simp [go_sem, h]
      refine Or.inr ⟨g, 0, rfl, fun k hk => ?_⟩
      obtain ⟨h1, h2, h3⟩ := hc k hk
      exact ⟨K _ _ h1, K _ _ h2, K _ _ h3⟩
end Go.Proofs.YtomohmjjaijlbaaGreatDoor
