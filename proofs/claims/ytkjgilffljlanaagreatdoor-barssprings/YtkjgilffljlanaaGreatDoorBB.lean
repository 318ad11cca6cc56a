/- What the kit's LentPlan, SamePlan, KeptPlan answer of a plan that stayed. -/
import Derived.Test.YtkjgilffljlanaaGreatDoorBA
import Derived.Test.YtkjgilffljlanaaGreatDoorJC
import Derived.Test.YtkjgilffljlanaaGreatDoorU1
import Derived.Deep.Heap
namespace Go.Proofs.YtkjgilffljlanaaGreatDoor
open Go.RowKit
def mnc : List Mb → List Value
 | [] => []
 | p :: ps => .string p.nm :: .int .u8 p.kd :: .int .i64 p.a :: .int .i64 p.b :: .bool p.ha :: .bool p.hb :: .float .f64 p.e :: .float .f64 p.ar :: .float .f64 p.i :: mnc ps
theorem mnc_len : ∀ ps : List Mb, (mnc ps).length = ps.length * 9
 | [] => rfl
 | _ :: ps => by simp only [mnc, List.length_cons, mnc_len ps]; omega
theorem mnc_app : ∀ ps qs : List Mb, mnc (ps ++ qs) = mnc ps ++ mnc qs
 | [], _ => rfl
 | p :: ps, qs => by simp only [List.cons_append, mnc, mnc_app ps qs]
theorem mnc_one : ∀ (ps : List Mb) (u : Value), u ∈ mnc ps → u.oneCell' = true
 | [], _, h => by cases h
 | p :: ps, u, h => by
  simp only [mnc, List.mem_cons] at h
  rcases h with rfl | rfl | rfl | rfl | rfl | rfl | rfl | rfl | rfl | h
  iterate 9 rfl
  exact mnc_one ps u h
theorem mnc_at : ∀ (ps : List Mb) (j : Nat), j < ps.length → (mnc ps)[j * 9]? = some (.string (ps.getD j mz).nm) ∧ (mnc ps)[j * 9 + 1]? = some (.int .u8 (ps.getD j mz).kd) ∧ (mnc ps)[j * 9 + 2]? = some (.int .i64 (ps.getD j mz).a) ∧ (mnc ps)[j * 9 + 3]? = some (.int .i64 (ps.getD j mz).b) ∧ (mnc ps)[j * 9 + 4]? = some (.bool (ps.getD j mz).ha) ∧ (mnc ps)[j * 9 + 5]? = some (.bool (ps.getD j mz).hb) ∧ (mnc ps)[j * 9 + 6]? = some (.float .f64 (ps.getD j mz).e) ∧ (mnc ps)[j * 9 + 7]? = some (.float .f64 (ps.getD j mz).ar) ∧ (mnc ps)[j * 9 + 8]? = some (.float .f64 (ps.getD j mz).i)
 | [], _, h => by simp at h
 | p :: ps, 0, _ => by simp [mnc]
 | p :: ps, j + 1, h => by
  have := mnc_at ps j (by simpa using h)
  rw [show (j + 1) * 9 = j * 9 + 1 + 1 + 1 + 1 + 1 + 1 + 1 + 1 + 1 by omega]
  simpa [mnc] using this
def mkM (i : Nat) : Mb := ⟨mkT i, 0, 0, 0, false, false, 0, 0, 0⟩
def mmL (n : Nat) : List Mb := (List.range n).map mkM
theorem mmL_len (n : Nat) : (mmL n).length = n := by simp [mmL]
theorem mmL_succ (n : Nat) : mmL (n + 1) = mmL n ++ [mkM n] := by simp [mmL, List.range_succ]
theorem mmL_at {n i : Nat} (h : i < n) : (mmL n).getD i mz = mkM i := by simp [mmL, List.getD_eq_getElem?_getD, h]
def LentM (w : World) (g : Nat) (ps : List Mb) : Prop := w.ownsRow 0 42 9 (.slice (some ⟨g, 0, none⟩) (ps.length + 12) (ps.length + 12)) (ps.length + 12) (mnc (ps ++ mmL 12))
theorem LentM.cell {w : World} {g : Nat} {ps : List Mb} (h : LentM w g ps) {j : Nat} (hj : j < ps.length + 12) : MAt w g (j * 9) ((ps ++ mmL 12).getD j mz) := by
 have e0 := World.ownsRow.cellAt h (j * 9) (by omega)
 have e1 := World.ownsRow.cellAt h (j * 9 + 1) (by omega)
 have e2 := World.ownsRow.cellAt h (j * 9 + 2) (by omega)
 have e3 := World.ownsRow.cellAt h (j * 9 + 3) (by omega)
 have e4 := World.ownsRow.cellAt h (j * 9 + 4) (by omega)
 have e5 := World.ownsRow.cellAt h (j * 9 + 5) (by omega)
 have e6 := World.ownsRow.cellAt h (j * 9 + 6) (by omega)
 have e7 := World.ownsRow.cellAt h (j * 9 + 7) (by omega)
 have e8 := World.ownsRow.cellAt h (j * 9 + 8) (by omega)
 obtain ⟨s0, s1, s2, s3, s4, s5, s6, s7, s8⟩ := mnc_at (ps ++ mmL 12) j (by rw [List.length_append, mmL_len]; exact hj)
 exact ⟨e0.trans s0, e1.trans s1, e2.trans s2, e3.trans s3, e4.trans s4, e5.trans s5, e6.trans s6, e7.trans s7, e8.trans s8⟩
theorem lentM_low {ps : List Mb} {k : Nat} (h : k < ps.length) : (ps ++ mmL 12).getD k mz = ps.getD k mz := by
 rw [List.getD_eq_getElem?_getD, List.getD_eq_getElem?_getD, List.getElem?_append_left h]
theorem lentM_high {ps : List Mb} {k : Nat} (h : ps.length ≤ k) (h2 : k < ps.length + 12) : (ps ++ mmL 12).getD k mz = mkM (k - ps.length) := by
 rw [List.getD_eq_getElem?_getD, List.getElem?_append_right h, ← List.getD_eq_getElem?_getD, mmL_at (by omega)]
theorem LentM.row {w : World} {g : Nat} {ps : List Mb} (h : LentM w g ps) : MRow w (some ⟨g, 0, none⟩) ps := by
 refine Or.inr ⟨g, 0, rfl, fun j hj => ?_⟩
 have := h.cell (j := j) (by omega)
 rw [lentM_low hj] at this
 rw [Nat.zero_add]
 exact this
theorem LentM.lt {w : World} {g : Nat} {ps : List Mb} (h : LentM w g ps) : g < w.heap.size := (h.cell (j := 0) (by omega)).lt
theorem LentM.below {w w' : World} {g : Nat} {ps : List Mb} (h : LentM w g ps) (hb : Below w.heap.size w w') : LentM w' g ps := jrown_below h hb
set_option maxHeartbeats 1000000 in
theorem markmember_any (i : Nat) (hi : i < 12) (w : World) :
  Calls Tryz.prog 28 #[.int .i64 1, .int .i64 i] w fun e w' => e = .returned (mV (mkM i)) ∧ Below w.heap.size w w' := by
 have cm := fun w => marktext_any i hi w
 have hst := run_storef Tryz.prog
 unfold mkM mV
 simp only
 generalize mkT i = s at *
 have X0 := MBox.new w mz 42
 have hb0 : Below w.heap.size w (w.alloc (mO mz 42)) := (Below.refl _ _).alloc (Nat.le_refl _) _
 unfold mO at X0 hb0
 unfold mz at X0 hb0
 simp only at X0 hb0
 go_enter Tryz.func28, Tryz.ntmps28
 go_wp2_with (go_at_call 49; refine (cm _).mono ?_; rintro e w1 ⟨rfl, b1⟩; have X1 := X0.below b1; have hb1 := hb0.trans (b1.mono hb0.size); obtain ⟨⟨x0, x1, x2, x3, x4, x5, x6, x7, x8⟩, f0, f1, f2, f3, f4, f5, f6, f7, f8, xl⟩ := id X1; simp only [Nat.zero_add] at x0 x1 x2 x3 x4 x5 x6 x7 x8)
 exact bodyPost_ret (v := .agg #[.string s, .int .u8 0, .int .i64 0, .int .i64 0, .bool false, .bool false, .float .f64 0, .float .f64 0, .float .f64 0]) (by simp [results, Tryz.results28, go_sem, x0, x1, x2, x3, x4, x5, x6, x7, x8]) rfl ⟨rfl, (((((((((hb1.setCell (p := ⟨w.heap.size, 0, none⟩) (Nat.le_refl _) _).setCell (p := ⟨w.heap.size, 1, none⟩) (Nat.le_refl _) _).setCell (p := ⟨w.heap.size, 2, none⟩) (Nat.le_refl _) _).setCell (p := ⟨w.heap.size, 3, none⟩) (Nat.le_refl _) _).setCell (p := ⟨w.heap.size, 4, none⟩) (Nat.le_refl _) _).setCell (p := ⟨w.heap.size, 5, none⟩) (Nat.le_refl _) _).setCell (p := ⟨w.heap.size, 6, none⟩) (Nat.le_refl _) _).setCell (p := ⟨w.heap.size, 7, none⟩) (Nat.le_refl _) _).setCell (p := ⟨w.heap.size, 8, none⟩) (Nat.le_refl _) _)⟩
theorem Tryz.infoM : (Tryz.prog.info? 42).map (fun i => (i.zero, i.size, i.bytes)) = some (some (.agg #[.string ByteArray.empty, .int .u8 0, .int .i64 0, .int .i64 0, .bool false, .bool false, .float .f64 0, .float .f64 0, .float .f64 0]), 9, 72) := by kernel_rfl
set_option maxRecDepth 100000 in
set_option maxHeartbeats 4000000 in
theorem lentM_any (ps : List Mb) (ao : Option Addr) (cap : Nat) (w : World) (hr : MRow w ao ps) (hs : ao = none → cap = 0 ∧ ps.length = 0) (hn : ps.length ≤ 1954687338268) :
  Calls Tryz.prog 11 #[.slice ao ps.length cap] w fun e w' => e = .returned (.slice (some ⟨w.heap.size, 0, none⟩) ps.length (ps.length + 12)) ∧ LentM w' w.heap.size ps ∧ Below w.heap.size w w' := by
 obtain ⟨i0, hi, hz0, hz1, hz2⟩ := info_span Tryz.infoM
 have hnews : ∀ w1, w.grownBy w1 none → ∀ ad, ao = some ad → ∀ j u, (mnc ps)[j]? = some u → w1.cell? (ad.add j) = some u := by
  intro w1 hg ad e j u hu
  have hj : j < ps.length * 9 := by
   have := (List.getElem?_eq_some_iff.1 hu).1
   rw [mnc_len] at this; exact this
  have hb : Below w.heap.size w w1 := (Below.refl _ _).grown hg (Nat.le_refl _) (fun k hk => by cases hk)
  rcases hr.below hb with h | ⟨b, off, e2, hc⟩
  ·omega
  ·rw [e2] at e
   cases e
   have hadd : (⟨b, off, none⟩ : Addr).add j = ⟨b, off + j, none⟩ := by
    unfold Addr.add
    split
    ·rename_i h; subst h; rfl
    ·rfl
   rw [hadd]
   have g := hc (j / 9) (by omega)
   obtain ⟨s0, s1, s2, s3, s4, s5, s6, s7, s8⟩ := mnc_at ps (j / 9) (by omega)
   obtain ⟨g0, g1, g2, g3, g4, g5, g6, g7, g8⟩ := g
   rcases (show j = j / 9 * 9 ∨ j = j / 9 * 9 + 1 ∨ j = j / 9 * 9 + 2 ∨ j = j / 9 * 9 + 3 ∨ j = j / 9 * 9 + 4 ∨ j = j / 9 * 9 + 5 ∨ j = j / 9 * 9 + 6 ∨ j = j / 9 * 9 + 7 ∨ j = j / 9 * 9 + 8 by omega) with q | q | q | q | q | q | q | q | q
   ·rw [← q] at g0
    rw [← q] at s0
    rw [s0] at hu; cases hu; exact g0
   ·rw [Nat.add_assoc off _ 1, ← q] at g1
    rw [← q] at s1
    rw [s1] at hu; cases hu; exact g1
   ·rw [Nat.add_assoc off _ 2, ← q] at g2
    rw [← q] at s2
    rw [s2] at hu; cases hu; exact g2
   ·rw [Nat.add_assoc off _ 3, ← q] at g3
    rw [← q] at s3
    rw [s3] at hu; cases hu; exact g3
   ·rw [Nat.add_assoc off _ 4, ← q] at g4
    rw [← q] at s4
    rw [s4] at hu; cases hu; exact g4
   ·rw [Nat.add_assoc off _ 5, ← q] at g5
    rw [← q] at s5
    rw [s5] at hu; cases hu; exact g5
   ·rw [Nat.add_assoc off _ 6, ← q] at g6
    rw [← q] at s6
    rw [s6] at hu; cases hu; exact g6
   ·rw [Nat.add_assoc off _ 7, ← q] at g7
    rw [← q] at s7
    rw [s7] at hu; cases hu; exact g7
   ·rw [Nat.add_assoc off _ 8, ← q] at g8
    rw [← q] at s8
    rw [s8] at hu; cases hu; exact g8
 go_enter Tryz.func11, Tryz.ntmps11
 go_wp2_with (first
  | (refine wpList_make_own _ rfl _ _ 23 rfl w.heap.size 42 i0 (.agg #[.string ByteArray.empty, .int .u8 0, .int .i64 0, .int .i64 0, .bool false, .bool false, .float .f64 0, .float .f64 0, .float .f64 0]) 9 Tryz.underlying23 hi hz0 hz1 .i64 .i64 _ (ps.length + 12) rfl rfl (by omega) (by rw [hz2]; omega) (by unfold maxLen; omega) (Nat.le_refl _) ?_; intro w1 hown1 hg1)
  | (at_builtin; refine wpList_append_fits_any _ rfl _ _ 23 rfl w.heap.size 42 i0 9 Tryz.underlying23 hi hz1 w.heap.size 0 (ps.length + 12) [] rfl hown1 ao ps.length cap (mnc ps) rfl (mnc_len ps) (fun h => ⟨(hs h).2, (hs h).1⟩) (hnews _ hg1) (mnc_one _) (by omega) ?_; intro w2 hown2 hg2))
 have hb2 : Below w.heap.size w w2 := ((Below.refl _ _).grown hg1 (Nat.le_refl _) (fun k hk => by cases hk)).grown hg2 (by have := hg1.size; omega) (fun k hk => by cases hk; exact Nat.le_refl _)
 rw [List.nil_append, Nat.zero_add] at hown2
 clear hown1 hg1 hg2 hnews
 go_loopg [4, 3] 12 (fun g i v wr => ∃ k : Nat, k ≤ 12 ∧ g = 12 - k ∧ i = .int .i64 k ∧ v = .slice (some ⟨w.heap.size, 0, none⟩) (ps.length + k) (ps.length + 12) ∧ wr.ownsRow w.heap.size 42 9 (.slice (some ⟨w.heap.size, 0, none⟩) (ps.length + k) (ps.length + 12)) (ps.length + k) (mnc (ps ++ mmL k)) ∧ Below w.heap.size w wr)
 case atStart => exact ⟨0, by omega, rfl, rfl, rfl, by simpa [mmL] using hown2, hb2⟩
 case round =>
  obtain ⟨k, hk, hg, rfl, rfl, hown, hb⟩ := hrel
  clear hown2 hb2
  have hbs := hb.size
  by_cases hlt : k < 12
  ·have j1 : (k : Int) < 12 := by omega
   have hmk := fun w => markmember_any k hlt w
   obtain ⟨x, hx⟩ : ∃ x, mkT k = x := ⟨_, rfl⟩
   unfold mV mkM at hmk
   simp only [hx] at hmk
   have HT : Hid (mnc (ps ++ mmL (k + 1)) = mnc (ps ++ mmL k) ++ [.string x, .int .u8 0, .int .i64 0, .int .i64 0, .bool false, .bool false, .float .f64 0, .float .f64 0, .float .f64 0]) := (show _ = _ by rw [mmL_succ, ← List.append_assoc, mnc_app]; unfold mkM; rw [hx]; rfl)
   clear hx
   go_wp2_with (first
    | (go_at_call 28; refine (hmk _).mono ?_; rintro e w1 ⟨rfl, b1⟩; have hown1 := jrown_below hown b1; have hbb := hb.trans (b1.mono hb.size))
    | (at_builtin; refine wpList_append_fits _ rfl _ _ 23 rfl w.heap.size 42 i0 9 Tryz.underlying23 hi hz1 w.heap.size (ps.length + k) (ps.length + 12) (mnc (ps ++ mmL k)) rfl (hown1.alloc _) ⟨_, 0, none⟩ 1 1 [.string x, .int .u8 0, .int .i64 0, .int .i64 0, .bool false, .bool false, .float .f64 0, .float .f64 0, .float .f64 0] rfl rfl (World.news_of_block (cs := #[.string x, .int .u8 0, .int .i64 0, .int .i64 0, .bool false, .bool false, .float .f64 0, .float .f64 0, .float .f64 0]) (t := 42) (fr := (0, 0)) (heap_alloc_new _ _)) (by simp [Value.oneCell']) (by omega) ?_; intro w3 hown3 hg3))
   have hown4 : w3.ownsRow w.heap.size 42 9 (.slice (some ⟨w.heap.size, 0, none⟩) (ps.length + (k + 1)) (ps.length + 12)) (ps.length + (k + 1)) (mnc (ps ++ mmL (k + 1))) := by rw [HT.out]; exact hown3
   have hb3 : Below w.heap.size w w3 := (hbb.alloc hbb.size _).grown hg3 (by simp; have := hbb.size; omega) (fun k hk => by cases hk; exact Nat.le_refl _)
   clear hown3 hg3 hown hb HT
   go_wp2
   go_roundg (12 - (k + 1))
   case measure => omega
   case rel => exact ⟨k + 1, by omega, rfl, by go_num, by go_num, hown4, hb3⟩
  ·obtain rfl : k = 12 := by omega
   have hL : LentM wr w.heap.size ps := jrown_base hown (Nat.zero_le _)
   have j1 : ((ps.length : Int)) ≤ ((ps.length + 12 : Nat) : Int) := by omega
   go_wp2
   go_ret
   exact ⟨rfl, hL, hb⟩
theorem bsame_self (x : Nat) : sameB x x = true := by unfold sameB; simp
set_option maxHeartbeats 2000000 in
theorem samemem_any (m : Mb) (hm : MW m) (w : World) :
  Calls Tryz.prog 47 #[mV m, mV m] w fun e w' => e = .returned (.bool true) ∧ Below w.heap.size w w' := by
 have X0 := (MBox.new w m 42).alloc (mO m 42)
 have X1 := MBox.new (w.alloc (mO m 42)) m 42
 have hs1 : (w.alloc (mO m 42)).heap.size = w.heap.size + 1 := by simp
 rw [hs1] at X1
 have hb0 : Below w.heap.size w ((w.alloc (mO m 42)).alloc (mO m 42)) := ((Below.refl _ _).alloc (Nat.le_refl _) _).alloc (by rw [hs1]; omega) _
 have ce := fun w' => samef_any m.e m.e hm.e hm.e w'
 have cr := fun w' => samef_any m.ar m.ar hm.ar hm.ar w'
 have ci := fun w' => samef_any m.i m.i hm.i hm.i w'
 rw [bsame_self] at ce cr ci
 clear hm hs1
 obtain ⟨s, kd, xa, xb, ha, hb, xe, xr, xi⟩ := m
 unfold mV
 unfold mO at X0 X1 hb0
 simp only at *
 go_enter Tryz.func47, Tryz.ntmps47
 go_upto_region 1 with fail
 generalize (w.alloc (.cells #[.string s, .int .u8 kd, .int .i64 xa, .int .i64 xb, .bool ha, .bool hb, .float .f64 xe, .float .f64 xr, .float .f64 xi] 42)).alloc (.cells #[.string s, .int .u8 kd, .int .i64 xa, .int .i64 xb, .bool ha, .bool hb, .float .f64 xe, .float .f64 xr, .float .f64 xi] 42) = W0 at *
 obtain ⟨x0, x1, x2, x3, x4, x5, x6, x7, x8⟩ := X0.at0; simp only [Nat.zero_add] at x0 x1 x2 x3 x4 x5 x6 x7 x8
 obtain ⟨y0, y1, y2, y3, y4, y5, y6, y7, y8⟩ := X1.at0; simp only [Nat.zero_add] at y0 y1 y2 y3 y4 y5 y6 y7 y8
 go_wp2_with (first | (go_at_call_of 44 (Value.float FloatKind.f64 xe); refine (ce _).mono ?_; rintro e w1 ⟨rfl, rfl⟩) | (go_at_call_of 44 (Value.float FloatKind.f64 xr); refine (cr _).mono ?_; rintro e w1 ⟨rfl, rfl⟩) | (go_at_call_of 44 (Value.float FloatKind.f64 xi); refine (ci _).mono ?_; rintro e w1 ⟨rfl, rfl⟩))
 go_ret
 exact ⟨rfl, hb0⟩
set_option maxHeartbeats 4000000 in
set_option maxRecDepth 100000 in
theorem keptM_any (ps : List Mb) (ao : Option Addr) (cap g : Nat) (w : World) (hT : TabW w) (hr : MRow w ao ps) (hw : MWs ps) (hl : LentM w g ps) (hn : ps.length ≤ 1954687338268) :
  Calls Tryz.prog 23 #[.slice (some ⟨g, 0, none⟩) ps.length (ps.length + 12), .slice ao ps.length cap] w fun e w' => e = .returned (.bool true) ∧ Below w.heap.size w w' := by
 have HC : Hid (∀ k, k < ps.length + 12 → ∀ w', LentM w' g ps → MAt w' g (k * 9) ((ps ++ mmL 12).getD k mz)) := fun k hk w' h => h.cell hk
 have HL : Hid (∀ k, k < ps.length → (ps ++ mmL 12).getD k mz = ps.getD k mz) := fun k hk => lentM_low hk
 have HH : Hid (∀ k, ps.length ≤ k → k < ps.length + 12 → (ps ++ mmL 12).getD k mz = mkM (k - ps.length)) := fun k h1 h2 => lentM_high h1 h2
 obtain ⟨N, hN⟩ : ∃ N, ps.length = N := ⟨_, rfl⟩
 have HN : Hid (ps.length = N) := hN
 rw [hN] at hn HC HL HH ⊢
 clear hN
 have c0 : ((N : Int) != (N : Int)) = false := by simp
 have c1 : (N : Int) + 12 ≤ ((N + 12 : Nat) : Int) := by omega
 go_enter Tryz.func23, Tryz.ntmps23
 go_wp2
 go_loopg [6] (N + 12) (fun gg i wr => ∃ k : Nat, k ≤ N + 12 ∧ gg = N + 12 - k ∧ i = .int .i64 k ∧ Below w.heap.size w wr)
 case atStart => exact ⟨0, by omega, rfl, rfl, Below.refl _ _⟩
 case round =>
  obtain ⟨k, hk, hg, rfl, hb⟩ := hrel
  have HG : Hid (gk = N + 12 - k) := hg
  clear hg
  have hr2 := hr.below hb
  have hl2 := hl.below hb
  have Tr := tabW_below hT hb
  by_cases hlt : k < N + 12
  ·have gg := HC.out k hlt wr hl2
   have i0 : (k : Int) < ((N + 12 : Nat) : Int) := by omega
   have i0' : (k : Int) < (N : Int) + 12 := by omega
   by_cases hlo : k < N
   ·rcases hr2 with h | ⟨b, off, rfl, hc⟩
    ·exact absurd (HN.out ▸ h) (by omega)
    ·have dm := hc k (by rw [HN.out]; exact hlo)
     rw [HL.out k hlo] at gg
     have hmw := hw.at (k := k) (by rw [HN.out]; exact hlo)
     have heq := samemem_any (ps.getD k mz) hmw
     obtain ⟨m, hx⟩ : ∃ x, ps.getD k mz = x := ⟨_, rfl⟩
     rw [hx] at gg dm heq
     obtain ⟨s, kd, xa, xb, ha, hbb, xe, xr, xi⟩ := m
     unfold mV at heq
     obtain ⟨g0, g1, g2, g3, g4, g5, g6, g7, g8⟩ := gg
     obtain ⟨d0, d1, d2, d3, d4, d5, d6, d7, d8⟩ := dm
     simp only at heq g0 g1 g2 g3 g4 g5 g6 g7 g8 d0 d1 d2 d3 d4 d5 d6 d7 d8
     have i1 : (k : Int) < (N : Int) := by omega
     have i2 : decide ((k : Int) < (N : Int)) = true := decide_eq_true i1
     have i3 : decide (N ≤ k) = false := decide_eq_false (by omega)
     clear hc hx hl hl2 hr HC HL HH HN hmw hw
     go_wp2
     have hne : Nonempty (QOf wr) := QOf.any Tr
     have k0 : ∀ u : QOf wr, u.val.cell? ⟨g, k * 9, none⟩ = some (.string s) := fun u => u.cell g0
     have k1 : ∀ u : QOf wr, u.val.cell? ⟨g, k * 9 + 1, none⟩ = some (.int .u8 kd) := fun u => u.cell g1
     have k2 : ∀ u : QOf wr, u.val.cell? ⟨g, k * 9 + 2, none⟩ = some (.int .i64 xa) := fun u => u.cell g2
     have k3 : ∀ u : QOf wr, u.val.cell? ⟨g, k * 9 + 3, none⟩ = some (.int .i64 xb) := fun u => u.cell g3
     have k4 : ∀ u : QOf wr, u.val.cell? ⟨g, k * 9 + 4, none⟩ = some (.bool ha) := fun u => u.cell g4
     have k5 : ∀ u : QOf wr, u.val.cell? ⟨g, k * 9 + 5, none⟩ = some (.bool hbb) := fun u => u.cell g5
     have k6 : ∀ u : QOf wr, u.val.cell? ⟨g, k * 9 + 6, none⟩ = some (.float .f64 xe) := fun u => u.cell g6
     have k7 : ∀ u : QOf wr, u.val.cell? ⟨g, k * 9 + 7, none⟩ = some (.float .f64 xr) := fun u => u.cell g7
     have k8 : ∀ u : QOf wr, u.val.cell? ⟨g, k * 9 + 8, none⟩ = some (.float .f64 xi) := fun u => u.cell g8
     have l0 : ∀ u : QOf wr, u.val.cell? ⟨b, off + k * 9, none⟩ = some (.string s) := fun u => u.cell d0
     have l1 : ∀ u : QOf wr, u.val.cell? ⟨b, off + k * 9 + 1, none⟩ = some (.int .u8 kd) := fun u => u.cell d1
     have l2 : ∀ u : QOf wr, u.val.cell? ⟨b, off + k * 9 + 2, none⟩ = some (.int .i64 xa) := fun u => u.cell d2
     have l3 : ∀ u : QOf wr, u.val.cell? ⟨b, off + k * 9 + 3, none⟩ = some (.int .i64 xb) := fun u => u.cell d3
     have l4 : ∀ u : QOf wr, u.val.cell? ⟨b, off + k * 9 + 4, none⟩ = some (.bool ha) := fun u => u.cell d4
     have l5 : ∀ u : QOf wr, u.val.cell? ⟨b, off + k * 9 + 5, none⟩ = some (.bool hbb) := fun u => u.cell d5
     have l6 : ∀ u : QOf wr, u.val.cell? ⟨b, off + k * 9 + 6, none⟩ = some (.float .f64 xe) := fun u => u.cell d6
     have l7 : ∀ u : QOf wr, u.val.cell? ⟨b, off + k * 9 + 7, none⟩ = some (.float .f64 xr) := fun u => u.cell d7
     have l8 : ∀ u : QOf wr, u.val.cell? ⟨b, off + k * 9 + 8, none⟩ = some (.float .f64 xi) := fun u => u.cell d8
     refine region_quietO (by kernel_rfl) (by kernel_rfl) Tr (fun O hO => ?_)
     repeat (quiet_step ((go_at_call 47; with_reducible exact quietB_of (heq _))))
     refine wpQuiet_nil ?_
     intro w' hw'
     obtain ⟨u, rfl⟩ := hw'
     have hb' := hb.trans (u.below.mono hb.size)
     go_wp2
     go_roundg (N + 12 - (k + 1))
     case measure => rw [HG.out]; omega
     case rel => exact ⟨k + 1, by omega, rfl, by go_num, hb'⟩
   ·rw [HH.out k (by omega) hlt] at gg
    have hmk := fun w => markmember_any (k - N) (by omega) w
    have hmw : MW (mkM (k - N)) := by
     exact ⟨(by show (8 : Nat) ≤ maxLen; decide), (by show (0 : Nat) < 256; decide), (by show (-9223372036854775808 : Int) ≤ 0; decide), (by show (0 : Int) ≤ 9223372036854775807; decide), (by show (-9223372036854775808 : Int) ≤ 0; decide), (by show (0 : Int) ≤ 9223372036854775807; decide), (by show (0 : Nat) < 18446744073709551616; decide), (by show (0 : Nat) < 18446744073709551616; decide), (by show (0 : Nat) < 18446744073709551616; decide)⟩
    have heq := samemem_any (mkM (k - N)) hmw
    unfold mkM mV at hmk heq
    unfold mkM at gg
    obtain ⟨g0, g1, g2, g3, g4, g5, g6, g7, g8⟩ := gg
    clear hmw
    obtain ⟨x, hx⟩ : ∃ x, mkT (k - N) = x := ⟨_, rfl⟩
    simp only [hx] at hmk heq g0
    simp only at g1 g2 g3 g4 g5 g6 g7 g8
    have e1 : ((k - N : Nat) : Int) = (k : Int) - (N : Int) := by omega
    rw [e1] at hmk
    have e2 : IntKind.i64.wrap ((k : Int) - (N : Int)) = (k : Int) - (N : Int) := by rw [IntKind.wrap_i64]; omega
    have i1 : ¬ (k : Int) < (N : Int) := by omega
    have i2 : decide ((k : Int) < (N : Int)) = false := decide_eq_false i1
    have i3 : decide (N ≤ k) = true := decide_eq_true (by omega)
    have i5 : decide (k < N) = false := decide_eq_false (by omega)
    have i4 : (N : Int) ≤ (k : Int) := by omega
    clear e1 hx hl hl2 hr hr2 HC HL HH HN hw
    go_wp2
    have hne : Nonempty (QOf wr) := QOf.any Tr
    have k0 : ∀ u : QOf wr, u.val.cell? ⟨g, k * 9, none⟩ = some (.string x) := fun u => u.cell g0
    have k1 : ∀ u : QOf wr, u.val.cell? ⟨g, k * 9 + 1, none⟩ = some (.int .u8 0) := fun u => u.cell g1
    have k2 : ∀ u : QOf wr, u.val.cell? ⟨g, k * 9 + 2, none⟩ = some (.int .i64 0) := fun u => u.cell g2
    have k3 : ∀ u : QOf wr, u.val.cell? ⟨g, k * 9 + 3, none⟩ = some (.int .i64 0) := fun u => u.cell g3
    have k4 : ∀ u : QOf wr, u.val.cell? ⟨g, k * 9 + 4, none⟩ = some (.bool false) := fun u => u.cell g4
    have k5 : ∀ u : QOf wr, u.val.cell? ⟨g, k * 9 + 5, none⟩ = some (.bool false) := fun u => u.cell g5
    have k6 : ∀ u : QOf wr, u.val.cell? ⟨g, k * 9 + 6, none⟩ = some (.float .f64 0) := fun u => u.cell g6
    have k7 : ∀ u : QOf wr, u.val.cell? ⟨g, k * 9 + 7, none⟩ = some (.float .f64 0) := fun u => u.cell g7
    have k8 : ∀ u : QOf wr, u.val.cell? ⟨g, k * 9 + 8, none⟩ = some (.float .f64 0) := fun u => u.cell g8
    refine region_quietO (by kernel_rfl) (by kernel_rfl) Tr (fun O hO => ?_)
    repeat (quiet_step (first | (go_at_call 47; with_reducible exact quietB_of (heq _)) | (go_at_call 28; with_reducible exact quietB_of (hmk _))))
    refine wpQuiet_nil ?_
    intro w' hw'
    obtain ⟨u, rfl⟩ := hw'
    have hb' := hb.trans (u.below.mono hb.size)
    go_wp2
    go_roundg (N + 12 - (k + 1))
    case measure => rw [HG.out]; omega
    case rel => exact ⟨k + 1, by omega, rfl, by go_num, hb'⟩
  ·have i0 : ¬ (k : Int) < ((N + 12 : Nat) : Int) := by omega
   have i0' : ¬ (k : Int) < (N : Int) + 12 := by omega
   go_wp2
   go_ret
   exact ⟨rfl, hb⟩
structure PBox (w : World) (b : Nat) (x y : Value) : Prop where
 c0 : w.cell? ⟨b, 0, none⟩ = some x
 c1 : w.cell? ⟨b, 1, none⟩ = some y
 f0 : w.frozen? ⟨b, 0, none⟩ = false
 f1 : w.frozen? ⟨b, 1, none⟩ = false
 lt : b < w.heap.size
theorem PBox.new (w : World) (x y : Value) (t : TypeId) : PBox (w.alloc (.cells #[x, y] t)) w.heap.size x y :=
 ⟨by go_simp, by go_simp, by go_simp, by go_simp, by simp⟩
theorem PBox.below {w w' : World} {b : Nat} {x y : Value} (h : PBox w b x y) (hb : Below w.heap.size w w') : PBox w' b x y :=
 ⟨(hb.cell (p := ⟨b, 0, none⟩) h.lt).trans h.c0, (hb.cell (p := ⟨b, 1, none⟩) h.lt).trans h.c1, (hb.frozen (p := ⟨b, 0, none⟩) h.lt).trans h.f0, (hb.frozen (p := ⟨b, 1, none⟩) h.lt).trans h.f1, Nat.lt_of_lt_of_le h.lt hb.size⟩
theorem PBox.alloc {w : World} {b : Nat} {x y : Value} (h : PBox w b x y) (o : Obj) : PBox (w.alloc o) b x y := h.below ((Below.refl _ _).alloc (Nat.le_refl _) o)
theorem jneq (j : Jn) (w : World) : (binOp .neq 46 (jV j) (jV j)).run Tryz.prog w = .ok (.bool false) w := by
 obtain ⟨s, x, y, f⟩ := j
 unfold jV
 go_simp
 done
set_option maxHeartbeats 2000000 in
set_option maxRecDepth 100000 in
theorem samejs_any (ps : List Jn) (ao bo : Option Addr) (ac bc : Nat) (w : World) (hT : TabW w) (hr : JRow w ao ps) (hs : JRow w bo ps) (hn : ps.length ≤ 1125899906842624) :
  Calls Tryz.prog 45 #[.slice ao ps.length ac, .slice bo ps.length bc] w fun e w' => e = .returned (.bool true) ∧ Below w.heap.size w w' := by
 obtain ⟨N, hN⟩ : ∃ N, ps.length = N := ⟨_, rfl⟩
 have HN : Hid (ps.length = N) := hN
 rw [hN] at hn ⊢
 clear hN
 have c0 : ((N : Int) != (N : Int)) = false := by simp
 go_enter Tryz.func45, Tryz.ntmps45
 go_wp2
 go_loopg [5] N (fun gg i wr => ∃ k : Nat, k ≤ N ∧ gg = N - k ∧ i = .int .i64 k ∧ Below w.heap.size w wr)
 case atStart => exact ⟨0, by omega, rfl, rfl, Below.refl _ _⟩
 case round =>
  obtain ⟨k, hk, hg, rfl, hb⟩ := hrel
  have HG : Hid (gk = N - k) := hg
  clear hg
  have Tr := tabW_below hT hb
  by_cases hlt : k < N
  ·rcases hr.below hb with h | ⟨b, off, rfl, hc⟩
   ·exact absurd (HN.out ▸ h) (by omega)
   ·rcases hs.below hb with h | ⟨b', off', rfl, hd⟩
    ·exact absurd (HN.out ▸ h) (by omega)
    have gm := hc k (by rw [HN.out]; exact hlt)
    have dm := hd k (by rw [HN.out]; exact hlt)
    have heq := jneq (ps.getD k jz)
    obtain ⟨m, hx⟩ : ∃ x, ps.getD k jz = x := ⟨_, rfl⟩
    rw [hx] at gm dm heq
    obtain ⟨s, x, y, f⟩ := m
    unfold jV at heq
    obtain ⟨g0, g1, g2, g3⟩ := gm
    obtain ⟨d0, d1, d2, d3⟩ := dm
    simp only at heq g0 g1 g2 g3 d0 d1 d2 d3
    have i1 : (k : Int) < (N : Int) := by omega
    clear hc hd hx hr hs HN
    go_wp2
    have hne : Nonempty (QOf wr) := QOf.any Tr
    have k0 : ∀ u : QOf wr, u.val.cell? ⟨b, off + k * 4, none⟩ = some (.string s) := fun u => u.cell g0
    have k1 : ∀ u : QOf wr, u.val.cell? ⟨b, off + k * 4 + 1, none⟩ = some (.int .i32 x) := fun u => u.cell g1
    have k2 : ∀ u : QOf wr, u.val.cell? ⟨b, off + k * 4 + 2, none⟩ = some (.int .i32 y) := fun u => u.cell g2
    have k3 : ∀ u : QOf wr, u.val.cell? ⟨b, off + k * 4 + 3, none⟩ = some (.int .u8 f) := fun u => u.cell g3
    have l0 : ∀ u : QOf wr, u.val.cell? ⟨b', off' + k * 4, none⟩ = some (.string s) := fun u => u.cell d0
    have l1 : ∀ u : QOf wr, u.val.cell? ⟨b', off' + k * 4 + 1, none⟩ = some (.int .i32 x) := fun u => u.cell d1
    have l2 : ∀ u : QOf wr, u.val.cell? ⟨b', off' + k * 4 + 2, none⟩ = some (.int .i32 y) := fun u => u.cell d2
    have l3 : ∀ u : QOf wr, u.val.cell? ⟨b', off' + k * 4 + 3, none⟩ = some (.int .u8 f) := fun u => u.cell d3
    refine region_quietO (by kernel_rfl) (by kernel_rfl) Tr (fun O hO => ?_)
    repeat (quiet_step (fail))
    refine wpQuiet_nil ?_
    intro w' hw'
    obtain ⟨u, rfl⟩ := hw'
    have hb' := hb.trans (u.below.mono hb.size)
    go_wp2
    go_roundg (N - (k + 1))
    case measure => rw [HG.out]; omega
    case rel => exact ⟨k + 1, by omega, rfl, by go_num, hb'⟩
  ·have i1 : ¬ (k : Int) < (N : Int) := by omega
   go_wp2
   go_ret
   exact ⟨rfl, hb⟩
set_option maxHeartbeats 2000000 in
set_option maxRecDepth 100000 in
theorem samems_any (ps : List Mb) (ao bo : Option Addr) (ac bc : Nat) (w : World) (hT : TabW w) (hr : MRow w ao ps) (hs : MRow w bo ps) (hw : MWs ps) (hn : ps.length ≤ 1125899906842624) :
  Calls Tryz.prog 46 #[.slice ao ps.length ac, .slice bo ps.length bc] w fun e w' => e = .returned (.bool true) ∧ Below w.heap.size w w' := by
 obtain ⟨N, hN⟩ : ∃ N, ps.length = N := ⟨_, rfl⟩
 have HN : Hid (ps.length = N) := hN
 rw [hN] at hn ⊢
 clear hN
 have c0 : ((N : Int) != (N : Int)) = false := by simp
 go_enter Tryz.func46, Tryz.ntmps46
 go_wp2
 go_loopg [5] N (fun gg i wr => ∃ k : Nat, k ≤ N ∧ gg = N - k ∧ i = .int .i64 k ∧ Below w.heap.size w wr)
 case atStart => exact ⟨0, by omega, rfl, rfl, Below.refl _ _⟩
 case round =>
  obtain ⟨k, hk, hg, rfl, hb⟩ := hrel
  have HG : Hid (gk = N - k) := hg
  clear hg
  have Tr := tabW_below hT hb
  by_cases hlt : k < N
  ·rcases hr.below hb with h | ⟨b, off, rfl, hc⟩
   ·exact absurd (HN.out ▸ h) (by omega)
   ·rcases hs.below hb with h | ⟨b', off', rfl, hd⟩
    ·exact absurd (HN.out ▸ h) (by omega)
    have gm := hc k (by rw [HN.out]; exact hlt)
    have dm := hd k (by rw [HN.out]; exact hlt)
    have heq := samemem_any (ps.getD k mz) (hw.at (k := k) (by rw [HN.out]; exact hlt))
    obtain ⟨m, hx⟩ : ∃ x, ps.getD k mz = x := ⟨_, rfl⟩
    rw [hx] at gm dm heq
    obtain ⟨s, kd, xa, xb, ha, hbb, xe, xr, xi⟩ := m
    unfold mV at heq
    obtain ⟨g0, g1, g2, g3, g4, g5, g6, g7, g8⟩ := gm
    obtain ⟨d0, d1, d2, d3, d4, d5, d6, d7, d8⟩ := dm
    simp only at heq g0 g1 g2 g3 g4 g5 g6 g7 g8 d0 d1 d2 d3 d4 d5 d6 d7 d8
    clear hw
    have i1 : (k : Int) < (N : Int) := by omega
    clear hc hd hx hr hs HN
    go_wp2
    have hne : Nonempty (QOf wr) := QOf.any Tr
    have k0 : ∀ u : QOf wr, u.val.cell? ⟨b, off + k * 9, none⟩ = some (.string s) := fun u => u.cell g0
    have k1 : ∀ u : QOf wr, u.val.cell? ⟨b, off + k * 9 + 1, none⟩ = some (.int .u8 kd) := fun u => u.cell g1
    have k2 : ∀ u : QOf wr, u.val.cell? ⟨b, off + k * 9 + 2, none⟩ = some (.int .i64 xa) := fun u => u.cell g2
    have k3 : ∀ u : QOf wr, u.val.cell? ⟨b, off + k * 9 + 3, none⟩ = some (.int .i64 xb) := fun u => u.cell g3
    have k4 : ∀ u : QOf wr, u.val.cell? ⟨b, off + k * 9 + 4, none⟩ = some (.bool ha) := fun u => u.cell g4
    have k5 : ∀ u : QOf wr, u.val.cell? ⟨b, off + k * 9 + 5, none⟩ = some (.bool hbb) := fun u => u.cell g5
    have k6 : ∀ u : QOf wr, u.val.cell? ⟨b, off + k * 9 + 6, none⟩ = some (.float .f64 xe) := fun u => u.cell g6
    have k7 : ∀ u : QOf wr, u.val.cell? ⟨b, off + k * 9 + 7, none⟩ = some (.float .f64 xr) := fun u => u.cell g7
    have k8 : ∀ u : QOf wr, u.val.cell? ⟨b, off + k * 9 + 8, none⟩ = some (.float .f64 xi) := fun u => u.cell g8
    have l0 : ∀ u : QOf wr, u.val.cell? ⟨b', off' + k * 9, none⟩ = some (.string s) := fun u => u.cell d0
    have l1 : ∀ u : QOf wr, u.val.cell? ⟨b', off' + k * 9 + 1, none⟩ = some (.int .u8 kd) := fun u => u.cell d1
    have l2 : ∀ u : QOf wr, u.val.cell? ⟨b', off' + k * 9 + 2, none⟩ = some (.int .i64 xa) := fun u => u.cell d2
    have l3 : ∀ u : QOf wr, u.val.cell? ⟨b', off' + k * 9 + 3, none⟩ = some (.int .i64 xb) := fun u => u.cell d3
    have l4 : ∀ u : QOf wr, u.val.cell? ⟨b', off' + k * 9 + 4, none⟩ = some (.bool ha) := fun u => u.cell d4
    have l5 : ∀ u : QOf wr, u.val.cell? ⟨b', off' + k * 9 + 5, none⟩ = some (.bool hbb) := fun u => u.cell d5
    have l6 : ∀ u : QOf wr, u.val.cell? ⟨b', off' + k * 9 + 6, none⟩ = some (.float .f64 xe) := fun u => u.cell d6
    have l7 : ∀ u : QOf wr, u.val.cell? ⟨b', off' + k * 9 + 7, none⟩ = some (.float .f64 xr) := fun u => u.cell d7
    have l8 : ∀ u : QOf wr, u.val.cell? ⟨b', off' + k * 9 + 8, none⟩ = some (.float .f64 xi) := fun u => u.cell d8
    refine region_quietO (by kernel_rfl) (by kernel_rfl) Tr (fun O hO => ?_)
    repeat (quiet_step ((go_at_call 47; with_reducible exact quietB_of (heq _))))
    refine wpQuiet_nil ?_
    intro w' hw'
    obtain ⟨u, rfl⟩ := hw'
    have hb' := hb.trans (u.below.mono hb.size)
    go_wp2
    go_roundg (N - (k + 1))
    case measure => rw [HG.out]; omega
    case rel => exact ⟨k + 1, by omega, rfl, by go_num, hb'⟩
  ·have i1 : ¬ (k : Int) < (N : Int) := by omega
   go_wp2
   go_ret
   exact ⟨rfl, hb⟩
theorem PBox.set0 {w : World} {b : Nat} {x y : Value} (h : PBox w b x y) (p : Value) : PBox (w.setCell ⟨b, 0, none⟩ p) b p y := by
 obtain ⟨c0, c1, f0, f1, lt⟩ := h
 exact ⟨by go_simp, by go_simp, by go_simp, by go_simp, by simpa [World.setCell] using lt⟩
theorem PBox.set1 {w : World} {b : Nat} {x y : Value} (h : PBox w b x y) (p : Value) : PBox (w.setCell ⟨b, 1, none⟩ p) b x p := by
 obtain ⟨c0, c1, f0, f1, lt⟩ := h
 exact ⟨by go_simp, by go_simp, by go_simp, by go_simp, by simpa [World.setCell] using lt⟩
theorem PBox.far {w : World} {b g : Nat} {x y : Value} (h : PBox w b x y) (hn : b ≠ g) {i : Nat} (a : Value) : PBox (w.setCell ⟨g, i, none⟩ a) b x y := by
 obtain ⟨c0, c1, f0, f1, lt⟩ := h
 exact ⟨by simp [go_sem, c0], by simp [go_sem, c1], by simp [go_sem, f0], by simp [go_sem, f1], by simpa [World.setCell] using lt⟩
theorem lentJ_set {w : World} {g c o : Nat} {ps : List Jn} (h : LentJ w g ps) (hc : c ≠ g) (v : Value) : LentJ (w.setCell ⟨c, o, none⟩ v) g ps := by
 refine ⟨h.1, ?_⟩
 rcases h.2 with hn | ⟨g', cap, cur, h1, h2, h3, h4⟩
 ·exact Or.inl hn
 ·cases h1
  exact Or.inr ⟨g, _, cur, rfl, h2, by rw [Go.Deep.blk_setCell_other _ _ _ _ (Ne.symm hc)]; exact h3, h4⟩
theorem lentM_set {w : World} {g c o : Nat} {ps : List Mb} (h : LentM w g ps) (hc : c ≠ g) (v : Value) : LentM (w.setCell ⟨c, o, none⟩ v) g ps := by
 refine ⟨h.1, ?_⟩
 rcases h.2 with hn | ⟨g', cap, cur, h1, h2, h3, h4⟩
 ·exact Or.inl hn
 ·cases h1
  exact Or.inr ⟨g, _, cur, rfl, h2, by rw [Go.Deep.blk_setCell_other _ _ _ _ (Ne.symm hc)]; exact h3, h4⟩
set_option maxHeartbeats 2000000 in
theorem lentPlan_any (js : List Jn) (ms : List Mb) (ao mo : Option Addr) (ac mc : Nat) (w : World) (hr : JRow w ao js) (hs : ao = none → ac = 0 ∧ js.length = 0) (hn : js.length ≤ 4398046511104) (mr : MRow w mo ms) (hm : mo = none → mc = 0 ∧ ms.length = 0) (mn : ms.length ≤ 1954687338268) :
  Calls Tryz.prog 4 #[.agg #[.slice ao js.length ac, .slice mo ms.length mc]] w fun e w' => ∃ g1 g2, e = .returned (.agg #[.slice (some ⟨g1, 0, none⟩) js.length (js.length + 12), .slice (some ⟨g2, 0, none⟩) ms.length (ms.length + 12)]) ∧ LentJ w' g1 js ∧ LentM w' g2 ms ∧ Below w.heap.size w w' := by
 have cj := fun w' (h : JRow w' ao js) => lentJ_any js ao ac w' h hs hn
 have cm := fun w' (h : MRow w' mo ms) => lentM_any ms mo mc w' h hm mn
 obtain ⟨N, hN⟩ : ∃ N, ms.length = N := ⟨_, rfl⟩
 obtain ⟨A, hA⟩ : ∃ A, js.length = A := ⟨_, rfl⟩
 rw [hN] at cm mn ⊢
 rw [hA] at cj hn ⊢
 clear hs hm hN hA
 have X0 := (PBox.new w (.slice ao A ac) (.slice mo N mc) 25).alloc (.cells #[.slice none 0 0, .slice none 0 0] 25)
 have X1 := PBox.new (w.alloc (.cells #[.slice ao A ac, .slice mo N mc] 25)) (.slice none 0 0) (.slice none 0 0) 25
 have hs1 : (w.alloc (.cells #[.slice ao A ac, .slice mo N mc] 25)).heap.size = w.heap.size + 1 := by simp
 rw [hs1] at X1
 have hb0 : Below w.heap.size w ((w.alloc (.cells #[.slice ao A ac, .slice mo N mc] 25)).alloc (.cells #[.slice none 0 0, .slice none 0 0] 25)) := ((Below.refl _ _).alloc (Nat.le_refl _) _).alloc (by rw [hs1]; omega) _
 have hz0 : w.heap.size + 2 ≤ ((w.alloc (.cells #[.slice ao A ac, .slice mo N mc] 25)).alloc (.cells #[.slice none 0 0, .slice none 0 0] 25)).heap.size := by simp
 go_enter Tryz.func4, Tryz.ntmps4
 go_upto_region 1 with fail
 clear hs1
 generalize (w.alloc (.cells #[.slice ao A ac, .slice mo N mc] 25)).alloc (.cells #[.slice none 0 0, .slice none 0 0] 25) = U0 at *
 obtain ⟨x0, _, _, _, _⟩ := id X0
 go_upto_region 2 with (go_at_call 10; refine (cj _ (hr.below hb0)).mono ?_; rintro e w1 ⟨rfl, l1, b1⟩; obtain ⟨u0, u1, f0, f1, _⟩ := X0.below b1)
 have hb1 := (hb0.trans (b1.mono hb0.size)).setCell (p := ⟨w.heap.size, 0, none⟩) (Nat.le_refl _) (.slice (some ⟨U0.heap.size, 0, none⟩) A (A + 12))
 have Y0 := (X0.below b1).set0 (.slice (some ⟨U0.heap.size, 0, none⟩) A (A + 12))
 have Y1 := (X1.below b1).far (g := w.heap.size) (i := 0) (by omega) (.slice (some ⟨U0.heap.size, 0, none⟩) A (A + 12))
 have k1 := lentJ_set (c := w.heap.size) (o := 0) l1 (by omega) (.slice (some ⟨U0.heap.size, 0, none⟩) A (A + 12))
 have hz1 : U0.heap.size < (w1.setCell ⟨w.heap.size, 0, none⟩ (.slice (some ⟨U0.heap.size, 0, none⟩) A (A + 12))).heap.size := k1.lt
 clear x0 u0 u1 f0 f1 X0 X1 l1 b1 hb0
 generalize U0.heap.size = g1 at *
 generalize w1.setCell ⟨w.heap.size, 0, none⟩ (.slice (some ⟨g1, 0, none⟩) A (A + 12)) = U1 at *
 obtain ⟨_, y1, _, _, _⟩ := id Y0
 go_upto_region 3 with (go_at_call 11; refine (cm _ (mr.below hb1)).mono ?_; rintro e w2 ⟨rfl, l2, b2⟩; obtain ⟨x0, x1, f0, f1, _⟩ := Y0.below b2)
 have hb2 := (hb1.trans (b2.mono hb1.size)).setCell (p := ⟨w.heap.size, 1, none⟩) (Nat.le_refl _) (.slice (some ⟨U1.heap.size, 0, none⟩) N (N + 12))
 have Z0 := (Y0.below b2).set1 (.slice (some ⟨U1.heap.size, 0, none⟩) N (N + 12))
 have Z1 := (Y1.below b2).far (g := w.heap.size) (i := 1) (by omega) (.slice (some ⟨U1.heap.size, 0, none⟩) N (N + 12))
 have m1 := lentJ_set (c := w.heap.size) (o := 1) (k1.below b2) (by omega) (.slice (some ⟨U1.heap.size, 0, none⟩) N (N + 12))
 have m2 := lentM_set (c := w.heap.size) (o := 1) l2 (by omega) (.slice (some ⟨U1.heap.size, 0, none⟩) N (N + 12))
 have hg2 : w.heap.size + 2 ≤ U1.heap.size := by omega
 clear x0 x1 f0 f1 Y0 Y1 l2 b2 hb1 k1 y1 hz1
 generalize U1.heap.size = g2 at *
 generalize w2.setCell ⟨w.heap.size, 1, none⟩ (.slice (some ⟨g2, 0, none⟩) N (N + 12)) = U2 at *
 obtain ⟨z0, z1, _, _, _⟩ := id Z0
 obtain ⟨o0, o1, q0, q1, _⟩ := id Z1
 go_wp2
 refine bodyPost_ret (v := .agg #[.slice (some ⟨g1, 0, none⟩) A (A + 12), .slice (some ⟨g2, 0, none⟩) N (N + 12)]) (by simp [results, Tryz.results4, go_sem, o0, o1]) rfl ⟨g1, g2, rfl, ?_, ?_, ?_⟩
 ·exact lentJ_set (lentJ_set m1 (by omega) _) (by omega) _
 ·exact lentM_set (lentM_set m2 (by omega) _) (by omega) _
 ·exact (hb2.setCell (by simp) _).setCell (by simp) _
set_option maxHeartbeats 2000000 in
theorem samePlan_any (js : List Jn) (ms : List Mb) (ao mo bo po : Option Addr) (ac mc bc pc : Nat) (w : World) (hT : TabW w) (hr : JRow w ao js) (mr : MRow w mo ms) (hr2 : JRow w bo js) (mr2 : MRow w po ms) (mw : MWs ms) (hn : js.length ≤ 1125899906842624) (mn : ms.length ≤ 1125899906842624) :
  Calls Tryz.prog 21 #[.agg #[.slice ao js.length ac, .slice mo ms.length mc], .agg #[.slice bo js.length bc, .slice po ms.length pc]] w fun e w' => e = .returned (.bool true) ∧ Below w.heap.size w w' := by
 have cj := fun w' (hb : Below w.heap.size w w') => samejs_any js ao bo ac bc w' (tabW_below hT hb) (hr.below hb) (hr2.below hb) hn
 have cm := fun w' (hb : Below w.heap.size w w') => samems_any ms mo po mc pc w' (tabW_below hT hb) (mr.below hb) (mr2.below hb) mw mn
 obtain ⟨N, hN⟩ : ∃ N, ms.length = N := ⟨_, rfl⟩
 obtain ⟨A, hA⟩ : ∃ A, js.length = A := ⟨_, rfl⟩
 rw [hN] at cm mn ⊢
 rw [hA] at cj hn ⊢
 clear hN hA hr mr hr2 mr2 mw
 have X0 := (PBox.new w (.slice ao A ac) (.slice mo N mc) 25).alloc (.cells #[.slice bo A bc, .slice po N pc] 25)
 have X1 := PBox.new (w.alloc (.cells #[.slice ao A ac, .slice mo N mc] 25)) (.slice bo A bc) (.slice po N pc) 25
 have hs1 : (w.alloc (.cells #[.slice ao A ac, .slice mo N mc] 25)).heap.size = w.heap.size + 1 := by simp
 rw [hs1] at X1
 have hb0 : Below w.heap.size w ((w.alloc (.cells #[.slice ao A ac, .slice mo N mc] 25)).alloc (.cells #[.slice bo A bc, .slice po N pc] 25)) := ((Below.refl _ _).alloc (Nat.le_refl _) _).alloc (by rw [hs1]; omega) _
 go_enter Tryz.func21, Tryz.ntmps21
 go_upto_region 1 with fail
 clear hs1
 generalize (w.alloc (.cells #[.slice ao A ac, .slice mo N mc] 25)).alloc (.cells #[.slice bo A bc, .slice po N pc] 25) = U0 at *
 obtain ⟨x0, x1, _, _, _⟩ := id X0
 obtain ⟨y0, y1, _, _, _⟩ := id X1
 go_wp2_with (first | (go_at_call 45; refine (cj _ hb0).mono ?_; rintro e w1 ⟨rfl, b1⟩; have hb1 := hb0.trans (b1.mono hb0.size); obtain ⟨u0, u1, _, _, _⟩ := X0.below b1; obtain ⟨v0, v1, _, _, _⟩ := X1.below b1) | (go_at_call 46; refine (cm _ hb1).mono ?_; rintro e w2 ⟨rfl, b2⟩))
 go_ret
 exact ⟨rfl, hb1.trans (b2.mono hb1.size)⟩
set_option maxHeartbeats 2000000 in
theorem keptPlan_any (js : List Jn) (ms : List Mb) (g1 g2 : Nat) (bo po : Option Addr) (bc pc : Nat) (w : World) (hT : TabW w) (l1 : LentJ w g1 js) (l2 : LentM w g2 ms) (hr2 : JRow w bo js) (mr2 : MRow w po ms) (mw : MWs ms) (hn : js.length ≤ 4398046511104) (mn : ms.length ≤ 1954687338268) :
  Calls Tryz.prog 8 #[.agg #[.slice (some ⟨g1, 0, none⟩) js.length (js.length + 12), .slice (some ⟨g2, 0, none⟩) ms.length (ms.length + 12)], .agg #[.slice bo js.length bc, .slice po ms.length pc]] w fun e w' => e = .returned (.bool true) ∧ Below w.heap.size w w' := by
 have cs := fun w' (hb : Below w.heap.size w w') => samePlan_any js ms (some ⟨g1, 0, none⟩) (some ⟨g2, 0, none⟩) bo po (js.length + 12) (ms.length + 12) bc pc w' (tabW_below hT hb) (l1.below hb).row (l2.below hb).row (hr2.below hb) (mr2.below hb) mw (by omega) (by omega)
 have cj := fun w' (hb : Below w.heap.size w w') => keptJ_any js bo bc g1 w' (tabW_below hT hb) (hr2.below hb) (l1.below hb) hn
 have cm := fun w' (hb : Below w.heap.size w w') => keptM_any ms po pc g2 w' (tabW_below hT hb) (mr2.below hb) mw (l2.below hb) mn
 obtain ⟨N, hN⟩ : ∃ N, ms.length = N := ⟨_, rfl⟩
 obtain ⟨A, hA⟩ : ∃ A, js.length = A := ⟨_, rfl⟩
 rw [hN] at cm cs mn ⊢
 rw [hA] at cj cs hn ⊢
 clear hN hA l1 l2 hr2 mr2 mw
 have X0 := (PBox.new w (.slice (some ⟨g1, 0, none⟩) A (A + 12)) (.slice (some ⟨g2, 0, none⟩) N (N + 12)) 25).alloc (.cells #[.slice bo A bc, .slice po N pc] 25)
 have X1 := PBox.new (w.alloc (.cells #[.slice (some ⟨g1, 0, none⟩) A (A + 12), .slice (some ⟨g2, 0, none⟩) N (N + 12)] 25)) (.slice bo A bc) (.slice po N pc) 25
 have hs1 : (w.alloc (.cells #[.slice (some ⟨g1, 0, none⟩) A (A + 12), .slice (some ⟨g2, 0, none⟩) N (N + 12)] 25)).heap.size = w.heap.size + 1 := by simp
 rw [hs1] at X1
 have hb0 : Below w.heap.size w ((w.alloc (.cells #[.slice (some ⟨g1, 0, none⟩) A (A + 12), .slice (some ⟨g2, 0, none⟩) N (N + 12)] 25)).alloc (.cells #[.slice bo A bc, .slice po N pc] 25)) := ((Below.refl _ _).alloc (Nat.le_refl _) _).alloc (by rw [hs1]; omega) _
 go_enter Tryz.func8, Tryz.ntmps8
 go_upto_region 1 with fail
 clear hs1
 generalize (w.alloc (.cells #[.slice (some ⟨g1, 0, none⟩) A (A + 12), .slice (some ⟨g2, 0, none⟩) N (N + 12)] 25)).alloc (.cells #[.slice bo A bc, .slice po N pc] 25) = U0 at *
 obtain ⟨x0, x1, _, _, _⟩ := id X0
 obtain ⟨y0, y1, _, _, _⟩ := id X1
 go_wp2_with (first | (go_at_call 21; refine (cs _ hb0).mono ?_; rintro e w1 ⟨rfl, b1⟩; have hb1 := hb0.trans (b1.mono hb0.size); have X2 := X0.below b1; have X3 := X1.below b1; obtain ⟨u0, u1, _, _, _⟩ := id X2; obtain ⟨v0, v1, _, _, _⟩ := id X3) | (go_at_call 22; refine (cj _ hb1).mono ?_; rintro e w2 ⟨rfl, b2⟩; have hb2 := hb1.trans (b2.mono hb1.size); obtain ⟨s0, s1, _, _, _⟩ := X2.below b2; obtain ⟨t0, t1, _, _, _⟩ := X3.below b2) | (go_at_call 23; refine (cm _ hb2).mono ?_; rintro e w3 ⟨rfl, b3⟩))
 go_ret
 exact ⟨rfl, hb2.trans (b3.mono hb2.size)⟩
end Go.Proofs.YtkjgilffljlanaaGreatDoor
