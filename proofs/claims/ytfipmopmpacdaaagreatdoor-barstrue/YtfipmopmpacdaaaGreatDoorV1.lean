/- What the statements' own 'same' and 'made' answer. -/
import Derived.Test.YtfipmopmpacdaaaGreatDoorZp
namespace Go.Proofs.YtfipmopmpacdaaaGreatDoor
open Go.RowKit
set_option maxHeartbeats 1000000 in
theorem add_left0 (n1 n2 : Bool) (m1 m2 : List Nat) (e1 e2 : Int) (ao bo : Option Addr) (cap bcap : Nat) (w : World) (hs : LRow w bo m2) (h0 : m1.length = 0) (hn : m2.length ≤ 256) :
  Calls Tryz.prog 114 #[.agg #[.bool n1, .slice ao m1.length cap, .int .i64 e1], .agg #[.bool n2, .slice bo m2.length bcap, .int .i64 e2]] w (Gave w (⟨n2, m2, e2⟩, 0)) := by
 have h1 : ((m1.length : Int) == 0) = true := beq_iff_eq.2 (by omega)
 clear h0
 go_enter Tryz.func114, Tryz.ntmps114
 go_wp2_with (go_at_call 125; refine (copied_any ⟨n2, m2, e2⟩ bo bcap _ (((hs.alloc _).alloc _).alloc _) (by simp only; omega)).mono ?_; rintro e w1 ⟨ao', cap', rfl, hrow, hfr, hb1⟩; obtain ⟨_, ⟨z0, z1, z2⟩, ⟨f0, f1, f2⟩, ho1⟩ := box3 hb1)
 have hfr5 : Frs (w.heap.size + 3) ao' := hfr.mono (by go_simp)
 exact bodyPost_ret (v := .tuple #[.agg #[.bool n2, .slice ao' m2.length cap', .int .i64 e2], .int .i64 0]) (by simp [results, Tryz.results114, go_sem, z0, z1, z2]) rfl ⟨ao', cap', rfl, ((hrow.box hfr5 (by omega) _ _).box hfr5 (by omega) _ _).box hfr5 (by omega) _ _, hfr5.mono (by omega), ((ho1.setCell (by simp; omega) _).setCell (by simp; omega) _).setCell (by simp; omega) _⟩
set_option maxHeartbeats 1000000 in
theorem add_right0 (n1 n2 : Bool) (m1 m2 : List Nat) (e1 e2 : Int) (ao bo : Option Addr) (cap bcap : Nat) (w : World) (hr : LRow w ao m1) (h0 : m2.length = 0) (hn0 : m1.length ≠ 0) (hn : m1.length ≤ 256) :
  Calls Tryz.prog 114 #[.agg #[.bool n1, .slice ao m1.length cap, .int .i64 e1], .agg #[.bool n2, .slice bo m2.length bcap, .int .i64 e2]] w (Gave w (⟨n1, m1, e1⟩, 0)) := by
 have h1 : ((m2.length : Int) == 0) = true := beq_iff_eq.2 (by omega)
 have h2 : ((m1.length : Int) == 0) = false := beq_eq_false_iff_ne.2 (by omega)
 clear h0
 go_enter Tryz.func114, Tryz.ntmps114
 go_wp2_with (go_at_call 125; refine (copied_any ⟨n1, m1, e1⟩ ao cap _ (((hr.alloc _).alloc _).alloc _) (by simp only; omega)).mono ?_; rintro e w1 ⟨ao', cap', rfl, hrow, hfr, hb1⟩; obtain ⟨_, ⟨z0, z1, z2⟩, ⟨f0, f1, f2⟩, ho1⟩ := box3 hb1)
 have hfr5 : Frs (w.heap.size + 3) ao' := hfr.mono (by go_simp)
 exact bodyPost_ret (v := .tuple #[.agg #[.bool n1, .slice ao' m1.length cap', .int .i64 e1], .int .i64 0]) (by simp [results, Tryz.results114, go_sem, z0, z1, z2]) rfl ⟨ao', cap', rfl, ((hrow.box hfr5 (by omega) _ _).box hfr5 (by omega) _ _).box hfr5 (by omega) _ _, hfr5.mono (by omega), ((ho1.setCell (by simp; omega) _).setCell (by simp; omega) _).setCell (by simp; omega) _⟩
theorem three_box (w : World) (x0 x1 x2 y0 y1 y2 z0 z1 z2 : Value) (s t u : TypeId) :
  let W := (((w.alloc (.cells #[x0, x1, x2] s)).alloc (.cells #[y0, y1, y2] t)).alloc (.cells #[z0, z1, z2] u)).drew
  W.cell? ⟨w.heap.size, 0, none⟩ = some x0 ∧ W.cell? ⟨w.heap.size, 1, none⟩ = some x1 ∧ W.cell? ⟨w.heap.size, 2, none⟩ = some x2 ∧ W.cell? ⟨w.heap.size + 1, 0, none⟩ = some y0 ∧ W.cell? ⟨w.heap.size + 1, 1, none⟩ = some y1 ∧ W.cell? ⟨w.heap.size + 1, 2, none⟩ = some y2 := by
 refine ⟨?_, ?_, ?_, ?_, ?_, ?_⟩ <;> go_simp
theorem box3m {w w1 : World} {x0 x1 x2 y0 y1 y2 z0 z1 z2 : Value} {s t u : TypeId} (hb : Below (((w.alloc (.cells #[x0, x1, x2] s)).alloc (.cells #[y0, y1, y2] t)).alloc (.cells #[z0, z1, z2] u)).heap.size (((w.alloc (.cells #[x0, x1, x2] s)).alloc (.cells #[y0, y1, y2] t)).alloc (.cells #[z0, z1, z2] u)) w1) :
  (w1.frozen? ⟨w.heap.size, 0, none⟩ = false ∧ w1.frozen? ⟨w.heap.size, 1, none⟩ = false ∧ w1.frozen? ⟨w.heap.size, 2, none⟩ = false) ∧ (w1.frozen? ⟨w.heap.size + 1, 0, none⟩ = false ∧ w1.frozen? ⟨w.heap.size + 1, 1, none⟩ = false ∧ w1.frozen? ⟨w.heap.size + 1, 2, none⟩ = false) := by
 obtain ⟨hc, hf⟩ := oldc hb
 have l0 : w.heap.size < (((w.alloc (.cells #[x0, x1, x2] s)).alloc (.cells #[y0, y1, y2] t)).alloc (.cells #[z0, z1, z2] u)).heap.size := by go_simp
 have l1 : w.heap.size + 1 < (((w.alloc (.cells #[x0, x1, x2] s)).alloc (.cells #[y0, y1, y2] t)).alloc (.cells #[z0, z1, z2] u)).heap.size := by go_simp
 refine ⟨⟨?_, ?_, ?_⟩, ?_, ?_, ?_⟩
 ·rw [hf _ _ l0]; go_simp
 ·rw [hf _ _ l0]; go_simp
 ·rw [hf _ _ l0]; go_simp
 ·rw [hf _ _ l1]; go_simp
 ·rw [hf _ _ l1]; go_simp
 ·rw [hf _ _ l1]; go_simp
abbrev box3W (w : World) (n1 n2 : Bool) (l1 l2 : Nat) (e1 e2 : Int) (ao bo : Option Addr) (cap bcap : Nat) : World :=
 ((w.alloc (.cells #[.bool n1, .slice ao l1 cap, .int .i64 e1] 145)).alloc (.cells #[.bool n2, .slice bo l2 bcap, .int .i64 e2] 145)).alloc (.cells #[.bool false, .slice none 0 0, .int .i64 0] 145)
theorem swap_box {w1 : World} {p : Nat} {x0 x1 x2 y0 y1 y2 z0 z1 z2 : Value} (a0 a1 a2 b0 b1 b2 : Value)
  (hx : w1.cell? ⟨p, 0, none⟩ = some x0 ∧ w1.cell? ⟨p, 1, none⟩ = some x1 ∧ w1.cell? ⟨p, 2, none⟩ = some x2 ∧ w1.cell? ⟨p + 1, 0, none⟩ = some y0 ∧ w1.cell? ⟨p + 1, 1, none⟩ = some y1 ∧ w1.cell? ⟨p + 1, 2, none⟩ = some y2)
  (hz : w1.cell? ⟨p + 1 + 1, 0, none⟩ = some z0 ∧ w1.cell? ⟨p + 1 + 1, 1, none⟩ = some z1 ∧ w1.cell? ⟨p + 1 + 1, 2, none⟩ = some z2)
  (hm : w1.frozen? ⟨p + 1 + 1, 0, none⟩ = false ∧ w1.frozen? ⟨p + 1 + 1, 1, none⟩ = false ∧ w1.frozen? ⟨p + 1 + 1, 2, none⟩ = false) (wS : World)
  (hS : wS = (((((w1.setCell ⟨p, 0, none⟩ a0).setCell ⟨p, 1, none⟩ a1).setCell ⟨p, 2, none⟩ a2).setCell ⟨p + 1, 0, none⟩ b0).setCell ⟨p + 1, 1, none⟩ b1).setCell ⟨p + 1, 2, none⟩ b2) :
  (wS.cell? ⟨p, 0, none⟩ = some a0 ∧ wS.cell? ⟨p, 1, none⟩ = some a1 ∧ wS.cell? ⟨p, 2, none⟩ = some a2 ∧ wS.cell? ⟨p + 1, 0, none⟩ = some b0 ∧ wS.cell? ⟨p + 1, 1, none⟩ = some b1 ∧ wS.cell? ⟨p + 1, 2, none⟩ = some b2) ∧
  (wS.cell? ⟨p + 1 + 1, 0, none⟩ = some z0 ∧ wS.cell? ⟨p + 1 + 1, 1, none⟩ = some z1 ∧ wS.cell? ⟨p + 1 + 1, 2, none⟩ = some z2) ∧
  (wS.frozen? ⟨p + 1 + 1, 0, none⟩ = false ∧ wS.frozen? ⟨p + 1 + 1, 1, none⟩ = false ∧ wS.frozen? ⟨p + 1 + 1, 2, none⟩ = false) := by
 obtain ⟨i0, i1, i2, i3, i4, i5⟩ := hx
 obtain ⟨i6, i7, i8⟩ := hz
 obtain ⟨i9, i10, i11⟩ := hm
 have ne1 : ¬ p = p + 1 + 1 := by omega
 have ne2 : ¬ p + 1 + 1 = p := by omega
 subst hS
 refine ⟨⟨?_, ?_, ?_, ?_, ?_, ?_⟩, ⟨?_, ?_, ?_⟩, ?_, ?_, ?_⟩ <;> go_simp
theorem sz_at {d : Dy} {low : Int} (h1 : -65536 ≤ low) (h2 : low ≤ d.exp) : sz d = atL d low * 2 ^ (low + 65536).toNat := by
 unfold sz atL
 rw [Nat.mul_assoc, ← Nat.pow_add, show (d.exp - low).toNat + (low + 65536).toNat = (d.exp + 65536).toNat by omega]
structure Tail (w : World) (low W : Int) (r : Dy × Int) (st : Bool) (x y : Dy) (ax ay : Option Addr) (cx cy : Nat) (wx : World) : Prop where
 cells : wx.cell? ⟨w.heap.size, 0, none⟩ = some (.bool x.neg) ∧ wx.cell? ⟨w.heap.size, 1, none⟩ = some (.slice ax x.mag.length cx) ∧ wx.cell? ⟨w.heap.size, 2, none⟩ = some (.int .i64 x.exp) ∧ wx.cell? ⟨w.heap.size + 1, 0, none⟩ = some (.bool y.neg) ∧ wx.cell? ⟨w.heap.size + 1, 1, none⟩ = some (.slice ay y.mag.length cy) ∧ wx.cell? ⟨w.heap.size + 1, 2, none⟩ = some (.int .i64 y.exp)
 out : wx.cell? ⟨w.heap.size + 1 + 1, 0, none⟩ = some (.bool false) ∧ wx.cell? ⟨w.heap.size + 1 + 1, 1, none⟩ = some (.slice none 0 0) ∧ wx.cell? ⟨w.heap.size + 1 + 1, 2, none⟩ = some (.int .i64 0)
 marks : wx.frozen? ⟨w.heap.size + 1 + 1, 0, none⟩ = false ∧ wx.frozen? ⟨w.heap.size + 1 + 1, 1, none⟩ = false ∧ wx.frozen? ⟨w.heap.size + 1 + 1, 2, none⟩ = false
 rx : LRow w ax x.mag
 ry : LRow w ay y.mag
 lx : Lm x.mag
 ly : Lm y.mag
 x0 : vl x.mag ≠ 0
 y0 : vl y.mag ≠ 0
 ex : low ≤ x.exp ∧ x.exp ≤ 65536
 ey : low ≤ y.exp ∧ y.exp ≤ 65536
 widx : (bl (vl x.mag) : Int) + x.exp - low ≤ W
 widy : (bl (vl y.mag) : Int) + y.exp - low ≤ W
 old : Below w.heap.size w wx
 answer : (st = true → ∀ zs, vl zs = atL x low + atL y low → normD ⟨x.neg, zs, low⟩ = r) ∧ (st = false → atL y low ≤ atL x low ∧ ∀ zs, vl zs + atL y low = atL x low → normD ⟨x.neg, zs, low⟩ = r)
set_option maxHeartbeats 2000000 in
set_option maxRecDepth 100000 in
theorem add_both (n1 n2 : Bool) (m1 m2 : List Nat) (e1 e2 : Int) (ao bo : Option Addr) (cap bcap : Nat) (w : World) (hr : LRow w ao m1) (hs : LRow w bo m2) (la : Lm m1) (lb : Lm m2) (hT : TabW w)
    (ra : rightB ⟨n1, m1, e1⟩ = true) (rb : rightB ⟨n2, m2, e2⟩ = true) (hn1 : m1.length ≠ 0) (hn2 : m2.length ≠ 0) :
    Calls Tryz.prog 114 #[.agg #[.bool n1, .slice ao m1.length cap, .int .i64 e1], .agg #[.bool n2, .slice bo m2.length bcap, .int .i64 e2]] w (Gave w (addD ⟨n1, m1, e1⟩ ⟨n2, m2, e2⟩)) := by
  have h1 : ((m1.length : Int) == 0) = false := beq_eq_false_iff_ne.2 (by omega)
  have h2 : ((m2.length : Int) == 0) = false := beq_eq_false_iff_ne.2 (by omega)
  have xa := right_exp ra
  have xb := right_exp rb
  simp only at xa xb
  have hba : bl (vl m1) ≤ 64 * 256 := bl_limbs la xa.2.2
  have hbb : bl (vl m2) ≤ 64 * 256 := bl_limbs lb xb.2.2
  obtain ⟨low, hlow⟩ : ∃ low, low = min e1 e2 := ⟨_, rfl⟩
  obtain ⟨W, hW⟩ : ∃ W, W = max ((bl (vl m1) : Int) + e1) ((bl (vl m2) : Int) + e2) - low := ⟨_, rfl⟩
  have HL : Hid (low = min e1 e2) := hlow
  have HW : Hid (W = max ((bl (vl m1) : Int) + e1) ((bl (vl m2) : Int) + e2) - low) := hW
  clear hlow hW
  obtain ⟨⟨⟨rn, rm, re⟩, rk⟩, hrr⟩ : ∃ r, addD ⟨n1, m1, e1⟩ ⟨n2, m2, e2⟩ = r := ⟨_, rfl⟩
  have HWd : Hid (16448 < W → (⟨rn, rm, re⟩, rk) = (dy0, (3 : Int))) := fun hw => by
    have h3 := HW.out
    have h4 := HL.out
    rw [← hrr]
    by_cases he : e1 ≤ e2
    · exact add_wide ra rb la lb hn1 hn2 (low := low) (by simp only; omega) he (by simp only; omega)
    · rw [add_comm']
      exact add_wide rb ra lb la hn2 hn1 (low := low) (by simp only; omega) (by simp only; omega) (by simp only; omega)
  have hl1 : low ≤ e1 := by have := HL.out; omega
  have hl2 : low ≤ e2 := by have := HL.out; omega
  have hl3 : -65536 ≤ low := by have := HL.out; omega
  have hW0 : 0 ≤ W := by have := HL.out; have := HW.out; omega
  have HS : Hid (n1 = n2 → ∀ zs, vl zs = atL ⟨n1, m1, e1⟩ low + atL ⟨n2, m2, e2⟩ low → normD ⟨n1, zs, low⟩ = (⟨rn, rm, re⟩, rk)) := fun hn zs hz => by
    rw [← hrr]; exact add_like ra rb hl3 hl1 hl2 hn hz
  have HD1 : Hid (n1 ≠ n2 → ∀ zs, vl zs + atL ⟨n2, m2, e2⟩ low = atL ⟨n1, m1, e1⟩ low → normD ⟨n1, zs, low⟩ = (⟨rn, rm, re⟩, rk)) := fun hn zs hz => by
    rw [← hrr]; exact add_unlike ra rb hl3 hl1 hl2 (by simp only; cases n1 <;> cases n2 <;> simp_all) hz
  have HD2 : Hid (n1 ≠ n2 → ∀ zs, vl zs + atL ⟨n1, m1, e1⟩ low = atL ⟨n2, m2, e2⟩ low → normD ⟨n2, zs, low⟩ = (⟨rn, rm, re⟩, rk)) := fun hn zs hz => by
    rw [← hrr, add_comm']; exact add_unlike rb ra hl3 hl2 hl1 (by simp only; cases n1 <;> cases n2 <;> simp_all) hz
  rw [hrr]
  clear hrr
  have hrW := fun o1 o2 o3 => (((hr.alloc o1).alloc o2).alloc o3).drew
  have hsW := fun o1 o2 o3 => (((hs.alloc o1).alloc o2).alloc o3).drew
  go_enter Tryz.func114, Tryz.ntmps114
  go_upto_region 5 with fail
  go_cut [28, 29, 30, 31, 32, 6] (fun _ _ _ _ _ t wx => t = .int .i64 low ∧ wx = box3W w n1 n2 m1.length m2.length e1 e2 ao bo cap bcap)
  case first =>
    go_wp2_with fail
    all_goals
      go_meet
      exact ⟨by rw [HL.out]; congr 1; omega, rfl⟩
  obtain ⟨rfl, rfl⟩ := hcut
  go_upto_region 6 with fail
  go_cut [33, 34, 35, 36, 37, 38, 39, 7] (fun _ _ _ _ _ _ _ t wx => t = .int .i64 W ∧ Below (box3W w n1 n2 m1.length m2.length e1 e2 ao bo cap bcap).heap.size (box3W w n1 n2 m1.length m2.length e1 e2 ao bo cap bcap) wx)
  case first =>
    go_region_held3 (fun w' => w'.cell? ⟨w.heap.size, 0, none⟩ = some (.bool n1) ∧ w'.cell? ⟨w.heap.size, 1, none⟩ = some (.slice ao m1.length cap) ∧ w'.cell? ⟨w.heap.size, 2, none⟩ = some (.int .i64 e1) ∧ w'.cell? ⟨w.heap.size + 1, 0, none⟩ = some (.bool n2) ∧ w'.cell? ⟨w.heap.size + 1, 1, none⟩ = some (.slice bo m2.length bcap) ∧ w'.cell? ⟨w.heap.size + 1, 2, none⟩ = some (.int .i64 e2)) (go_keep)
      (first | (go_at_call_of 126 (Value.agg #[Value.bool n1, Value.slice ao m1.length cap, Value.int IntKind.i64 e1]); refine (top_any ⟨n1, m1, e1⟩ ao cap _ (by first | assumption | exact hrW _ _ _) la (by simp only; omega) (by simp only; omega) (by simp only; omega)).mono ?_; rintro e wa ⟨rfl, ha⟩; have ka : LRow wa bo m2 := LRow.below (by first | assumption | exact hsW _ _ _) ha; have ka' : LRow wa ao m1 := LRow.below (by first | assumption | exact hrW _ _ _) ha; obtain ⟨c0, c1, c2, d0, d1, d2⟩ := six_on (p := w.heap.size) (q := w.heap.size + 1) ha (by first | exact three_box _ _ _ _ _ _ _ _ _ _ _ _ _ | (refine ⟨?_, ?_, ?_, ?_, ?_, ?_⟩ <;> assumption))) | (go_at_call_of 126 (Value.agg #[Value.bool n2, Value.slice bo m2.length bcap, Value.int IntKind.i64 e2]); refine (top_any ⟨n2, m2, e2⟩ bo bcap _ (by first | assumption | exact hsW _ _ _) lb (by simp only; omega) (by simp only; omega) (by simp only; omega)).mono ?_; rintro e wb ⟨rfl, hb⟩; have kb : LRow wb ao m1 := LRow.below (by first | assumption | exact hrW _ _ _) hb; have kb' : LRow wb bo m2 := LRow.below (by first | assumption | exact hsW _ _ _) hb; obtain ⟨c0, c1, c2, d0, d1, d2⟩ := six_on (p := w.heap.size) (q := w.heap.size + 1) hb (by first | exact three_box _ _ _ _ _ _ _ _ _ _ _ _ _ | (refine ⟨?_, ?_, ?_, ?_, ?_, ?_⟩ <;> assumption))))
    all_goals go_wp2_with fail
    all_goals go_meet
    all_goals
      first | exact ⟨congrArg (Value.int .i64) (by have h3 := HW.out; have h4 := HL.out; first | omega | (rw [IntKind.wrap_i64]; first | omega | (split <;> omega))), (undrew ha).trans (hb.mono (undrew ha).size)⟩ | exact ⟨congrArg (Value.int .i64) (by have h3 := HW.out; have h4 := HL.out; first | omega | (rw [IntKind.wrap_i64]; first | omega | (split <;> omega))), (undrew hb).trans (ha.mono (undrew hb).size)⟩
  obtain ⟨rfl, hbx⟩ := hcut
  obtain ⟨wq, hwq⟩ : ∃ wq, wq = wc := ⟨_, rfl⟩
  subst hwq
  obtain ⟨⟨c0, c1, c2, d0, d1, d2⟩, ⟨z0, z1, z2⟩, ⟨f0, f1, f2⟩, ho⟩ := box3 hbx
  obtain ⟨⟨ga0, ga1, ga2⟩, gb0, gb1, gb2⟩ := box3m hbx
  clear hrW hsW hbx
  by_cases hw : 16448 < W
  · have he := HWd.out hw
    simp only [dy0, Prod.mk.injEq, Dy.mk.injEq] at he
    obtain ⟨⟨rfl, rfl, rfl⟩, rfl⟩ := he
    go_wp2
    exact bodyPost_ret (v := .tuple #[.agg #[.bool false, .slice none 0 0, .int .i64 0], .int .i64 3]) (by simp [results, Tryz.results114, go_sem, z0, z1, z2]) rfl ⟨none, 0, rfl, LRow.nil _ _, Frs.none _, ((ho.setCell (by simp; omega) _).setCell (by simp; omega) _).setCell (by simp; omega) _⟩
  · obtain ⟨a0, _⟩ := right_ne ra hn1
    obtain ⟨b0, _⟩ := right_ne rb hn2
    simp only at a0 b0
    have wA : (bl (vl m1) : Int) + e1 - low ≤ W := by have h3 := HW.out; omega
    have wB : (bl (vl m2) : Int) + e2 - low ≤ W := by have h3 := HW.out; omega
    have hrx := hr.below ho
    have hsx := hs.below ho
    clear HWd HL HW
    go_upto_if 47 with fail
    go_cut [8, 48, 49, 50, 51, 52, 53] (fun s8 _ _ _ _ _ _ wx => ∃ (st : Bool) (x y : Dy) (ax ay : Option Addr) (cx cy : Nat), s8 = .func (Fn.func (if st then 127 else 128)) #[] #[] ∧ Tail w low W (⟨rn, rm, re⟩, rk) st x y ax ay cx cy wx)
    case first =>
     as_aux_lemma =>
      by_cases hn : n1 = n2
      · have HT : Hid (Tail w low W (⟨rn, rm, re⟩, rk) true ⟨n1, m1, e1⟩ ⟨n2, m2, e2⟩ ao bo cap bcap wq) := (show Tail w low W (⟨rn, rm, re⟩, rk) true ⟨n1, m1, e1⟩ ⟨n2, m2, e2⟩ ao bo cap bcap wq from ⟨⟨c0, c1, c2, d0, d1, d2⟩, ⟨z0, z1, z2⟩, ⟨f0, f1, f2⟩, hr, hs, la, lb, a0, b0, ⟨hl1, by simp only; omega⟩, ⟨hl2, by simp only; omega⟩, wA, wB, ho, ⟨fun _ => HS.out hn, fun h => by cases h⟩⟩)
        clear HS HD1 HD2
        cases n1 <;> cases n2
        · go_wp2_with fail
          go_meet
          exact ⟨true, ⟨false, m1, e1⟩, ⟨false, m2, e2⟩, ao, bo, cap, bcap, rfl, HT.out⟩
        · cases hn
        · cases hn
        · go_wp2_with fail
          go_meet
          exact ⟨true, ⟨true, m1, e1⟩, ⟨true, m2, e2⟩, ao, bo, cap, bcap, rfl, HT.out⟩
      · have HZ : Hid (sz ⟨n1, m1, e1⟩ = atL ⟨n1, m1, e1⟩ low * 2 ^ (low + 65536).toNat ∧ sz ⟨n2, m2, e2⟩ = atL ⟨n2, m2, e2⟩ low * 2 ^ (low + 65536).toNat) := ⟨sz_at hl3 hl1, sz_at hl3 hl2⟩
        have hcs := cmpSizes_any ⟨n1, m1, e1⟩ ⟨n2, m2, e2⟩ ao bo cap bcap wq hrx hsx la lb xa.2.2 xb.2.2 a0 b0 (by simp only; omega) (by simp only; omega) (by simp only; omega) (by simp only; omega)
        have hD1 : Hid _ := HD1.out hn
        have hD2 : Hid _ := HD2.out hn
        have hne : (!(n1 == n2)) = true := by simp [hn]
        have hne' : (n1 == n2) = false := by simp [hn]
        clear HS HD1 HD2 hn
        by_cases hlt : sz ⟨n1, m1, e1⟩ < sz ⟨n2, m2, e2⟩
        · have hc : cmpI (sz ⟨n1, m1, e1⟩) (sz ⟨n2, m2, e2⟩) = -1 := cmpI_lt (by omega)
          have HLT : Hid (atL ⟨n1, m1, e1⟩ low ≤ atL ⟨n2, m2, e2⟩ low) := (show _ ≤ _ by have h := HZ.out; rw [h.1, h.2] at hlt; exact Nat.le_of_lt (Nat.lt_of_mul_lt_mul_right hlt))
          rw [hc] at hcs
          clear hlt hc HZ
          cases n1 <;> cases n2
          · simp at hne
          · go_wp2_with (go_at_call 129; refine hcs.mono ?_; rintro e w1 ⟨rfl, hb1⟩; obtain ⟨k0, k1, k2, j0, j1, j2⟩ := six_on (p := w.heap.size) (q := w.heap.size + 1) hb1 ⟨c0, c1, c2, d0, d1, d2⟩; obtain ⟨y0, y1, y2⟩ := three_on (p := w.heap.size + 1 + 1) hb1 ⟨z0, z1, z2⟩; obtain ⟨q0, q1, q2⟩ := marks_on (p := w.heap.size + 1 + 1) hb1 z0 ⟨f0, f1, f2⟩; obtain ⟨s0, s1, s2⟩ := marks_on (p := w.heap.size) hb1 c0 ⟨ga0, ga1, ga2⟩; obtain ⟨t0, t1, t2⟩ := marks_on (p := w.heap.size + 1) hb1 d0 ⟨gb0, gb1, gb2⟩; have ho2 : Below w.heap.size w w1 := ho.trans (hb1.mono ho.size))
            go_meet
            have hsw := swap_box (p := w.heap.size) (.bool true) (.slice bo m2.length bcap) (.int .i64 e2) (.bool false) (.slice ao m1.length cap) (.int .i64 e1) ⟨k0, k1, k2, j0, j1, j2⟩ ⟨y0, y1, y2⟩ ⟨q0, q1, q2⟩ _ rfl
            exact ⟨false, ⟨true, m2, e2⟩, ⟨false, m1, e1⟩, bo, ao, bcap, cap, rfl, ⟨hsw.1, hsw.2.1, hsw.2.2, hs, hr, lb, la, b0, a0, ⟨hl2, by simp only; omega⟩, ⟨hl1, by simp only; omega⟩, wB, wA, ((((((ho2.setCell (by simp) _).setCell (by simp) _).setCell (by simp) _).setCell (by simp) _).setCell (by simp) _).setCell (by simp) _), ⟨(fun h => by cases h), fun _ => ⟨HLT.out, hD2.out⟩⟩⟩⟩
          · go_wp2_with (go_at_call 129; refine hcs.mono ?_; rintro e w1 ⟨rfl, hb1⟩; obtain ⟨k0, k1, k2, j0, j1, j2⟩ := six_on (p := w.heap.size) (q := w.heap.size + 1) hb1 ⟨c0, c1, c2, d0, d1, d2⟩; obtain ⟨y0, y1, y2⟩ := three_on (p := w.heap.size + 1 + 1) hb1 ⟨z0, z1, z2⟩; obtain ⟨q0, q1, q2⟩ := marks_on (p := w.heap.size + 1 + 1) hb1 z0 ⟨f0, f1, f2⟩; obtain ⟨s0, s1, s2⟩ := marks_on (p := w.heap.size) hb1 c0 ⟨ga0, ga1, ga2⟩; obtain ⟨t0, t1, t2⟩ := marks_on (p := w.heap.size + 1) hb1 d0 ⟨gb0, gb1, gb2⟩; have ho2 : Below w.heap.size w w1 := ho.trans (hb1.mono ho.size))
            go_meet
            have hsw := swap_box (p := w.heap.size) (.bool false) (.slice bo m2.length bcap) (.int .i64 e2) (.bool true) (.slice ao m1.length cap) (.int .i64 e1) ⟨k0, k1, k2, j0, j1, j2⟩ ⟨y0, y1, y2⟩ ⟨q0, q1, q2⟩ _ rfl
            exact ⟨false, ⟨false, m2, e2⟩, ⟨true, m1, e1⟩, bo, ao, bcap, cap, rfl, ⟨hsw.1, hsw.2.1, hsw.2.2, hs, hr, lb, la, b0, a0, ⟨hl2, by simp only; omega⟩, ⟨hl1, by simp only; omega⟩, wB, wA, ((((((ho2.setCell (by simp) _).setCell (by simp) _).setCell (by simp) _).setCell (by simp) _).setCell (by simp) _).setCell (by simp) _), ⟨(fun h => by cases h), fun _ => ⟨HLT.out, hD2.out⟩⟩⟩⟩
          · simp at hne
        · have hc0 : 0 ≤ cmpI (sz ⟨n1, m1, e1⟩) (sz ⟨n2, m2, e2⟩) := by unfold cmpI; (repeat' split) <;> omega
          have HLT : Hid (atL ⟨n2, m2, e2⟩ low ≤ atL ⟨n1, m1, e1⟩ low) := (show _ ≤ _ by have h := HZ.out; rw [h.1, h.2] at hlt; exact Nat.le_of_not_lt fun g => hlt (Nat.mul_lt_mul_of_pos_right g (Nat.two_pow_pos _)))
          generalize cmpI (sz ⟨n1, m1, e1⟩) (sz ⟨n2, m2, e2⟩) = cc at hcs hc0
          have hcn : ¬ cc < 0 := by omega
          clear hlt HZ
          cases n1 <;> cases n2
          · simp at hne
          · go_wp2_with (go_at_call 129; refine hcs.mono ?_; rintro e w1 ⟨rfl, hb1⟩; obtain ⟨k0, k1, k2, j0, j1, j2⟩ := six_on (p := w.heap.size) (q := w.heap.size + 1) hb1 ⟨c0, c1, c2, d0, d1, d2⟩; obtain ⟨y0, y1, y2⟩ := three_on (p := w.heap.size + 1 + 1) hb1 ⟨z0, z1, z2⟩; obtain ⟨q0, q1, q2⟩ := marks_on (p := w.heap.size + 1 + 1) hb1 z0 ⟨f0, f1, f2⟩; obtain ⟨s0, s1, s2⟩ := marks_on (p := w.heap.size) hb1 c0 ⟨ga0, ga1, ga2⟩; obtain ⟨t0, t1, t2⟩ := marks_on (p := w.heap.size + 1) hb1 d0 ⟨gb0, gb1, gb2⟩; have ho2 : Below w.heap.size w w1 := ho.trans (hb1.mono ho.size))
            go_meet
            exact ⟨false, ⟨false, m1, e1⟩, ⟨true, m2, e2⟩, ao, bo, cap, bcap, rfl, ⟨⟨k0, k1, k2, j0, j1, j2⟩, ⟨y0, y1, y2⟩, ⟨q0, q1, q2⟩, hr, hs, la, lb, a0, b0, ⟨hl1, by simp only; omega⟩, ⟨hl2, by simp only; omega⟩, wA, wB, ho2, ⟨(fun h => by cases h), fun _ => ⟨HLT.out, hD1.out⟩⟩⟩⟩
          · go_wp2_with (go_at_call 129; refine hcs.mono ?_; rintro e w1 ⟨rfl, hb1⟩; obtain ⟨k0, k1, k2, j0, j1, j2⟩ := six_on (p := w.heap.size) (q := w.heap.size + 1) hb1 ⟨c0, c1, c2, d0, d1, d2⟩; obtain ⟨y0, y1, y2⟩ := three_on (p := w.heap.size + 1 + 1) hb1 ⟨z0, z1, z2⟩; obtain ⟨q0, q1, q2⟩ := marks_on (p := w.heap.size + 1 + 1) hb1 z0 ⟨f0, f1, f2⟩; obtain ⟨s0, s1, s2⟩ := marks_on (p := w.heap.size) hb1 c0 ⟨ga0, ga1, ga2⟩; obtain ⟨t0, t1, t2⟩ := marks_on (p := w.heap.size + 1) hb1 d0 ⟨gb0, gb1, gb2⟩; have ho2 : Below w.heap.size w w1 := ho.trans (hb1.mono ho.size))
            go_meet
            exact ⟨false, ⟨true, m1, e1⟩, ⟨false, m2, e2⟩, ao, bo, cap, bcap, rfl, ⟨⟨k0, k1, k2, j0, j1, j2⟩, ⟨y0, y1, y2⟩, ⟨q0, q1, q2⟩, hr, hs, la, lb, a0, b0, ⟨hl1, by simp only; omega⟩, ⟨hl2, by simp only; omega⟩, wA, wB, ho2, ⟨(fun h => by cases h), fun _ => ⟨HLT.out, hD1.out⟩⟩⟩⟩
          · simp at hne
    obtain ⟨st, x, y, ax, ay, cx, cy, rfl, hcT⟩ := hcut
    obtain ⟨nx, mx, ex⟩ := x
    obtain ⟨ny, my, ey⟩ := y
    obtain ⟨wt, hwt⟩ : ∃ wt, wt = wc := ⟨_, rfl⟩
    subst hwt
    obtain ⟨⟨x0, x1, x2, y0, y1, y2⟩, ⟨o0, o1, o2⟩, ⟨k0, k1, k2⟩, rx, ry, lx, ly, vx0, vy0, hex, hey, hwx, hwy, old, hans⟩ := hcT
    simp only at *
    obtain ⟨n, hn⟩ : ∃ n : Nat, (n : Int) = W / 64 + 1 := ⟨(W / 64 + 1).toNat, by omega⟩
    have hmk := run_make_row' (P := Tryz.prog) 47 92 (.int .u64 0) 8 Tryz.underlying47 Tryz.infoU rfl .i64 .i64 n (by omega) (by omega)
    rw [hn] at hmk
    have hn2 : n ≤ 300 := by omega
    have hmade := FRow.made wt n
    have hbm : Below wt.heap.size wt (wt.alloc (.cells (madeCells #[.int .u64 0] n) 92)) := (Below.refl _ _).alloc (Nat.le_refl _) _
    have HFx : Hid (bl (atL ⟨nx, mx, ex⟩ low) ≤ W.toNat ∧ bl (atL ⟨ny, my, ey⟩ low) ≤ W.toNat) := ⟨by have := atL_bl (d := ⟨nx, mx, ex⟩) vx0 hex.1; simp only at this; omega, by have := atL_bl (d := ⟨ny, my, ey⟩) vy0 hey.1; simp only at this; omega⟩
    have HFit : Hid (atL ⟨nx, mx, ex⟩ low + atL ⟨ny, my, ey⟩ low < 2 ^ (64 * n)) := (show _ < _ by
      have a := bl_le_iff.1 HFx.out.1
      have b := bl_le_iff.1 HFx.out.2
      have e : 2 ^ (W.toNat + 1) ≤ 2 ^ (64 * n) := Nat.pow_le_pow_right (by omega) (by omega)
      rw [Nat.pow_succ] at e
      omega)
    obtain ⟨X, hX⟩ : ∃ X, atL ⟨nx, mx, ex⟩ low = X := ⟨_, rfl⟩
    obtain ⟨Y, hY⟩ : ∃ Y, atL ⟨ny, my, ey⟩ low = Y := ⟨_, rfl⟩
    rw [hX, hY] at HFit hans
    have HXY : Hid (X = vl mx * 2 ^ (ex - low).toNat ∧ Y = vl my * 2 ^ (ey - low).toNat) := ⟨hX.symm, hY.symm⟩
    have HAns : Hid _ := hans
    clear HFx hX hY hn hans hr hs hrx hsx ho c0 c1 c2 d0 d1 d2 z0 z1 z2 f0 f1 f2 ga0 ga1 ga2 gb0 gb1 gb2 HS HD1 HD2 la lb a0 b0 wA wB hba hbb
    have ne1 : ¬ w.heap.size = w.heap.size + 1 + 1 := by omega
    have ne2 : ¬ w.heap.size + 1 + 1 = w.heap.size := by omega
    have hwin : Hid (∀ k : Nat, win (vl mx) ((k : Int) * 64 - (ex - low)) = X / 2 ^ (64 * k) % 18446744073709551616 ∧ win (vl my) ((k : Int) * 64 - (ey - low)) = Y / 2 ^ (64 * k) % 18446744073709551616) := fun k => by
      have a := win_up (vl mx) (ex - low).toNat k
      have b := win_up (vl my) (ey - low).toNat k
      rw [show 64 * (k : Int) - ((ex - low).toNat : Int) = (k : Int) * 64 - (ex - low) by omega] at a
      rw [show 64 * (k : Int) - ((ey - low).toNat : Int) = (k : Int) * 64 - (ey - low) by omega] at b
      rw [HXY.out.1, HXY.out.2]
      exact ⟨a, b⟩
    cases st
    · simp only [Bool.false_eq_true, if_false]
      go_wp2
      clear hmk
      go_loopg [60, 10] n (fun g i cv wr => ∃ (k : Nat) (out : List Nat) (c : Nat), k ≤ n ∧ g = n - k ∧ i = .int .i64 k ∧ cv = .int .u64 c ∧ out.length = k ∧ Hid (Lessed X Y out c) ∧ FRow wr wt.heap.size n (laidF (fun _ => 0) 0 k out) ∧ Below wt.heap.size wt wr)
      case atStart => exact ⟨0, [], 0, Nat.zero_le _, rfl, rfl, rfl, rfl, lessed_nil _ _, hmade.congr (fun j _ => (laidF_zero (fun _ => 0) 0 [] j).symm), hbm⟩
      case round =>
        obtain ⟨k, out, c, hk, hg, rfl, rfl, hol, hR, hrw, hbw⟩ := hrel
        clear hmade hbm
        have hoR : Below w.heap.size w wr := old.trans (hbw.mono old.size)
        obtain ⟨p0, p1, p2, q0, q1, q2⟩ := six_on (p := w.heap.size) (q := w.heap.size + 1) hbw ⟨x0, x1, x2, y0, y1, y2⟩
        obtain ⟨r0, r1, r2⟩ := three_on (p := w.heap.size + 1 + 1) hbw ⟨o0, o1, o2⟩
        obtain ⟨s0, s1, s2⟩ := marks_on (p := w.heap.size + 1 + 1) hbw o0 ⟨k0, k1, k2⟩
        by_cases hlt : k < n
        · have kc : c ≤ 1 := hR.out.2.1
          obtain ⟨xk, hxk⟩ : ∃ xk, X / 2 ^ (64 * k) % 18446744073709551616 = xk := ⟨_, rfl⟩
          obtain ⟨yk, hyk⟩ : ∃ yk, Y / 2 ^ (64 * k) % 18446744073709551616 = yk := ⟨_, rfl⟩
          have hxl : xk < 18446744073709551616 := by rw [← hxk]; exact Nat.mod_lt _ (by omega)
          have hyl : yk < 18446744073709551616 := by rw [← hyk]; exact Nat.mod_lt _ (by omega)
          obtain ⟨s, hs⟩ : ∃ s, (xk + 18446744073709551616 - yk - c) % 18446744073709551616 = s := ⟨_, rfl⟩
          obtain ⟨d, hd⟩ : ∃ d, (if xk < yk + c then 1 else 0) = d := ⟨_, rfl⟩
          have hd1 : d ≤ 1 := by rw [← hd]; split <;> omega
          have hs1 : s < 18446744073709551616 := by rw [← hs]; exact Nat.mod_lt _ (by omega)
          have HR2 : Hid (Lessed X Y (out ++ [s]) d) := lessed_step hR.out hs1 hd1 (by rw [hol, hxk, hyk, ← hs, ← hd]; split <;> omega)
          have c1 := window_any mx ax cx ((k : Int) * 64 - (ex - low)) wr (rx.below hoR) lx (by omega) (by omega)
          have c2 := window_any my ay cy ((k : Int) * 64 - (ey - low)) wr (ry.below hoR) ly (by omega) (by omega)
          rw [(hwin.out k).1, hxk] at c1
          rw [(hwin.out k).2, hyk] at c2
          have hst := fun w' => sub64_run xk yk c kc w'
          rw [hs, hd] at hst
          have g1 := World.rowIs.cell hrw (i := k) hlt
          have g2 := World.rowIs.frozen hrw k
          have hset := hrw.set k s
          have hbs := fun v => hbw.setCell (p := ⟨wt.heap.size, k, none⟩) (Nat.le_refl _) (.int .u64 v)
          clear hR hxk hyk hs hd hrw hbw hoR x0 x1 x2 y0 y1 y2 o0 o1 o2 k0 k1 k2
          go_wp2_with (first | (go_at_call_of 130 (Value.slice ax mx.length cx); refine c1.mono ?_; rintro e w' ⟨rfl, hww⟩; subst hww) | (go_at_call_of 130 (Value.slice ay my.length cy); refine c2.mono ?_; rintro e w' ⟨rfl, hww⟩; subst hww))
          go_roundg (n - (k + 1))
          case measure => omega
          case rel => exact ⟨k + 1, _, _, by omega, rfl, by go_num, rfl, (by simp [hol]), HR2, hset.congr (fun j _ => by have := laidF_snoc (f := fun _ => 0) (off := 0) hol s j; rw [Nat.zero_add] at this; exact this), hbs _⟩
        · have hkn : k = n := by omega
          have HV : Hid (vl out + Y = X) := lessed_end hR.out (by rw [hol, hkn]; have := HFit.out; omega) (HAns.out.2 (by first | rfl | trivial)).1
          have hLo : Lm out := hR.out.1
          have hnm := norm_at nx out low n (by omega) (some ⟨wt.heap.size, 0, none⟩) n wr (FRow.lrow hrw (by omega) (fun j hj => by unfold laidF; rw [if_pos (by omega), Nat.sub_zero])) hLo (tabW_below hT hoR) (by omega)
          rw [(HAns.out.2 (by first | rfl | trivial)).2 out HV.out] at hnm
          have hlt3 : w.heap.size + 1 + 1 < wr.heap.size := World.block_lt_of_cell? wr _ r0
          clear HAns HV hwin HXY HFit hR hrw hbw x0 x1 x2 y0 y1 y2 o0 o1 o2 k0 k1 k2
          go_wp2_with (go_at_call 112; refine hnm.mono ?_; rintro e w4 ⟨ao', cap', rfl, hrow4, hfr4, hb4⟩; obtain ⟨t0, t1, t2⟩ := marks_on (p := w.heap.size + 1 + 1) hb4 r0 ⟨s0, s1, s2⟩; obtain ⟨v0, v1, v2⟩ := three_on (p := w.heap.size + 1 + 1) hb4 ⟨r0, r1, r2⟩; have ho4 : Below w.heap.size w w4 := hoR.trans (hb4.mono hoR.size); have hfr5 : Frs (w.heap.size + 3) ao' := hfr4.mono (by omega))
          exact bodyPost_ret (v := .tuple #[.agg #[.bool rn, .slice ao' rm.length cap', .int .i64 re], .int .i64 rk]) (by simp [results, Tryz.results114, go_sem, v0, v1, v2]) rfl ⟨ao', cap', rfl, ((hrow4.box hfr5 (by omega) _ _).box hfr5 (by omega) _ _).box hfr5 (by omega) _ _, hfr5.mono (by omega), ((ho4.setCell (by simp; omega) _).setCell (by simp; omega) _).setCell (by simp; omega) _⟩
    · simp only [if_true]
      go_wp2
      clear hmk
      go_loopg [60, 10] n (fun g i cv wr => ∃ (k : Nat) (out : List Nat) (c : Nat), k ≤ n ∧ g = n - k ∧ i = .int .i64 k ∧ cv = .int .u64 c ∧ out.length = k ∧ Hid (Summed X Y out c) ∧ FRow wr wt.heap.size n (laidF (fun _ => 0) 0 k out) ∧ Below wt.heap.size wt wr)
      case atStart => exact ⟨0, [], 0, Nat.zero_le _, rfl, rfl, rfl, rfl, summed_nil _ _, hmade.congr (fun j _ => (laidF_zero (fun _ => 0) 0 [] j).symm), hbm⟩
      case round =>
        obtain ⟨k, out, c, hk, hg, rfl, rfl, hol, hR, hrw, hbw⟩ := hrel
        clear hmade hbm
        have hoR : Below w.heap.size w wr := old.trans (hbw.mono old.size)
        obtain ⟨p0, p1, p2, q0, q1, q2⟩ := six_on (p := w.heap.size) (q := w.heap.size + 1) hbw ⟨x0, x1, x2, y0, y1, y2⟩
        obtain ⟨r0, r1, r2⟩ := three_on (p := w.heap.size + 1 + 1) hbw ⟨o0, o1, o2⟩
        obtain ⟨s0, s1, s2⟩ := marks_on (p := w.heap.size + 1 + 1) hbw o0 ⟨k0, k1, k2⟩
        by_cases hlt : k < n
        · have kc : c ≤ 1 := hR.out.2.1
          have hRs := summed_step hR.out
          rw [hol] at hRs
          obtain ⟨xk, hxk⟩ : ∃ xk, X / 2 ^ (64 * k) % 18446744073709551616 = xk := ⟨_, rfl⟩
          obtain ⟨yk, hyk⟩ : ∃ yk, Y / 2 ^ (64 * k) % 18446744073709551616 = yk := ⟨_, rfl⟩
          have hxl : xk < 18446744073709551616 := by rw [← hxk]; exact Nat.mod_lt _ (by omega)
          have hyl : yk < 18446744073709551616 := by rw [← hyk]; exact Nat.mod_lt _ (by omega)
          rw [hxk, hyk] at hRs
          have HR2 : Hid _ := hRs
          have c1 := window_any mx ax cx ((k : Int) * 64 - (ex - low)) wr (rx.below hoR) lx (by omega) (by omega)
          have c2 := window_any my ay cy ((k : Int) * 64 - (ey - low)) wr (ry.below hoR) ly (by omega) (by omega)
          rw [(hwin.out k).1, hxk] at c1
          rw [(hwin.out k).2, hyk] at c2
          have hst := fun w' => add64_run (xk : Int) (yk : Int) (c : Int) (by omega) (by omega) (by omega) (by omega) w'
          have ev : (((xk + yk + c) % 18446744073709551616 : Nat) : Int) = ((xk : Int) + yk + c) % 18446744073709551616 := by omega
          have ec : (((xk + yk + c) / 18446744073709551616 : Nat) : Int) = ((xk : Int) + yk + c) / 18446744073709551616 := by omega
          have g1 := World.rowIs.cell hrw (i := k) hlt
          have g2 := World.rowIs.frozen hrw k
          have hset := hrw.set k ((xk + yk + c) % 18446744073709551616)
          rw [ev] at hset
          have HEC : Hid (((xk + yk + c) / 18446744073709551616 : Nat) = ((xk : Int) + yk + c) / 18446744073709551616) := ec
          have hbs := fun v => hbw.setCell (p := ⟨wt.heap.size, k, none⟩) (Nat.le_refl _) (.int .u64 v)
          clear hRs hR hxk hyk ev ec hrw hbw hoR x0 x1 x2 y0 y1 y2 o0 o1 o2 k0 k1 k2
          go_wp2_with (first | (go_at_call_of 130 (Value.slice ax mx.length cx); refine c1.mono ?_; rintro e w' ⟨rfl, hww⟩; subst hww) | (go_at_call_of 130 (Value.slice ay my.length cy); refine c2.mono ?_; rintro e w' ⟨rfl, hww⟩; subst hww))
          go_roundg (n - (k + 1))
          case measure => omega
          case rel => exact ⟨k + 1, _, _, by omega, rfl, by go_num, (by rw [HEC.out]), (by simp [hol]), HR2, hset.congr (fun j _ => by have := laidF_snoc (f := fun _ => 0) (off := 0) hol ((xk + yk + c) % 18446744073709551616) j; rw [Nat.zero_add] at this; exact this), hbs _⟩
        · have hkn : k = n := by omega
          have HV : Hid (vl out = X + Y) := summed_end hR.out (by rw [hol, hkn]; exact HFit.out)
          have hLo : Lm out := hR.out.1
          have hnm := norm_at nx out low n (by omega) (some ⟨wt.heap.size, 0, none⟩) n wr (FRow.lrow hrw (by omega) (fun j hj => by unfold laidF; rw [if_pos (by omega), Nat.sub_zero])) hLo (tabW_below hT hoR) (by omega)
          rw [HAns.out.1 (by first | rfl | trivial) out HV.out] at hnm
          have hlt3 : w.heap.size + 1 + 1 < wr.heap.size := World.block_lt_of_cell? wr _ r0
          clear HAns HV hwin HXY HFit hR hrw hbw x0 x1 x2 y0 y1 y2 o0 o1 o2 k0 k1 k2
          go_wp2_with (go_at_call 112; refine hnm.mono ?_; rintro e w4 ⟨ao', cap', rfl, hrow4, hfr4, hb4⟩; obtain ⟨t0, t1, t2⟩ := marks_on (p := w.heap.size + 1 + 1) hb4 r0 ⟨s0, s1, s2⟩; obtain ⟨v0, v1, v2⟩ := three_on (p := w.heap.size + 1 + 1) hb4 ⟨r0, r1, r2⟩; have ho4 : Below w.heap.size w w4 := hoR.trans (hb4.mono hoR.size); have hfr5 : Frs (w.heap.size + 3) ao' := hfr4.mono (by omega))
          exact bodyPost_ret (v := .tuple #[.agg #[.bool rn, .slice ao' rm.length cap', .int .i64 re], .int .i64 rk]) (by simp [results, Tryz.results114, go_sem, v0, v1, v2]) rfl ⟨ao', cap', rfl, ((hrow4.box hfr5 (by omega) _ _).box hfr5 (by omega) _ _).box hfr5 (by omega) _ _, hfr5.mono (by omega), ((ho4.setCell (by simp; omega) _).setCell (by simp; omega) _).setCell (by simp; omega) _⟩
theorem add_any (a b : Dy) (ao bo : Option Addr) (cap bcap : Nat) (w : World) (hr : LRow w ao a.mag) (hs : LRow w bo b.mag) (la : Lm a.mag) (lb : Lm b.mag) (hT : TabW w) (ra : rightB a = true) (rb : rightB b = true) :
  Calls Tryz.prog 114 #[.agg #[.bool a.neg, .slice ao a.mag.length cap, .int .i64 a.exp], .agg #[.bool b.neg, .slice bo b.mag.length bcap, .int .i64 b.exp]] w (Gave w (addD a b)) := by
 by_cases h1 : a.mag.length = 0
 ·have ea := right_nil ra h1
  have e : addD a b = (b, 0) := by rw [ea]; exact add_zero_left rb lb
  rw [e]
  exact add_left0 a.neg b.neg a.mag b.mag a.exp b.exp ao bo cap bcap w hs h1 (right_exp rb).2.2
 ·by_cases h2 : b.mag.length = 0
  ·have eb := right_nil rb h2
   have e : addD a b = (a, 0) := by rw [eb, add_comm']; exact add_zero_left ra la
   rw [e]
   exact add_right0 a.neg b.neg a.mag b.mag a.exp b.exp ao bo cap bcap w hr h2 h1 (right_exp ra).2.2
  ·exact add_both a.neg b.neg a.mag b.mag a.exp b.exp ao bo cap bcap w hr hs la lb hT ra rb h1 h2
set_option maxHeartbeats 1000000 in
theorem Add_ok (n1 n2 : Bool) (m1 m2 : List Nat) (e1 e2 : Int) (ao bo : Option Addr) (cap bcap : Nat) (w : World) (hr : LRow w ao m1) (hs : LRow w bo m2) (la : Lm m1) (lb : Lm m2) (hT : TabW w)
  (ra : rightB ⟨n1, m1, e1⟩ = true) (rb : rightB ⟨n2, m2, e2⟩ = true) :
  Calls Tryz.prog 109 #[.agg #[.bool n1, .slice ao m1.length cap, .int .i64 e1], .agg #[.bool n2, .slice bo m2.length bcap, .int .i64 e2]] w (Gave w (addD ⟨n1, m1, e1⟩ ⟨n2, m2, e2⟩)) := by
 have hadd := fun w' hr' hs' hT' => add_any ⟨n1, m1, e1⟩ ⟨n2, m2, e2⟩ ao bo cap bcap w' hr' hs' la lb hT' ra rb
 obtain ⟨⟨⟨rn, rm, re⟩, rk⟩, hrr⟩ : ∃ r, addD ⟨n1, m1, e1⟩ ⟨n2, m2, e2⟩ = r := ⟨_, rfl⟩
 rw [hrr] at hadd ⊢
 clear hrr
 have ne1 : ¬ w.heap.size = w.heap.size + 1 + 1 := by omega
 have ne2 : ¬ w.heap.size + 1 + 1 = w.heap.size := by omega
 go_enter Tryz.func109, Tryz.ntmps109
 go_wp2_with (first
  | (go_at_call_of 105 (Value.agg #[Value.bool n1, Value.slice ao m1.length cap, Value.int IntKind.i64 e1]); refine (right_any ⟨n1, m1, e1⟩ ao cap _ (((hr.alloc _).alloc _).alloc _) la).mono ?_; rintro e w1 ⟨rfl, hb1⟩; obtain ⟨⟨c0, c1, c2, d0, d1, d2⟩, ⟨z0, z1, z2⟩, ⟨f0, f1, f2⟩, ho1⟩ := box3 hb1)
  | (go_at_call_of 105 (Value.agg #[Value.bool n2, Value.slice bo m2.length bcap, Value.int IntKind.i64 e2]); refine (right_any ⟨n2, m2, e2⟩ bo bcap _ (hs.below ho1) lb).mono ?_; rintro e w2 ⟨rfl, hb2⟩; obtain ⟨k0, k1, k2, j0, j1, j2⟩ := six_on (p := w.heap.size) (q := w.heap.size + 1) hb2 ⟨c0, c1, c2, d0, d1, d2⟩; obtain ⟨y0, y1, y2⟩ := three_on (p := w.heap.size + 1 + 1) hb2 ⟨z0, z1, z2⟩; obtain ⟨q0, q1, q2⟩ := marks_on (p := w.heap.size + 1 + 1) hb2 z0 ⟨f0, f1, f2⟩; have ho2 : Below w.heap.size w w2 := ho1.trans (hb2.mono ho1.size); have hlt2 : w.heap.size + 1 + 1 < w2.heap.size := World.block_lt_of_cell? w2 _ y0)
  | (go_at_call 114; refine (hadd _ (hr.below ho2) (hs.below ho2) (tabW_below hT ho2)).mono ?_; rintro e w4 ⟨ao', cap', rfl, hrow4, hfr4, hb4⟩; obtain ⟨t0, t1, t2⟩ := marks_on (p := w.heap.size + 1 + 1) hb4 y0 ⟨q0, q1, q2⟩; obtain ⟨v0, v1, v2⟩ := three_on (p := w.heap.size + 1 + 1) hb4 ⟨y0, y1, y2⟩; have ho4 : Below w.heap.size w w4 := ho2.trans (hb4.mono ho2.size); have hfr5 : Frs (w.heap.size + 3) ao' := hfr4.mono (by omega)))
 exact bodyPost_ret (v := .tuple #[.agg #[.bool rn, .slice ao' rm.length cap', .int .i64 re], .int .i64 rk]) (by simp [results, Tryz.results109, go_sem, v0, v1, v2]) rfl ⟨ao', cap', rfl, ((hrow4.box hfr5 (by omega) _ _).box hfr5 (by omega) _ _).box hfr5 (by omega) _ _, hfr5.mono (by omega), ((ho4.setCell (by simp; omega) _).setCell (by simp; omega) _).setCell (by simp; omega) _⟩
set_option maxHeartbeats 1000000 in
theorem Add_arg (n1 n2 : Bool) (m1 m2 : List Nat) (e1 e2 : Int) (ao bo : Option Addr) (cap bcap : Nat) (w : World) (hr : LRow w ao m1) (hs : LRow w bo m2) (la : Lm m1) (lb : Lm m2)
  (h : rightB ⟨n1, m1, e1⟩ = false ∨ rightB ⟨n2, m2, e2⟩ = false) :
  Calls Tryz.prog 109 #[.agg #[.bool n1, .slice ao m1.length cap, .int .i64 e1], .agg #[.bool n2, .slice bo m2.length bcap, .int .i64 e2]] w (Gave w (dy0, 2)) := by
 cases ra : rightB ⟨n1, m1, e1⟩
 ·clear h
  go_enter Tryz.func109, Tryz.ntmps109
  go_wp2_with (first
   | (go_at_call_of 105 (Value.agg #[Value.bool n1, Value.slice ao m1.length cap, Value.int IntKind.i64 e1]); refine (right_any ⟨n1, m1, e1⟩ ao cap _ (((hr.alloc _).alloc _).alloc _) la).mono ?_; rintro e w1 ⟨rfl, hb1⟩; obtain ⟨⟨c0, c1, c2, d0, d1, d2⟩, ⟨z0, z1, z2⟩, ⟨f0, f1, f2⟩, ho1⟩ := box3 hb1))
  exact bodyPost_ret (v := .tuple #[.agg #[.bool false, .slice none 0 0, .int .i64 0], .int .i64 2]) (by simp [results, Tryz.results109, go_sem, z0, z1, z2]) rfl ⟨none, 0, rfl, LRow.nil _ _, Frs.none _, ((ho1.setCell (by simp; omega) _).setCell (by simp; omega) _).setCell (by simp; omega) _⟩
 ·have rb : rightB ⟨n2, m2, e2⟩ = false := by
   rcases h with h | h
   ·rw [ra] at h; cases h
   ·exact h
  clear h
  go_enter Tryz.func109, Tryz.ntmps109
  go_wp2_with (first
   | (go_at_call_of 105 (Value.agg #[Value.bool n1, Value.slice ao m1.length cap, Value.int IntKind.i64 e1]); refine (right_any ⟨n1, m1, e1⟩ ao cap _ (((hr.alloc _).alloc _).alloc _) la).mono ?_; rintro e w1 ⟨rfl, hb1⟩; obtain ⟨⟨c0, c1, c2, d0, d1, d2⟩, ⟨z0, z1, z2⟩, ⟨f0, f1, f2⟩, ho1⟩ := box3 hb1)
   | (go_at_call_of 105 (Value.agg #[Value.bool n2, Value.slice bo m2.length bcap, Value.int IntKind.i64 e2]); refine (right_any ⟨n2, m2, e2⟩ bo bcap _ (hs.below ho1) lb).mono ?_; rintro e w2 ⟨rfl, hb2⟩; obtain ⟨k0, k1, k2, j0, j1, j2⟩ := six_on (p := w.heap.size) (q := w.heap.size + 1) hb2 ⟨c0, c1, c2, d0, d1, d2⟩; obtain ⟨y0, y1, y2⟩ := three_on (p := w.heap.size + 1 + 1) hb2 ⟨z0, z1, z2⟩; obtain ⟨q0, q1, q2⟩ := marks_on (p := w.heap.size + 1 + 1) hb2 z0 ⟨f0, f1, f2⟩; have ho2 : Below w.heap.size w w2 := ho1.trans (hb2.mono ho1.size); have hlt2 : w.heap.size + 1 + 1 < w2.heap.size := World.block_lt_of_cell? w2 _ y0))
  exact bodyPost_ret (v := .tuple #[.agg #[.bool false, .slice none 0 0, .int .i64 0], .int .i64 2]) (by simp [results, Tryz.results109, go_sem, y0, y1, y2]) rfl ⟨none, 0, rfl, LRow.nil _ _, Frs.none _, ((ho2.setCell (by simp; omega) _).setCell (by simp; omega) _).setCell (by simp; omega) _⟩
theorem Add_any (a b : Dy) (ao bo : Option Addr) (cap bcap : Nat) (w : World) (hr : LRow w ao a.mag) (hs : LRow w bo b.mag) (la : Lm a.mag) (lb : Lm b.mag) (hT : TabW w) :
  Calls Tryz.prog 109 #[.agg #[.bool a.neg, .slice ao a.mag.length cap, .int .i64 a.exp], .agg #[.bool b.neg, .slice bo b.mag.length bcap, .int .i64 b.exp]] w (Gave w (addD a b)) := by
 by_cases h : rightB a = true ∧ rightB b = true
 ·exact Add_ok a.neg b.neg a.mag b.mag a.exp b.exp ao bo cap bcap w hr hs la lb hT h.1 h.2
 ·have e : addD a b = (dy0, 2) := by
   unfold addD; rw [if_neg]; simpa using h
  rw [e]
  refine Add_arg a.neg b.neg a.mag b.mag a.exp b.exp ao bo cap bcap w hr hs la lb ?_
  rcases Bool.eq_false_or_eq_true (rightB a) with h1 | h1
  ·rcases Bool.eq_false_or_eq_true (rightB b) with h2 | h2
   ·exact absurd ⟨h1, h2⟩ h
   ·exact Or.inr h2
  ·exact Or.inl h1
structure Hd (w : World) (p : Nat) (d : Dy) (ao : Option Addr) (cap : Nat) : Prop where
 c0 : w.cell? ⟨p, 0, none⟩ = some (.bool d.neg)
 c1 : w.cell? ⟨p, 1, none⟩ = some (.slice ao d.mag.length cap)
 c2 : w.cell? ⟨p, 2, none⟩ = some (.int .i64 d.exp)
 row : LRow w ao d.mag
theorem Hd.below {w w' : World} {p : Nat} {d : Dy} {ao : Option Addr} {cap : Nat} (h : Hd w p d ao cap) (hb : Below w.heap.size w w') : Hd w' p d ao cap := by
 obtain ⟨c0, c1, c2⟩ := three_on hb ⟨h.c0, h.c1, h.c2⟩
 exact ⟨c0, c1, c2, h.row.below hb⟩
theorem Hd.new {w : World} {d : Dy} {ao : Option Addr} {cap : Nat} (h : LRow w ao d.mag) : Hd (w.alloc (.cells #[.bool d.neg, .slice ao d.mag.length cap, .int .i64 d.exp] 145)) w.heap.size d ao cap := by
 refine ⟨?_, ?_, ?_, h.alloc _⟩ <;> go_simp
end Go.Proofs.YtfipmopmpacdaaaGreatDoor
