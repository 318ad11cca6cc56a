/- What add answers, both not 0. -/
import Derived.Test.YtokfkooffbihcaaDoorEa
namespace Go.Proofs.YtokfkooffbihcaaDoor
open Go.RowKit

set_option maxHeartbeats 2000000 in
set_option maxRecDepth 100000 in
theorem add_both (n1 n2 : Bool) (m1 m2 : List Nat) (e1 e2 : Int) (ao bo : Option Addr) (cap bcap : Nat) (w : World) (hr : LRow w ao m1) (hs : LRow w bo m2) (la : Lm m1) (lb : Lm m2) (hT : TabW w)
    (ra : rightB ⟨n1, m1, e1⟩ = true) (rb : rightB ⟨n2, m2, e2⟩ = true) (hn1 : m1.length ≠ 0) (hn2 : m2.length ≠ 0) :
    Calls Tryd.prog 27 #[.agg #[.bool n1, .slice ao m1.length cap, .int .i64 e1], .agg #[.bool n2, .slice bo m2.length bcap, .int .i64 e2]] w (Gave w (addD ⟨n1, m1, e1⟩ ⟨n2, m2, e2⟩)) := by
  have h1 : ((m1.length : Int) == 0) = false := beq_eq_false_iff_ne.2 (by omega)
  have h2 : ((m2.length : Int) == 0) = false := beq_eq_false_iff_ne.2 (by omega)
  have xa := right_exp ra
  have xb := right_exp rb
  simp only at xa xb
  have hba : bl (vl m1) ≤ 64 * 256 := bl_limbs la xa.2.2
  have hbb : bl (vl m2) ≤ 64 * 256 := bl_limbs lb xb.2.2
  obtain ⟨low, hlow⟩ : ∃ low, low = min e1 e2 := ⟨_, rfl⟩
  obtain ⟨W, hW⟩ : ∃ W, W = max ((bl (vl m1) : Int) + e1) ((bl (vl m2) : Int) + e2) - low := ⟨_, rfl⟩
  have HL : Hid (low = min e1 e2) := hlow
  have HW : Hid (W = max ((bl (vl m1) : Int) + e1) ((bl (vl m2) : Int) + e2) - low) := hW
  clear hlow hW
  obtain ⟨⟨⟨rn, rm, re⟩, rk⟩, hrr⟩ : ∃ r, addD ⟨n1, m1, e1⟩ ⟨n2, m2, e2⟩ = r := ⟨_, rfl⟩
  have HWd : Hid (16448 < W → (⟨rn, rm, re⟩, rk) = (dy0, (3 : Int))) := fun hw => by
    have h3 := HW.out
    have h4 := HL.out
    rw [← hrr]
    by_cases he : e1 ≤ e2
    · exact add_wide ra rb la lb hn1 hn2 (low := low) (by simp only; omega) he (by simp only; omega)
    · rw [add_comm']
      exact add_wide rb ra lb la hn2 hn1 (low := low) (by simp only; omega) (by simp only; omega) (by simp only; omega)
  have hl1 : low ≤ e1 := by have := HL.out; omega
  have hl2 : low ≤ e2 := by have := HL.out; omega
  have hl3 : -65536 ≤ low := by have := HL.out; omega
  have hW0 : 0 ≤ W := by have := HL.out; have := HW.out; omega
  have HS : Hid (n1 = n2 → ∀ zs, vl zs = atL ⟨n1, m1, e1⟩ low + atL ⟨n2, m2, e2⟩ low → normD ⟨n1, zs, low⟩ = (⟨rn, rm, re⟩, rk)) := fun hn zs hz => by
    rw [← hrr]; exact add_like ra rb hl3 hl1 hl2 hn hz
  have HD1 : Hid (n1 ≠ n2 → ∀ zs, vl zs + atL ⟨n2, m2, e2⟩ low = atL ⟨n1, m1, e1⟩ low → normD ⟨n1, zs, low⟩ = (⟨rn, rm, re⟩, rk)) := fun hn zs hz => by
    rw [← hrr]; exact add_unlike ra rb hl3 hl1 hl2 (by simp only; cases n1 <;> cases n2 <;> simp_all) hz
  have HD2 : Hid (n1 ≠ n2 → ∀ zs, vl zs + atL ⟨n1, m1, e1⟩ low = atL ⟨n2, m2, e2⟩ low → normD ⟨n2, zs, low⟩ = (⟨rn, rm, re⟩, rk)) := fun hn zs hz => by
    rw [← hrr, add_comm']; exact add_unlike rb ra hl3 hl2 hl1 (by simp only; cases n1 <;> cases n2 <;> simp_all) hz
  rw [hrr]
  clear hrr
  have hrW := fun o1 o2 o3 => (((hr.alloc o1).alloc o2).alloc o3).drew
  have hsW := fun o1 o2 o3 => (((hs.alloc o1).alloc o2).alloc o3).drew
  go_enter Tryd.func27, Tryd.ntmps27
  go_upto_region 5 with fail
  go_cut [28, 29, 30, 31, 32, 6] (fun _ _ _ _ _ t wx => t = .int .i64 low ∧ wx = box3W w n1 n2 m1.length m2.length e1 e2 ao bo cap bcap)
  case first =>
    go_wp2_with fail
    all_goals
      go_meet
      exact ⟨by rw [HL.out]; congr 1; omega, rfl⟩
  obtain ⟨rfl, rfl⟩ := hcut
  go_upto_region 6 with fail
  go_cut [33, 34, 35, 36, 37, 38, 39, 7] (fun _ _ _ _ _ _ _ t wx => t = .int .i64 W ∧ Below (box3W w n1 n2 m1.length m2.length e1 e2 ao bo cap bcap).heap.size (box3W w n1 n2 m1.length m2.length e1 e2 ao bo cap bcap) wx)
  case first =>
    go_region_held3 (fun w' => w'.cell? ⟨w.heap.size, 0, none⟩ = some (.bool n1) ∧ w'.cell? ⟨w.heap.size, 1, none⟩ = some (.slice ao m1.length cap) ∧ w'.cell? ⟨w.heap.size, 2, none⟩ = some (.int .i64 e1) ∧ w'.cell? ⟨w.heap.size + 1, 0, none⟩ = some (.bool n2) ∧ w'.cell? ⟨w.heap.size + 1, 1, none⟩ = some (.slice bo m2.length bcap) ∧ w'.cell? ⟨w.heap.size + 1, 2, none⟩ = some (.int .i64 e2)) (go_keep)
      (first | (go_at_call_of 42 (Value.agg #[Value.bool n1, Value.slice ao m1.length cap, Value.int IntKind.i64 e1]); refine (top_any ⟨n1, m1, e1⟩ ao cap _ (by first | assumption | exact hrW _ _ _) la (by simp only; omega) (by simp only; omega) (by simp only; omega)).mono ?_; rintro e wa ⟨rfl, ha⟩; have ka : LRow wa bo m2 := LRow.below (by first | assumption | exact hsW _ _ _) ha; have ka' : LRow wa ao m1 := LRow.below (by first | assumption | exact hrW _ _ _) ha; obtain ⟨c0, c1, c2, d0, d1, d2⟩ := six_on (p := w.heap.size) (q := w.heap.size + 1) ha (by first | exact three_box _ _ _ _ _ _ _ _ _ _ _ _ _ | (refine ⟨?_, ?_, ?_, ?_, ?_, ?_⟩ <;> assumption))) | (go_at_call_of 42 (Value.agg #[Value.bool n2, Value.slice bo m2.length bcap, Value.int IntKind.i64 e2]); refine (top_any ⟨n2, m2, e2⟩ bo bcap _ (by first | assumption | exact hsW _ _ _) lb (by simp only; omega) (by simp only; omega) (by simp only; omega)).mono ?_; rintro e wb ⟨rfl, hb⟩; have kb : LRow wb ao m1 := LRow.below (by first | assumption | exact hrW _ _ _) hb; have kb' : LRow wb bo m2 := LRow.below (by first | assumption | exact hsW _ _ _) hb; obtain ⟨c0, c1, c2, d0, d1, d2⟩ := six_on (p := w.heap.size) (q := w.heap.size + 1) hb (by first | exact three_box _ _ _ _ _ _ _ _ _ _ _ _ _ | (refine ⟨?_, ?_, ?_, ?_, ?_, ?_⟩ <;> assumption))))
    all_goals go_wp2_with fail
    all_goals go_meet
    all_goals
      first | exact ⟨congrArg (Value.int .i64) (by have h3 := HW.out; have h4 := HL.out; first | omega | (rw [IntKind.wrap_i64]; first | omega | (split <;> omega))), (undrew ha).trans (hb.mono (undrew ha).size)⟩ | exact ⟨congrArg (Value.int .i64) (by have h3 := HW.out; have h4 := HL.out; first | omega | (rw [IntKind.wrap_i64]; first | omega | (split <;> omega))), (undrew hb).trans (ha.mono (undrew hb).size)⟩
  obtain ⟨rfl, hbx⟩ := hcut
  obtain ⟨wq, hwq⟩ : ∃ wq, wq = wc := ⟨_, rfl⟩
  subst hwq
  obtain ⟨⟨c0, c1, c2, d0, d1, d2⟩, ⟨z0, z1, z2⟩, ⟨f0, f1, f2⟩, ho⟩ := box3 hbx
  obtain ⟨⟨ga0, ga1, ga2⟩, gb0, gb1, gb2⟩ := box3m hbx
  clear hrW hsW hbx
  by_cases hw : 16448 < W
  · have he := HWd.out hw
    simp only [dy0, Prod.mk.injEq, Dy.mk.injEq] at he
    obtain ⟨⟨rfl, rfl, rfl⟩, rfl⟩ := he
    go_wp2
    exact bodyPost_ret (v := .tuple #[.agg #[.bool false, .slice none 0 0, .int .i64 0], .int .i64 3]) (by simp [results, Tryd.results27, go_sem, z0, z1, z2]) rfl ⟨none, 0, rfl, LRow.nil _ _, Frs.none _, ((ho.setCell (by simp; omega) _).setCell (by simp; omega) _).setCell (by simp; omega) _⟩
  · obtain ⟨a0, _⟩ := right_ne ra hn1
    obtain ⟨b0, _⟩ := right_ne rb hn2
    simp only at a0 b0
    have wA : (bl (vl m1) : Int) + e1 - low ≤ W := by have h3 := HW.out; omega
    have wB : (bl (vl m2) : Int) + e2 - low ≤ W := by have h3 := HW.out; omega
    have hrx := hr.below ho
    have hsx := hs.below ho
    clear HWd HL HW
    go_upto_if 47 with fail
    go_cut [8, 48, 49, 50, 51, 52, 53] (fun s8 _ _ _ _ _ _ wx => ∃ (st : Bool) (x y : Dy) (ax ay : Option Addr) (cx cy : Nat), s8 = .func (Fn.func (if st then 46 else 47)) #[] #[] ∧ Tail w low W (⟨rn, rm, re⟩, rk) st x y ax ay cx cy wx)
    case first =>
     as_aux_lemma =>
      by_cases hn : n1 = n2
      · have HT : Hid (Tail w low W (⟨rn, rm, re⟩, rk) true ⟨n1, m1, e1⟩ ⟨n2, m2, e2⟩ ao bo cap bcap wq) := (show Tail w low W (⟨rn, rm, re⟩, rk) true ⟨n1, m1, e1⟩ ⟨n2, m2, e2⟩ ao bo cap bcap wq from ⟨⟨c0, c1, c2, d0, d1, d2⟩, ⟨z0, z1, z2⟩, ⟨f0, f1, f2⟩, hr, hs, la, lb, a0, b0, ⟨hl1, by simp only; omega⟩, ⟨hl2, by simp only; omega⟩, wA, wB, ho, ⟨fun _ => HS.out hn, fun h => by cases h⟩⟩)
        clear HS HD1 HD2
        cases n1 <;> cases n2
        · go_wp2_with fail
          go_meet
          exact ⟨true, ⟨false, m1, e1⟩, ⟨false, m2, e2⟩, ao, bo, cap, bcap, rfl, HT.out⟩
        · cases hn
        · cases hn
        · go_wp2_with fail
          go_meet
          exact ⟨true, ⟨true, m1, e1⟩, ⟨true, m2, e2⟩, ao, bo, cap, bcap, rfl, HT.out⟩
      · have HZ : Hid (sz ⟨n1, m1, e1⟩ = atL ⟨n1, m1, e1⟩ low * 2 ^ (low + 65536).toNat ∧ sz ⟨n2, m2, e2⟩ = atL ⟨n2, m2, e2⟩ low * 2 ^ (low + 65536).toNat) := ⟨sz_at hl3 hl1, sz_at hl3 hl2⟩
        have hcs := cmpSizes_any ⟨n1, m1, e1⟩ ⟨n2, m2, e2⟩ ao bo cap bcap wq hrx hsx la lb xa.2.2 xb.2.2 a0 b0 (by simp only; omega) (by simp only; omega) (by simp only; omega) (by simp only; omega)
        have hD1 : Hid _ := HD1.out hn
        have hD2 : Hid _ := HD2.out hn
        have hne : (!(n1 == n2)) = true := by simp [hn]
        have hne' : (n1 == n2) = false := by simp [hn]
        clear HS HD1 HD2 hn
        by_cases hlt : sz ⟨n1, m1, e1⟩ < sz ⟨n2, m2, e2⟩
        · have hc : cmpI (sz ⟨n1, m1, e1⟩) (sz ⟨n2, m2, e2⟩) = -1 := cmpI_lt (by omega)
          have HLT : Hid (atL ⟨n1, m1, e1⟩ low ≤ atL ⟨n2, m2, e2⟩ low) := (show _ ≤ _ by have h := HZ.out; rw [h.1, h.2] at hlt; exact Nat.le_of_lt (Nat.lt_of_mul_lt_mul_right hlt))
          rw [hc] at hcs
          clear hlt hc HZ
          cases n1 <;> cases n2
          · simp at hne
          · go_wp2_with (go_at_call 25; refine hcs.mono ?_; rintro e w1 ⟨rfl, hb1⟩; obtain ⟨k0, k1, k2, j0, j1, j2⟩ := six_on (p := w.heap.size) (q := w.heap.size + 1) hb1 ⟨c0, c1, c2, d0, d1, d2⟩; obtain ⟨y0, y1, y2⟩ := three_on (p := w.heap.size + 1 + 1) hb1 ⟨z0, z1, z2⟩; obtain ⟨q0, q1, q2⟩ := marks_on (p := w.heap.size + 1 + 1) hb1 z0 ⟨f0, f1, f2⟩; obtain ⟨s0, s1, s2⟩ := marks_on (p := w.heap.size) hb1 c0 ⟨ga0, ga1, ga2⟩; obtain ⟨t0, t1, t2⟩ := marks_on (p := w.heap.size + 1) hb1 d0 ⟨gb0, gb1, gb2⟩; have ho2 : Below w.heap.size w w1 := ho.trans (hb1.mono ho.size))
            go_meet
            have hsw := swap_box (p := w.heap.size) (.bool true) (.slice bo m2.length bcap) (.int .i64 e2) (.bool false) (.slice ao m1.length cap) (.int .i64 e1) ⟨k0, k1, k2, j0, j1, j2⟩ ⟨y0, y1, y2⟩ ⟨q0, q1, q2⟩ _ rfl
            exact ⟨false, ⟨true, m2, e2⟩, ⟨false, m1, e1⟩, bo, ao, bcap, cap, rfl, ⟨hsw.1, hsw.2.1, hsw.2.2, hs, hr, lb, la, b0, a0, ⟨hl2, by simp only; omega⟩, ⟨hl1, by simp only; omega⟩, wB, wA, ((((((ho2.setCell (by simp) _).setCell (by simp) _).setCell (by simp) _).setCell (by simp) _).setCell (by simp) _).setCell (by simp) _), ⟨(fun h => by cases h), fun _ => ⟨HLT.out, hD2.out⟩⟩⟩⟩
          · go_wp2_with (go_at_call 25; refine hcs.mono ?_; rintro e w1 ⟨rfl, hb1⟩; obtain ⟨k0, k1, k2, j0, j1, j2⟩ := six_on (p := w.heap.size) (q := w.heap.size + 1) hb1 ⟨c0, c1, c2, d0, d1, d2⟩; obtain ⟨y0, y1, y2⟩ := three_on (p := w.heap.size + 1 + 1) hb1 ⟨z0, z1, z2⟩; obtain ⟨q0, q1, q2⟩ := marks_on (p := w.heap.size + 1 + 1) hb1 z0 ⟨f0, f1, f2⟩; obtain ⟨s0, s1, s2⟩ := marks_on (p := w.heap.size) hb1 c0 ⟨ga0, ga1, ga2⟩; obtain ⟨t0, t1, t2⟩ := marks_on (p := w.heap.size + 1) hb1 d0 ⟨gb0, gb1, gb2⟩; have ho2 : Below w.heap.size w w1 := ho.trans (hb1.mono ho.size))
            go_meet
            have hsw := swap_box (p := w.heap.size) (.bool false) (.slice bo m2.length bcap) (.int .i64 e2) (.bool true) (.slice ao m1.length cap) (.int .i64 e1) ⟨k0, k1, k2, j0, j1, j2⟩ ⟨y0, y1, y2⟩ ⟨q0, q1, q2⟩ _ rfl
            exact ⟨false, ⟨false, m2, e2⟩, ⟨true, m1, e1⟩, bo, ao, bcap, cap, rfl, ⟨hsw.1, hsw.2.1, hsw.2.2, hs, hr, lb, la, b0, a0, ⟨hl2, by simp only; omega⟩, ⟨hl1, by simp only; omega⟩, wB, wA, ((((((ho2.setCell (by simp) _).setCell (by simp) _).setCell (by simp) _).setCell (by simp) _).setCell (by simp) _).setCell (by simp) _), ⟨(fun h => by cases h), fun _ => ⟨HLT.out, hD2.out⟩⟩⟩⟩
          · simp at hne
        · have hc0 : 0 ≤ cmpI (sz ⟨n1, m1, e1⟩) (sz ⟨n2, m2, e2⟩) := by unfold cmpI; (repeat' split) <;> omega
          have HLT : Hid (atL ⟨n2, m2, e2⟩ low ≤ atL ⟨n1, m1, e1⟩ low) := (show _ ≤ _ by have h := HZ.out; rw [h.1, h.2] at hlt; exact Nat.le_of_not_lt fun g => hlt (Nat.mul_lt_mul_of_pos_right g (Nat.two_pow_pos _)))
          generalize cmpI (sz ⟨n1, m1, e1⟩) (sz ⟨n2, m2, e2⟩) = cc at hcs hc0
          have hcn : ¬ cc < 0 := by omega
          clear hlt HZ
          cases n1 <;> cases n2
          · simp at hne
          · go_wp2_with (go_at_call 25; refine hcs.mono ?_; rintro e w1 ⟨rfl, hb1⟩; obtain ⟨k0, k1, k2, j0, j1, j2⟩ := six_on (p := w.heap.size) (q := w.heap.size + 1) hb1 ⟨c0, c1, c2, d0, d1, d2⟩; obtain ⟨y0, y1, y2⟩ := three_on (p := w.heap.size + 1 + 1) hb1 ⟨z0, z1, z2⟩; obtain ⟨q0, q1, q2⟩ := marks_on (p := w.heap.size + 1 + 1) hb1 z0 ⟨f0, f1, f2⟩; obtain ⟨s0, s1, s2⟩ := marks_on (p := w.heap.size) hb1 c0 ⟨ga0, ga1, ga2⟩; obtain ⟨t0, t1, t2⟩ := marks_on (p := w.heap.size + 1) hb1 d0 ⟨gb0, gb1, gb2⟩; have ho2 : Below w.heap.size w w1 := ho.trans (hb1.mono ho.size))
            go_meet
            exact ⟨false, ⟨false, m1, e1⟩, ⟨true, m2, e2⟩, ao, bo, cap, bcap, rfl, ⟨⟨k0, k1, k2, j0, j1, j2⟩, ⟨y0, y1, y2⟩, ⟨q0, q1, q2⟩, hr, hs, la, lb, a0, b0, ⟨hl1, by simp only; omega⟩, ⟨hl2, by simp only; omega⟩, wA, wB, ho2, ⟨(fun h => by cases h), fun _ => ⟨HLT.out, hD1.out⟩⟩⟩⟩
          · go_wp2_with (go_at_call 25; refine hcs.mono ?_; rintro e w1 ⟨rfl, hb1⟩; obtain ⟨k0, k1, k2, j0, j1, j2⟩ := six_on (p := w.heap.size) (q := w.heap.size + 1) hb1 ⟨c0, c1, c2, d0, d1, d2⟩; obtain ⟨y0, y1, y2⟩ := three_on (p := w.heap.size + 1 + 1) hb1 ⟨z0, z1, z2⟩; obtain ⟨q0, q1, q2⟩ := marks_on (p := w.heap.size + 1 + 1) hb1 z0 ⟨f0, f1, f2⟩; obtain ⟨s0, s1, s2⟩ := marks_on (p := w.heap.size) hb1 c0 ⟨ga0, ga1, ga2⟩; obtain ⟨t0, t1, t2⟩ := marks_on (p := w.heap.size + 1) hb1 d0 ⟨gb0, gb1, gb2⟩; have ho2 : Below w.heap.size w w1 := ho.trans (hb1.mono ho.size))
            go_meet
            exact ⟨false, ⟨true, m1, e1⟩, ⟨false, m2, e2⟩, ao, bo, cap, bcap, rfl, ⟨⟨k0, k1, k2, j0, j1, j2⟩, ⟨y0, y1, y2⟩, ⟨q0, q1, q2⟩, hr, hs, la, lb, a0, b0, ⟨hl1, by simp only; omega⟩, ⟨hl2, by simp only; omega⟩, wA, wB, ho2, ⟨(fun h => by cases h), fun _ => ⟨HLT.out, hD1.out⟩⟩⟩⟩
          · simp at hne
    obtain ⟨st, x, y, ax, ay, cx, cy, rfl, hcT⟩ := hcut
    obtain ⟨nx, mx, ex⟩ := x
    obtain ⟨ny, my, ey⟩ := y
    obtain ⟨wt, hwt⟩ : ∃ wt, wt = wc := ⟨_, rfl⟩
    subst hwt
    obtain ⟨⟨x0, x1, x2, y0, y1, y2⟩, ⟨o0, o1, o2⟩, ⟨k0, k1, k2⟩, rx, ry, lx, ly, vx0, vy0, hex, hey, hwx, hwy, old, hans⟩ := hcT
    simp only at *
    obtain ⟨n, hn⟩ : ∃ n : Nat, (n : Int) = W / 64 + 1 := ⟨(W / 64 + 1).toNat, by omega⟩
    have hmk := run_make_row' (P := Tryd.prog) 22 46 (.int .u64 0) 8 Tryd.underlying22 Tryd.infoU rfl .i64 .i64 n (by omega) (by omega)
    rw [hn] at hmk
    have hn2 : n ≤ 300 := by omega
    have hmade := FRow.made wt n
    have hbm : Below wt.heap.size wt (wt.alloc (.cells (madeCells #[.int .u64 0] n) 46)) := (Below.refl _ _).alloc (Nat.le_refl _) _
    have HFx : Hid (bl (atL ⟨nx, mx, ex⟩ low) ≤ W.toNat ∧ bl (atL ⟨ny, my, ey⟩ low) ≤ W.toNat) := ⟨by have := atL_bl (d := ⟨nx, mx, ex⟩) vx0 hex.1; simp only at this; omega, by have := atL_bl (d := ⟨ny, my, ey⟩) vy0 hey.1; simp only at this; omega⟩
    have HFit : Hid (atL ⟨nx, mx, ex⟩ low + atL ⟨ny, my, ey⟩ low < 2 ^ (64 * n)) := (show _ < _ by
      have a := bl_le_iff.1 HFx.out.1
      have b := bl_le_iff.1 HFx.out.2
      have e : 2 ^ (W.toNat + 1) ≤ 2 ^ (64 * n) := Nat.pow_le_pow_right (by omega) (by omega)
      rw [Nat.pow_succ] at e
      omega)
    obtain ⟨X, hX⟩ : ∃ X, atL ⟨nx, mx, ex⟩ low = X := ⟨_, rfl⟩
    obtain ⟨Y, hY⟩ : ∃ Y, atL ⟨ny, my, ey⟩ low = Y := ⟨_, rfl⟩
    rw [hX, hY] at HFit hans
    have HXY : Hid (X = vl mx * 2 ^ (ex - low).toNat ∧ Y = vl my * 2 ^ (ey - low).toNat) := ⟨hX.symm, hY.symm⟩
    have HAns : Hid _ := hans
    clear HFx hX hY hn hans hr hs hrx hsx ho c0 c1 c2 d0 d1 d2 z0 z1 z2 f0 f1 f2 ga0 ga1 ga2 gb0 gb1 gb2 HS HD1 HD2 la lb a0 b0 wA wB hba hbb
    have ne1 : ¬ w.heap.size = w.heap.size + 1 + 1 := by omega
    have ne2 : ¬ w.heap.size + 1 + 1 = w.heap.size := by omega
    have hwin : Hid (∀ k : Nat, win (vl mx) ((k : Int) * 64 - (ex - low)) = X / 2 ^ (64 * k) % 18446744073709551616 ∧ win (vl my) ((k : Int) * 64 - (ey - low)) = Y / 2 ^ (64 * k) % 18446744073709551616) := fun k => by
      have a := win_up (vl mx) (ex - low).toNat k
      have b := win_up (vl my) (ey - low).toNat k
      rw [show 64 * (k : Int) - ((ex - low).toNat : Int) = (k : Int) * 64 - (ex - low) by omega] at a
      rw [show 64 * (k : Int) - ((ey - low).toNat : Int) = (k : Int) * 64 - (ey - low) by omega] at b
      rw [HXY.out.1, HXY.out.2]
      exact ⟨a, b⟩
    cases st
    · simp only [Bool.false_eq_true, if_false]
      go_wp2
      clear hmk
      go_loopg [60, 10] n (fun g i cv wr => ∃ (k : Nat) (out : List Nat) (c : Nat), k ≤ n ∧ g = n - k ∧ i = .int .i64 k ∧ cv = .int .u64 c ∧ out.length = k ∧ Hid (Lessed X Y out c) ∧ FRow wr wt.heap.size n (laidF (fun _ => 0) 0 k out) ∧ Below wt.heap.size wt wr)
      case atStart => exact ⟨0, [], 0, Nat.zero_le _, rfl, rfl, rfl, rfl, lessed_nil _ _, hmade.congr (fun j _ => (laidF_zero (fun _ => 0) 0 [] j).symm), hbm⟩
      case round =>
        obtain ⟨k, out, c, hk, hg, rfl, rfl, hol, hR, hrw, hbw⟩ := hrel
        clear hmade hbm
        have hoR : Below w.heap.size w wr := old.trans (hbw.mono old.size)
        obtain ⟨p0, p1, p2, q0, q1, q2⟩ := six_on (p := w.heap.size) (q := w.heap.size + 1) hbw ⟨x0, x1, x2, y0, y1, y2⟩
        obtain ⟨r0, r1, r2⟩ := three_on (p := w.heap.size + 1 + 1) hbw ⟨o0, o1, o2⟩
        obtain ⟨s0, s1, s2⟩ := marks_on (p := w.heap.size + 1 + 1) hbw o0 ⟨k0, k1, k2⟩
        by_cases hlt : k < n
        · have kc : c ≤ 1 := hR.out.2.1
          obtain ⟨xk, hxk⟩ : ∃ xk, X / 2 ^ (64 * k) % 18446744073709551616 = xk := ⟨_, rfl⟩
          obtain ⟨yk, hyk⟩ : ∃ yk, Y / 2 ^ (64 * k) % 18446744073709551616 = yk := ⟨_, rfl⟩
          have hxl : xk < 18446744073709551616 := by rw [← hxk]; exact Nat.mod_lt _ (by omega)
          have hyl : yk < 18446744073709551616 := by rw [← hyk]; exact Nat.mod_lt _ (by omega)
          obtain ⟨s, hs⟩ : ∃ s, (xk + 18446744073709551616 - yk - c) % 18446744073709551616 = s := ⟨_, rfl⟩
          obtain ⟨d, hd⟩ : ∃ d, (if xk < yk + c then 1 else 0) = d := ⟨_, rfl⟩
          have hd1 : d ≤ 1 := by rw [← hd]; split <;> omega
          have hs1 : s < 18446744073709551616 := by rw [← hs]; exact Nat.mod_lt _ (by omega)
          have HR2 : Hid (Lessed X Y (out ++ [s]) d) := lessed_step hR.out hs1 hd1 (by rw [hol, hxk, hyk, ← hs, ← hd]; split <;> omega)
          have c1 := window_any mx ax cx ((k : Int) * 64 - (ex - low)) wr (rx.below hoR) lx (by omega) (by omega)
          have c2 := window_any my ay cy ((k : Int) * 64 - (ey - low)) wr (ry.below hoR) ly (by omega) (by omega)
          rw [(hwin.out k).1, hxk] at c1
          rw [(hwin.out k).2, hyk] at c2
          have hst := fun w' => sub64_run xk yk c kc w'
          rw [hs, hd] at hst
          have g1 := World.rowIs.cell hrw (i := k) hlt
          have g2 := World.rowIs.frozen hrw k
          have hset := hrw.set k s
          have hbs := fun v => hbw.setCell (p := ⟨wt.heap.size, k, none⟩) (Nat.le_refl _) (.int .u64 v)
          clear hR hxk hyk hs hd hrw hbw hoR x0 x1 x2 y0 y1 y2 o0 o1 o2 k0 k1 k2
          go_wp2_with (first | (go_at_call_of 44 (Value.slice ax mx.length cx); refine c1.mono ?_; rintro e w' ⟨rfl, hww⟩; subst hww) | (go_at_call_of 44 (Value.slice ay my.length cy); refine c2.mono ?_; rintro e w' ⟨rfl, hww⟩; subst hww))
          go_roundg (n - (k + 1))
          case measure => omega
          case rel => exact ⟨k + 1, _, _, by omega, rfl, by go_num, rfl, (by simp [hol]), HR2, hset.congr (fun j _ => by have := laidF_snoc (f := fun _ => 0) (off := 0) hol s j; rw [Nat.zero_add] at this; exact this), hbs _⟩
        · have hkn : k = n := by omega
          have HV : Hid (vl out + Y = X) := lessed_end hR.out (by rw [hol, hkn]; have := HFit.out; omega) (HAns.out.2 (by first | rfl | trivial)).1
          have hLo : Lm out := hR.out.1
          have hnm := norm_at nx out low n (by omega) (some ⟨wt.heap.size, 0, none⟩) n wr (FRow.lrow hrw (by omega) (fun j hj => by unfold laidF; rw [if_pos (by omega), Nat.sub_zero])) hLo (tabW_below hT hoR) (by omega)
          rw [(HAns.out.2 (by first | rfl | trivial)).2 out HV.out] at hnm
          have hlt3 : w.heap.size + 1 + 1 < wr.heap.size := World.block_lt_of_cell? wr _ r0
          clear HAns HV hwin HXY HFit hR hrw hbw x0 x1 x2 y0 y1 y2 o0 o1 o2 k0 k1 k2
          go_wp2_with (go_at_call 13; refine hnm.mono ?_; rintro e w4 ⟨ao', cap', rfl, hrow4, hfr4, hb4⟩; obtain ⟨t0, t1, t2⟩ := marks_on (p := w.heap.size + 1 + 1) hb4 r0 ⟨s0, s1, s2⟩; obtain ⟨v0, v1, v2⟩ := three_on (p := w.heap.size + 1 + 1) hb4 ⟨r0, r1, r2⟩; have ho4 : Below w.heap.size w w4 := hoR.trans (hb4.mono hoR.size); have hfr5 : Frs (w.heap.size + 3) ao' := hfr4.mono (by omega))
          exact bodyPost_ret (v := .tuple #[.agg #[.bool rn, .slice ao' rm.length cap', .int .i64 re], .int .i64 rk]) (by simp [results, Tryd.results27, go_sem, v0, v1, v2]) rfl ⟨ao', cap', rfl, ((hrow4.box hfr5 (by omega) _ _).box hfr5 (by omega) _ _).box hfr5 (by omega) _ _, hfr5.mono (by omega), ((ho4.setCell (by simp; omega) _).setCell (by simp; omega) _).setCell (by simp; omega) _⟩
    · simp only [if_true]
      go_wp2
      clear hmk
      go_loopg [60, 10] n (fun g i cv wr => ∃ (k : Nat) (out : List Nat) (c : Nat), k ≤ n ∧ g = n - k ∧ i = .int .i64 k ∧ cv = .int .u64 c ∧ out.length = k ∧ Hid (Summed X Y out c) ∧ FRow wr wt.heap.size n (laidF (fun _ => 0) 0 k out) ∧ Below wt.heap.size wt wr)
      case atStart => exact ⟨0, [], 0, Nat.zero_le _, rfl, rfl, rfl, rfl, summed_nil _ _, hmade.congr (fun j _ => (laidF_zero (fun _ => 0) 0 [] j).symm), hbm⟩
      case round =>
        obtain ⟨k, out, c, hk, hg, rfl, rfl, hol, hR, hrw, hbw⟩ := hrel
        clear hmade hbm
        have hoR : Below w.heap.size w wr := old.trans (hbw.mono old.size)
        obtain ⟨p0, p1, p2, q0, q1, q2⟩ := six_on (p := w.heap.size) (q := w.heap.size + 1) hbw ⟨x0, x1, x2, y0, y1, y2⟩
        obtain ⟨r0, r1, r2⟩ := three_on (p := w.heap.size + 1 + 1) hbw ⟨o0, o1, o2⟩
        obtain ⟨s0, s1, s2⟩ := marks_on (p := w.heap.size + 1 + 1) hbw o0 ⟨k0, k1, k2⟩
        by_cases hlt : k < n
        · have kc : c ≤ 1 := hR.out.2.1
          have hRs := summed_step hR.out
          rw [hol] at hRs
          obtain ⟨xk, hxk⟩ : ∃ xk, X / 2 ^ (64 * k) % 18446744073709551616 = xk := ⟨_, rfl⟩
          obtain ⟨yk, hyk⟩ : ∃ yk, Y / 2 ^ (64 * k) % 18446744073709551616 = yk := ⟨_, rfl⟩
          have hxl : xk < 18446744073709551616 := by rw [← hxk]; exact Nat.mod_lt _ (by omega)
          have hyl : yk < 18446744073709551616 := by rw [← hyk]; exact Nat.mod_lt _ (by omega)
          rw [hxk, hyk] at hRs
          have HR2 : Hid _ := hRs
          have c1 := window_any mx ax cx ((k : Int) * 64 - (ex - low)) wr (rx.below hoR) lx (by omega) (by omega)
          have c2 := window_any my ay cy ((k : Int) * 64 - (ey - low)) wr (ry.below hoR) ly (by omega) (by omega)
          rw [(hwin.out k).1, hxk] at c1
          rw [(hwin.out k).2, hyk] at c2
          have hst := fun w' => add64_run (xk : Int) (yk : Int) (c : Int) (by omega) (by omega) (by omega) (by omega) w'
          have ev : (((xk + yk + c) % 18446744073709551616 : Nat) : Int) = ((xk : Int) + yk + c) % 18446744073709551616 := by omega
          have ec : (((xk + yk + c) / 18446744073709551616 : Nat) : Int) = ((xk : Int) + yk + c) / 18446744073709551616 := by omega
          have g1 := World.rowIs.cell hrw (i := k) hlt
          have g2 := World.rowIs.frozen hrw k
          have hset := hrw.set k ((xk + yk + c) % 18446744073709551616)
          rw [ev] at hset
          have HEC : Hid (((xk + yk + c) / 18446744073709551616 : Nat) = ((xk : Int) + yk + c) / 18446744073709551616) := ec
          have hbs := fun v => hbw.setCell (p := ⟨wt.heap.size, k, none⟩) (Nat.le_refl _) (.int .u64 v)
          clear hRs hR hxk hyk ev ec hrw hbw hoR x0 x1 x2 y0 y1 y2 o0 o1 o2 k0 k1 k2
          go_wp2_with (first | (go_at_call_of 44 (Value.slice ax mx.length cx); refine c1.mono ?_; rintro e w' ⟨rfl, hww⟩; subst hww) | (go_at_call_of 44 (Value.slice ay my.length cy); refine c2.mono ?_; rintro e w' ⟨rfl, hww⟩; subst hww))
          go_roundg (n - (k + 1))
          case measure => omega
          case rel => exact ⟨k + 1, _, _, by omega, rfl, by go_num, (by rw [HEC.out]), (by simp [hol]), HR2, hset.congr (fun j _ => by have := laidF_snoc (f := fun _ => 0) (off := 0) hol ((xk + yk + c) % 18446744073709551616) j; rw [Nat.zero_add] at this; exact this), hbs _⟩
        · have hkn : k = n := by omega
          have HV : Hid (vl out = X + Y) := summed_end hR.out (by rw [hol, hkn]; exact HFit.out)
          have hLo : Lm out := hR.out.1
          have hnm := norm_at nx out low n (by omega) (some ⟨wt.heap.size, 0, none⟩) n wr (FRow.lrow hrw (by omega) (fun j hj => by unfold laidF; rw [if_pos (by omega), Nat.sub_zero])) hLo (tabW_below hT hoR) (by omega)
          rw [HAns.out.1 (by first | rfl | trivial) out HV.out] at hnm
          have hlt3 : w.heap.size + 1 + 1 < wr.heap.size := World.block_lt_of_cell? wr _ r0
          clear HAns HV hwin HXY HFit hR hrw hbw x0 x1 x2 y0 y1 y2 o0 o1 o2 k0 k1 k2
          go_wp2_with (go_at_call 13; refine hnm.mono ?_; rintro e w4 ⟨ao', cap', rfl, hrow4, hfr4, hb4⟩; obtain ⟨t0, t1, t2⟩ := marks_on (p := w.heap.size + 1 + 1) hb4 r0 ⟨s0, s1, s2⟩; obtain ⟨v0, v1, v2⟩ := three_on (p := w.heap.size + 1 + 1) hb4 ⟨r0, r1, r2⟩; have ho4 : Below w.heap.size w w4 := hoR.trans (hb4.mono hoR.size); have hfr5 : Frs (w.heap.size + 3) ao' := hfr4.mono (by omega))
          exact bodyPost_ret (v := .tuple #[.agg #[.bool rn, .slice ao' rm.length cap', .int .i64 re], .int .i64 rk]) (by simp [results, Tryd.results27, go_sem, v0, v1, v2]) rfl ⟨ao', cap', rfl, ((hrow4.box hfr5 (by omega) _ _).box hfr5 (by omega) _ _).box hfr5 (by omega) _ _, hfr5.mono (by omega), ((ho4.setCell (by simp; omega) _).setCell (by simp; omega) _).setCell (by simp; omega) _⟩
end Go.Proofs.YtokfkooffbihcaaDoor
