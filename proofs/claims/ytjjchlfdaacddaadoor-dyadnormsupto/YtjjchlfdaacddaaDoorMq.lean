/- What the reference's Compare answers. -/
import Derived.Test.YtjjchlfdaacddaaDoorMp
import Derived.Deep.DeepCutAuto
namespace Go.Proofs.YtjjchlfdaacddaaDoor
open Go.RowKit

theorem sg_of {a b : Int} (h : a < b) : sgI (a - b) = -1 := by unfold sgI; rw [if_pos (by omega)]
theorem sg_of' {a b : Int} (h : b < a) : sgI (a - b) = 1 := by unfold sgI; rw [if_neg (by omega), if_neg (by omega)]
theorem qd_pos {d : Dy} : (0 < sv d → 0 < qd d) ∧ (sv d < 0 → qd d < 0) ∧ (sv d = 0 → qd d = 0) := by
  have hp := pow_pos_int (d.exp + 65536).toNat
  unfold qd
  exact ⟨fun h => Int.mul_pos h hp, fun h => Int.mul_neg_of_neg_of_pos h hp, fun h => by rw [h, Int.zero_mul]⟩
theorem sgI_range (x : Int) : -1 ≤ sgI x ∧ sgI x ≤ 1 := by unfold sgI; split <;> (try split) <;> omega
theorem cmp_signs {x y : Dy} : (sgI (sv x) < sgI (sv y) → sgI (qd x - qd y) = -1) ∧ (sgI (sv y) < sgI (sv x) → sgI (qd x - qd y) = 1) ∧ (sgI (sv x) = 0 → sgI (sv y) = 0 → sgI (qd x - qd y) = 0) := by
  obtain ⟨p1, p2, p3⟩ := qd_pos (d := x)
  obtain ⟨q1, q2, q3⟩ := qd_pos (d := y)
  have hx : (sgI (sv x) = -1 ∧ sv x < 0) ∨ (sgI (sv x) = 0 ∧ sv x = 0) ∨ (sgI (sv x) = 1 ∧ 0 < sv x) := by unfold sgI; split <;> (try split) <;> omega
  have hy : (sgI (sv y) = -1 ∧ sv y < 0) ∨ (sgI (sv y) = 0 ∧ sv y = 0) ∨ (sgI (sv y) = 1 ∧ 0 < sv y) := by unfold sgI; split <;> (try split) <;> omega
  rcases hx with ⟨e1, h1⟩ | ⟨e1, h1⟩ | ⟨e1, h1⟩ <;> rcases hy with ⟨e2, h2⟩ | ⟨e2, h2⟩ | ⟨e2, h2⟩ <;> rw [e1, e2] <;>
    refine ⟨fun h => ?_, fun h => ?_, fun h g => ?_⟩ <;> first
    | omega
    | (apply sg_of; first | (have := p1 h1; have := q1 h2; omega) | (have := p1 h1; have := q2 h2; omega) | (have := p1 h1; have := q3 h2; omega) | (have := p2 h1; have := q1 h2; omega) | (have := p2 h1; have := q3 h2; omega) | (have := p3 h1; have := q1 h2; omega))
    | (apply sg_of'; first | (have := p1 h1; have := q2 h2; omega) | (have := p1 h1; have := q3 h2; omega) | (have := p3 h1; have := q2 h2; omega))
    | (have a := p3 h1; have b := q3 h2; rw [a, b]; rfl)
theorem cmp_tops {x y : Dy} (hx : vl x.mag ≠ 0) (hy : vl y.mag ≠ 0) (h1 : -65536 ≤ x.exp) (h2 : -65536 ≤ y.exp) (hs : sgI (sv x) = sgI (sv y)) (ht : x.exp + (bl (vl x.mag) : Int) < y.exp + (bl (vl y.mag) : Int)) : sgI (qd x - qd y) = -sgI (sv x) ∧ sgI (qd y - qd x) = sgI (sv x) := by
  have bx := (bl_spec hx).2.1
  have by_ := (bl_spec hy).1
  have bp := bl_pos hy
  have key : vl x.mag * 2 ^ (x.exp + 65536).toNat < vl y.mag * 2 ^ (y.exp + 65536).toNat := by
    calc vl x.mag * 2 ^ (x.exp + 65536).toNat < 2 ^ bl (vl x.mag) * 2 ^ (x.exp + 65536).toNat := (Nat.mul_lt_mul_right (Nat.two_pow_pos _)).2 bx
      _ = 2 ^ (bl (vl x.mag) + (x.exp + 65536).toNat) := by rw [← Nat.pow_add]
      _ ≤ 2 ^ (bl (vl y.mag) - 1 + (y.exp + 65536).toNat) := Nat.pow_le_pow_right (by omega) (by omega)
      _ = 2 ^ (bl (vl y.mag) - 1) * 2 ^ (y.exp + 65536).toNat := by rw [Nat.pow_add]
      _ ≤ vl y.mag * 2 ^ (y.exp + 65536).toNat := Nat.mul_le_mul_right _ by_
  have k2 : (vl x.mag : Int) * 2 ^ (x.exp + 65536).toNat < (vl y.mag : Int) * 2 ^ (y.exp + 65536).toNat := by
    rw [← up_cast, ← up_cast]; omega
  have k0 : 0 ≤ (vl x.mag : Int) * 2 ^ (x.exp + 65536).toNat := Int.mul_nonneg (by omega) (Int.le_of_lt (pow_pos_int _))
  have qx : qd x = if x.neg then -((vl x.mag : Int) * 2 ^ (x.exp + 65536).toNat) else (vl x.mag : Int) * 2 ^ (x.exp + 65536).toNat := by
    unfold qd sv; cases x.neg <;> simp [Int.neg_mul]
  have qy : qd y = if y.neg then -((vl y.mag : Int) * 2 ^ (y.exp + 65536).toNat) else (vl y.mag : Int) * 2 ^ (y.exp + 65536).toNat := by
    unfold qd sv; cases y.neg <;> simp [Int.neg_mul]
  have sx : sgI (sv x) = if x.neg then -1 else 1 := by unfold sgI sv; cases x.neg <;> simp <;> omega
  have sy : sgI (sv y) = if y.neg then -1 else 1 := by unfold sgI sv; cases y.neg <;> simp <;> omega
  rw [sx, sy] at hs
  rw [qx, qy, sx]
  generalize (vl x.mag : Int) * 2 ^ (x.exp + 65536).toNat = P at *
  generalize (vl y.mag : Int) * 2 ^ (y.exp + 65536).toNat = Q at *
  cases hnx : x.neg <;> cases hny : y.neg <;> rw [hnx, hny] at hs <;> simp only [Bool.false_eq_true, if_false, if_true] at hs ⊢
  · exact ⟨sg_of k2, sg_of' k2⟩
  · omega
  · omega
  · exact ⟨sg_of' (by omega), sg_of (by omega)⟩
/-- The two boxes that Compare lays. -/
def W2 (w : World) (n1 n2 : Bool) (xs ys : List Nat) (ao bo : Option Addr) (cap bcap : Nat) (ex ey : Int) : World := (w.alloc (.cells #[.bool n1, .slice ao xs.length cap, .int .i64 ex] 64)).alloc (.cells #[.bool n2, .slice bo ys.length bcap, .int .i64 ey] 64)
theorem plus_cmp {x y z : Dy} (h1 : -65536 ≤ x.exp) (h2 : -65536 ≤ y.exp) (h : PlusV x ⟨!y.neg, y.mag, y.exp⟩ z) : sgI (sv z) = sgI (qd x - qd y) := by
  obtain ⟨_, he, hv⟩ := h
  have e := hv (-65536) h1 (by simp only; omega)
  have sy : sv ⟨!y.neg, y.mag, y.exp⟩ = -sv y := by unfold sv; cases y.neg <;> simp
  rw [sy] at e
  simp only at e
  have e2 : sv z * 2 ^ (z.exp - -65536).toNat = qd x - qd y := by
    rw [e, Int.neg_mul]; rfl
  rw [← e2, sg_mul]
set_option maxHeartbeats 4000000 in
theorem compare_any (x y : Dy) (ao bo : Option Addr) (cap bcap : Nat) (w : World) (hr : NS w ao cap x.mag) (hs : NS w bo bcap y.mag) (hL : Lm x.mag) (hM : Lm y.mag) (hn : x.mag.length ≤ 1000000) (hm : y.mag.length ≤ 1000000) (hx1 : -65536 ≤ x.exp) (hx2 : x.exp ≤ 65536) (hy1 : -65536 ≤ y.exp) (hy2 : y.exp ≤ 65536) :
    Calls Tryd.prog 52 #[.agg #[.bool x.neg, .slice ao x.mag.length cap, .int .i64 x.exp], .agg #[.bool y.neg, .slice bo y.mag.length bcap, .int .i64 y.exp]] w fun e w' => e = .returned (.int .i64 (sgI (qd x - qd y))) ∧ Below w.heap.size w w' := by
  have hSx := fun w' (h : NS w' ao cap x.mag) => nsign_any x ao cap w' h hL (by omega)
  have hSy := fun w' (h : NS w' bo bcap y.mag) => nsign_any y bo bcap w' h hM (by omega)
  have hTx := fun w' (h : NS w' ao cap x.mag) => ntop_any x ao cap w' h hL (by omega) (by omega)
  have hTy := fun w' (h : NS w' bo bcap y.mag) => ntop_any y bo bcap w' h hM (by omega) (by omega)
  have hMi := fun w' => minus_any y bo bcap w'
  have hP := fun w' (h1 : NS w' ao cap x.mag) (h2 : NS w' bo bcap y.mag) => plus_any x ⟨!y.neg, y.mag, y.exp⟩ ao bo cap bcap w' h1 h2 hL hM hn hm (by omega) (by omega) (by simp only; omega) (by simp only; omega)
  have HZ : Hid (∀ z, PlusV x ⟨!y.neg, y.mag, y.exp⟩ z → sgI (sv z) = sgI (qd x - qd y)) := fun z h => plus_cmp hx1 hy1 h
  obtain ⟨C1, C2, C3⟩ := cmp_signs (x := x) (y := y)
  have hbx := sgI_range (sv x)
  have hby := sgI_range (sv y)
  have D1 := fun h1 h2 hs ht => (cmp_tops (x := x) (y := y) h1 h2 hx1 hy1 hs ht).1
  have D2 := fun h1 h2 hs ht => (cmp_tops (x := y) (y := x) h1 h2 hy1 hx1 hs ht).2
  have hnz : ∀ d : Dy, sgI (sv d) ≠ 0 → vl d.mag ≠ 0 := fun d h e => h (by rw [sv_zero e]; rfl)
  have nzx := hnz x
  have nzy := hnz y
  clear hnz
  obtain ⟨g, hg⟩ : ∃ g, sgI (qd x - qd y) = g := ⟨_, rfl⟩
  rw [hg] at C1 C2 C3 HZ ⊢
  have D1' : vl x.mag ≠ 0 → vl y.mag ≠ 0 → sgI (sv x) = sgI (sv y) → x.exp + (bl (vl x.mag) : Int) < y.exp + (bl (vl y.mag) : Int) → g = -sgI (sv x) := fun h1 h2 hs ht => by rw [← hg]; exact D1 h1 h2 hs ht
  have D2' : vl x.mag ≠ 0 → vl y.mag ≠ 0 → sgI (sv x) = sgI (sv y) → y.exp + (bl (vl y.mag) : Int) < x.exp + (bl (vl x.mag) : Int) → g = sgI (sv x) := fun h1 h2 hs ht => by rw [← hg, D2 h2 h1 hs.symm ht, hs]
  clear D1 D2 hg
  obtain ⟨tx, htx⟩ : ∃ tx, x.exp + (bl (vl x.mag) : Int) = tx := ⟨_, rfl⟩
  obtain ⟨ty, hty⟩ : ∃ ty, y.exp + (bl (vl y.mag) : Int) = ty := ⟨_, rfl⟩
  rw [htx] at hTx D1' D2'
  rw [hty] at hTy D1' D2'
  obtain ⟨a, ha⟩ : ∃ a, sgI (sv x) = a := ⟨_, rfl⟩
  obtain ⟨b, hb⟩ : ∃ b, sgI (sv y) = b := ⟨_, rfl⟩
  rw [ha] at hSx C1 C2 C3 D1' D2' hbx nzx
  rw [hb] at hSy C1 C2 C3 D1' D2' hby nzy
  clear htx hty ha hb
  obtain ⟨n1, xs, ex⟩ := x
  obtain ⟨n2, ys, ey⟩ := y
  simp only at *
  go_enter Tryd.func52, Tryd.ntmps52
  go_upto_region 1 with fail
  go_cut [7, 8, 9, 10, 5, 6] (fun _ _ _ _ s5 s6 wx => s5 = .int .i64 a ∧ s6 = .int .i64 b ∧ Below (W2 w n1 n2 xs ys ao bo cap bcap ex ey).heap.size (W2 w n1 n2 xs ys ao bo cap bcap ex ey) wx)
  case first =>
    as_aux_lemma =>
      have base : Below (W2 w n1 n2 xs ys ao bo cap bcap ex ey).heap.size (W2 w n1 n2 xs ys ao bo cap bcap ex ey) (W2 w n1 n2 xs ys ao bo cap bcap ex ey) := Below.refl _ _
      obtain ⟨⟨c0, c1, c2⟩, ⟨d0, d1, d2⟩, _⟩ := box2 base
      clear D1' D2' C1 C2 C3 HZ
      go_region_held3 (fun w' => w'.cell? ⟨w.heap.size, 0, none⟩ = some (.bool n1) ∧ w'.cell? ⟨w.heap.size, 1, none⟩ = some (.slice ao xs.length cap) ∧ w'.cell? ⟨w.heap.size, 2, none⟩ = some (.int .i64 ex) ∧ w'.cell? ⟨w.heap.size + 1, 0, none⟩ = some (.bool n2) ∧ w'.cell? ⟨w.heap.size + 1, 1, none⟩ = some (.slice bo ys.length bcap) ∧ w'.cell? ⟨w.heap.size + 1, 2, none⟩ = some (.int .i64 ey)) (go_keep)
        (first
          | (go_at_call_of 69 (Value.agg #[.bool n1, .slice ao xs.length cap, .int .i64 ex]); refine (hSx _ (hr.below (box2_old base).drew)).mono ?_; rintro e wa ⟨rfl, ba⟩; have Ba := base.trans ((undrew ba).mono base.size); clear c0 c1 c2 d0 d1 d2; obtain ⟨⟨c0, c1, c2⟩, ⟨d0, d1, d2⟩, _⟩ := box2 Ba)
          | (go_at_call_of 69 (Value.agg #[.bool n2, .slice bo ys.length bcap, .int .i64 ey]); refine (hSy _ (hs.below (box2_old Ba))).mono ?_; rintro e wb ⟨rfl, bb⟩; have Bb := Ba.trans (bb.mono Ba.size); clear c0 c1 c2 d0 d1 d2; obtain ⟨⟨c0, c1, c2⟩, ⟨d0, d1, d2⟩, _⟩ := box2 Bb))
      go_wp2
      go_meet
      exact ⟨rfl, rfl, Bb⟩
  obtain ⟨rfl, rfl, B1⟩ := hcut
  obtain ⟨wq, hwq⟩ : ∃ wq, wq = wc := ⟨_, rfl⟩
  subst hwq
  obtain ⟨⟨c0, c1, c2⟩, ⟨d0, d1, d2⟩, _⟩ := box2 B1
  by_cases h1 : a < b
  · have HE : Hid (g = -1) := C1 h1
    have t1 : (a != b) = true := by simp; omega
    clear C1 C2 C3 D1' D2' HZ nzx nzy
    go_wp2
    go_ret
    exact ⟨retI HE.out.symm, box2_old B1⟩
  · by_cases h2 : b < a
    · have HE : Hid (g = 1) := C2 h2
      have t1 : (a != b) = true := by simp; omega
      clear C1 C2 C3 D1' D2' HZ nzx nzy
      go_wp2
      go_ret
      exact ⟨retI HE.out.symm, box2_old B1⟩
    · obtain rfl : a = b := by omega
      have t1 : (a != a) = false := by simp
      by_cases h0 : a = 0
      · have HE : Hid (g = 0) := C3 h0 h0
        have t2 : (a == 0) = true := by simpa using h0
        clear C1 C2 C3 D1' D2' HZ nzx nzy h0
        go_wp2
        go_ret
        exact ⟨retI HE.out.symm, box2_old B1⟩
      · have t2 : (a == 0) = false := by simpa using h0
        have zx := nzx h0
        have zy := nzy h0
        by_cases h3 : tx = ty
        · subst h3
          have t3 : (tx != tx) = false := by simp
          clear C1 C2 C3 D1' D2' nzx nzy zx zy h1 h2
          go_wp2
          go_region_held3 (fun w' => w'.cell? ⟨w.heap.size, 0, none⟩ = some (.bool n1) ∧ w'.cell? ⟨w.heap.size, 1, none⟩ = some (.slice ao xs.length cap) ∧ w'.cell? ⟨w.heap.size, 2, none⟩ = some (.int .i64 ex) ∧ w'.cell? ⟨w.heap.size + 1, 0, none⟩ = some (.bool n2) ∧ w'.cell? ⟨w.heap.size + 1, 1, none⟩ = some (.slice bo ys.length bcap) ∧ w'.cell? ⟨w.heap.size + 1, 2, none⟩ = some (.int .i64 ey)) (go_keep)
            (first
              | (go_at_call_of 82 (Value.agg #[.bool n1, .slice ao xs.length cap, .int .i64 ex]); refine (hTx _ (hr.below (box2_old B1).drew)).mono ?_; rintro e wa2 ⟨rfl, ba⟩; have Ba := B1.trans ((undrew ba).mono B1.size); clear c0 c1 c2 d0 d1 d2; obtain ⟨⟨c0, c1, c2⟩, ⟨d0, d1, d2⟩, _⟩ := box2 Ba)
              | (go_at_call_of 82 (Value.agg #[.bool n2, .slice bo ys.length bcap, .int .i64 ey]); refine (hTy _ (hs.below (box2_old Ba))).mono ?_; rintro e wb2 ⟨rfl, bb⟩; have B2 := Ba.trans (bb.mono Ba.size); clear c0 c1 c2 d0 d1 d2; obtain ⟨⟨c0, c1, c2⟩, ⟨d0, d1, d2⟩, _⟩ := box2 B2))
          go_wp2
          have hr2 : NS wb2.drew ao cap xs := hr.below (box2_old B2).drew
          have hs2 : NS wb2.drew bo bcap ys := hs.below (box2_old B2).drew
          go_region_held3 (fun w' => w'.cell? ⟨w.heap.size, 0, none⟩ = some (.bool n1) ∧ w'.cell? ⟨w.heap.size, 1, none⟩ = some (.slice ao xs.length cap) ∧ w'.cell? ⟨w.heap.size, 2, none⟩ = some (.int .i64 ex) ∧ w'.cell? ⟨w.heap.size + 1, 0, none⟩ = some (.bool n2) ∧ w'.cell? ⟨w.heap.size + 1, 1, none⟩ = some (.slice bo ys.length bcap) ∧ w'.cell? ⟨w.heap.size + 1, 2, none⟩ = some (.int .i64 ey)) (go_keep)
            (first
              | (go_at_call 68; refine (hMi _).mono ?_; rintro e wm ⟨rfl, bm⟩; have Bm := B2.trans ((undrew bm).mono B2.size); clear c0 c1 c2 d0 d1 d2; obtain ⟨⟨c0, c1, c2⟩, ⟨d0, d1, d2⟩, _⟩ := box2 Bm)
              | (go_at_call 66; refine (hP _ (hr2.below bm) (hs2.below bm)).mono ?_; rintro e wp ⟨⟨zn, zm, ze⟩, zo, zc, rfl, hv, hzl, _, up, bp⟩; have Bp := Bm.trans (bp.mono Bm.size); clear c0 c1 c2 d0 d1 d2; obtain ⟨⟨c0, c1, c2⟩, ⟨d0, d1, d2⟩, _⟩ := box2 Bp)
              | (go_at_call 69; refine (nsign_any ⟨zn, zm, ze⟩ zo zc _ up hv.1 (by have := hzl.1; simp only at this ⊢; omega)).mono ?_; rw [HZ.out _ hv]; rintro e ws ⟨rfl, bs⟩; have Bs := Bp.trans (bs.mono Bp.size); clear c0 c1 c2 d0 d1 d2; obtain ⟨⟨c0, c1, c2⟩, ⟨d0, d1, d2⟩, _⟩ := box2 Bs))
          go_wp2
          go_ret
          exact ⟨rfl, box2_old Bs⟩
        · have t3 : (tx != ty) = true := by simpa using h3
          by_cases h4 : tx < ty
          · have HE : Hid (g = -a) := D1' zx zy rfl h4
            clear C1 C2 C3 D1' D2' nzx nzy zx zy h1 h2 HZ h0 h3
            go_wp2
            go_region_held3 (fun w' => w'.cell? ⟨w.heap.size, 0, none⟩ = some (.bool n1) ∧ w'.cell? ⟨w.heap.size, 1, none⟩ = some (.slice ao xs.length cap) ∧ w'.cell? ⟨w.heap.size, 2, none⟩ = some (.int .i64 ex) ∧ w'.cell? ⟨w.heap.size + 1, 0, none⟩ = some (.bool n2) ∧ w'.cell? ⟨w.heap.size + 1, 1, none⟩ = some (.slice bo ys.length bcap) ∧ w'.cell? ⟨w.heap.size + 1, 2, none⟩ = some (.int .i64 ey)) (go_keep)
              (first
                | (go_at_call_of 82 (Value.agg #[.bool n1, .slice ao xs.length cap, .int .i64 ex]); refine (hTx _ (hr.below (box2_old B1).drew)).mono ?_; rintro e wa2 ⟨rfl, ba⟩; have Ba := B1.trans ((undrew ba).mono B1.size); clear c0 c1 c2 d0 d1 d2; obtain ⟨⟨c0, c1, c2⟩, ⟨d0, d1, d2⟩, _⟩ := box2 Ba)
                | (go_at_call_of 82 (Value.agg #[.bool n2, .slice bo ys.length bcap, .int .i64 ey]); refine (hTy _ (hs.below (box2_old Ba))).mono ?_; rintro e wb2 ⟨rfl, bb⟩; have B2 := Ba.trans (bb.mono Ba.size); clear c0 c1 c2 d0 d1 d2; obtain ⟨⟨c0, c1, c2⟩, ⟨d0, d1, d2⟩, _⟩ := box2 B2))
            go_wp2
            go_region_held3 (fun w' => w'.cell? ⟨w.heap.size, 0, none⟩ = some (.bool n1) ∧ w'.cell? ⟨w.heap.size, 1, none⟩ = some (.slice ao xs.length cap) ∧ w'.cell? ⟨w.heap.size, 2, none⟩ = some (.int .i64 ex) ∧ w'.cell? ⟨w.heap.size + 1, 0, none⟩ = some (.bool n2) ∧ w'.cell? ⟨w.heap.size + 1, 1, none⟩ = some (.slice bo ys.length bcap) ∧ w'.cell? ⟨w.heap.size + 1, 2, none⟩ = some (.int .i64 ey)) (go_keep)
              (first
                | (go_at_call_of 82 (Value.agg #[.bool n1, .slice ao xs.length cap, .int .i64 ex]); refine (hTx _ (hr.below (box2_old B2).drew)).mono ?_; rintro e wa3 ⟨rfl, ba⟩; have Ba := B2.trans ((undrew ba).mono B2.size); clear c0 c1 c2 d0 d1 d2; obtain ⟨⟨c0, c1, c2⟩, ⟨d0, d1, d2⟩, _⟩ := box2 Ba)
                | (go_at_call_of 82 (Value.agg #[.bool n2, .slice bo ys.length bcap, .int .i64 ey]); refine (hTy _ (hs.below (box2_old Ba))).mono ?_; rintro e wb3 ⟨rfl, bb⟩; have B3 := Ba.trans (bb.mono Ba.size); clear c0 c1 c2 d0 d1 d2; obtain ⟨⟨c0, c1, c2⟩, ⟨d0, d1, d2⟩, _⟩ := box2 B3))
            go_wp2
            go_ret
            exact ⟨retI (by rw [HE.out]), box2_old B3⟩
          · have HE : Hid (g = a) := D2' zx zy rfl (by omega)
            clear C1 C2 C3 D1' D2' nzx nzy zx zy h1 h2 HZ h0 h3
            go_wp2
            go_region_held3 (fun w' => w'.cell? ⟨w.heap.size, 0, none⟩ = some (.bool n1) ∧ w'.cell? ⟨w.heap.size, 1, none⟩ = some (.slice ao xs.length cap) ∧ w'.cell? ⟨w.heap.size, 2, none⟩ = some (.int .i64 ex) ∧ w'.cell? ⟨w.heap.size + 1, 0, none⟩ = some (.bool n2) ∧ w'.cell? ⟨w.heap.size + 1, 1, none⟩ = some (.slice bo ys.length bcap) ∧ w'.cell? ⟨w.heap.size + 1, 2, none⟩ = some (.int .i64 ey)) (go_keep)
              (first
                | (go_at_call_of 82 (Value.agg #[.bool n1, .slice ao xs.length cap, .int .i64 ex]); refine (hTx _ (hr.below (box2_old B1).drew)).mono ?_; rintro e wa2 ⟨rfl, ba⟩; have Ba := B1.trans ((undrew ba).mono B1.size); clear c0 c1 c2 d0 d1 d2; obtain ⟨⟨c0, c1, c2⟩, ⟨d0, d1, d2⟩, _⟩ := box2 Ba)
                | (go_at_call_of 82 (Value.agg #[.bool n2, .slice bo ys.length bcap, .int .i64 ey]); refine (hTy _ (hs.below (box2_old Ba))).mono ?_; rintro e wb2 ⟨rfl, bb⟩; have B2 := Ba.trans (bb.mono Ba.size); clear c0 c1 c2 d0 d1 d2; obtain ⟨⟨c0, c1, c2⟩, ⟨d0, d1, d2⟩, _⟩ := box2 B2))
            go_wp2
            go_region_held3 (fun w' => w'.cell? ⟨w.heap.size, 0, none⟩ = some (.bool n1) ∧ w'.cell? ⟨w.heap.size, 1, none⟩ = some (.slice ao xs.length cap) ∧ w'.cell? ⟨w.heap.size, 2, none⟩ = some (.int .i64 ex) ∧ w'.cell? ⟨w.heap.size + 1, 0, none⟩ = some (.bool n2) ∧ w'.cell? ⟨w.heap.size + 1, 1, none⟩ = some (.slice bo ys.length bcap) ∧ w'.cell? ⟨w.heap.size + 1, 2, none⟩ = some (.int .i64 ey)) (go_keep)
              (first
                | (go_at_call_of 82 (Value.agg #[.bool n1, .slice ao xs.length cap, .int .i64 ex]); refine (hTx _ (hr.below (box2_old B2).drew)).mono ?_; rintro e wa3 ⟨rfl, ba⟩; have Ba := B2.trans ((undrew ba).mono B2.size); clear c0 c1 c2 d0 d1 d2; obtain ⟨⟨c0, c1, c2⟩, ⟨d0, d1, d2⟩, _⟩ := box2 Ba)
                | (go_at_call_of 82 (Value.agg #[.bool n2, .slice bo ys.length bcap, .int .i64 ey]); refine (hTy _ (hs.below (box2_old Ba))).mono ?_; rintro e wb3 ⟨rfl, bb⟩; have B3 := Ba.trans (bb.mono Ba.size); clear c0 c1 c2 d0 d1 d2; obtain ⟨⟨c0, c1, c2⟩, ⟨d0, d1, d2⟩, _⟩ := box2 B3))
            go_wp2
            go_ret
            exact ⟨retI (by rw [HE.out]), box2_old B3⟩
end Go.Proofs.YtjjchlfdaacddaaDoor
