/- DyadOrders for any three dyads: made, then the order's laws. -/
import Derived.Test.YtjdhadpfhnmkhaaDoorHc
import Derived.Test.YtjdhadpfhnmkhaaDoorHj
import Derived.Test.YtjdhadpfhnmkhaaDoorHb
import Derived.Test.YtjdhadpfhnmkhaaDoorEm
import Derived.Test.YtjdhadpfhnmkhaaDoorKb
namespace Go.Proofs.YtjdhadpfhnmkhaaDoor

theorem sgI_bd (x : Int) : -1 ≤ sgI x ∧ sgI x ≤ 1 := by unfold sgI; split <;> (try split) <;> omega
theorem sgI_turn (x y : Int) : sgI (y - x) = -sgI (x - y) := by unfold sgI; (repeat' split) <;> omega
theorem sgI_neg (x : Int) : sgI (-x) = -sgI x := by unfold sgI; (repeat' split) <;> omega
theorem sgI_le (x : Int) : sgI x ≤ 0 ↔ x ≤ 0 := by unfold sgI; (repeat' split) <;> omega
theorem sgI_lt (x : Int) : sgI x < 0 ↔ x < 0 := by unfold sgI; (repeat' split) <;> omega
theorem sgI_zero (x : Int) : sgI x = 0 ↔ x = 0 := by unfold sgI; (repeat' split) <;> omega
theorem sgI_cases (x : Int) : (x < 0 ∧ sgI x = -1) ∨ (x = 0 ∧ sgI x = 0) ∨ (0 < x ∧ sgI x = 1) := by unfold sgI; (repeat' split) <;> omega
theorem sgI_mul (x y : Int) : sgI (x * y) = sgI x * sgI y := by
  rcases sgI_cases x with ⟨hx, ex⟩ | ⟨hx, ex⟩ | ⟨hx, ex⟩ <;> rcases sgI_cases y with ⟨hy, ey⟩ | ⟨hy, ey⟩ | ⟨hy, ey⟩ <;> rw [ex, ey]
  · have := Int.mul_pos_of_neg_of_neg hx hy; unfold sgI; rw [if_neg (by omega), if_neg (by omega)]; rfl
  · rw [hy, Int.mul_zero]; rfl
  · have := Int.mul_neg_of_neg_of_pos hx hy; unfold sgI; rw [if_pos this]; rfl
  · rw [hx, Int.zero_mul]; rfl
  · rw [hx, Int.zero_mul]; rfl
  · rw [hx, Int.zero_mul]; rfl
  · have := Int.mul_neg_of_pos_of_neg hx hy; unfold sgI; rw [if_pos this]; rfl
  · rw [hy, Int.mul_zero]; rfl
  · have := Int.mul_pos hx hy; unfold sgI; rw [if_neg (by omega), if_neg (by omega)]; rfl
theorem sgD_qd {d : Dy} (h : rightB d = true) : sgD d = sgI (qd d) := by
  obtain ⟨e, hc⟩ := qd_sign h
  rw [e, sgI_mul]
  rcases hc with ⟨h1, _⟩ | ⟨h1, h2⟩ | ⟨h1, h2⟩
  · rw [h1]; exact (Int.zero_mul _).symm
  · have : sgI (sz d : Int) = 1 := by unfold sgI; rw [if_neg (by omega), if_neg (by omega)]
    rw [h1, this]; rfl
  · have : sgI (sz d : Int) = 1 := by unfold sgI; rw [if_neg (by omega), if_neg (by omega)]
    rw [h1, this]; rfl
theorem ord_same {x y : Dy} (rx : rightB x = true) (ry : rightB y = true) (lx : Lm x.mag) (ly : Lm y.mag) : (sgI (qd x - qd y) == 0) = eqB x y := by
  by_cases h : x = y
  · subst h
    rw [eqB_self, Int.sub_self]; rfl
  · have h1 : eqB x y = false := by
      cases hc : eqB x y
      · rfl
      · exact absurd (eqB_iff.1 hc) h
    rw [h1, beq_eq_false_iff_ne]
    intro h0
    have := (sgI_zero _).1 h0
    exact h (qd_inj lx ly rx ry (by omega))
theorem sub_val {x y : Dy} (rx : rightB x = true) (ry : rightB y = true) (h : (subD x y).2 = 0) : rightB (subD x y).1 = true ∧ qd (subD x y).1 = qd x - qd y := by
  rw [subD_right rx ry] at h ⊢
  exact nrm_q h
theorem subD_lm (x y : Dy) : Lm (subD x y).1.mag := by
  unfold subD
  split
  · exact nrm_lm _ _
  · intro v hv; simp [dy0] at hv
theorem ord_sub {x y : Dy} (rx : rightB x = true) (ry : rightB y = true) (h : (subD x y).2 = 0) : rightB (subD x y).1 = true ∧ sgD (subD x y).1 = sgI (qd x - qd y) := by
  obtain ⟨r, q⟩ := sub_val rx ry h
  exact ⟨r, by rw [sgD_qd r, q]⟩
theorem ord_add {x y z : Dy} (rx : rightB x = true) (ry : rightB y = true) (rz : rightB z = true) (h1 : (addD x z).2 = 0) (h2 : (addD y z).2 = 0) :
    rightB (addD x z).1 = true ∧ rightB (addD y z).1 = true ∧ sgI (qd (addD x z).1 - qd (addD y z).1) = sgI (qd x - qd y) := by
  obtain ⟨r1, q1⟩ := add_val rx rz h1
  obtain ⟨r2, q2⟩ := add_val ry rz h2
  exact ⟨r1, r2, by rw [q1, q2, Int.add_sub_add_right]⟩
theorem ord_mul {x y z : Dy} (rx : rightB x = true) (ry : rightB y = true) (rz : rightB z = true) (h1 : (mulD x z).2 = 0) (h2 : (mulD y z).2 = 0) :
    rightB (mulD x z).1 = true ∧ rightB (mulD y z).1 = true ∧ sgI (qd (mulD x z).1 - qd (mulD y z).1) = sgI (qd x - qd y) * sgD z := by
  obtain ⟨r1, q1⟩ := mul_val rx rz h1
  obtain ⟨r2, q2⟩ := mul_val ry rz h2
  refine ⟨r1, r2, ?_⟩
  rw [sgD_qd rz, ← sgI_mul, Int.sub_mul, ← q1, ← q2, ← Int.sub_mul, sg_mul]
theorem ord_low (x y z : Dy) : (sgI (qd x - qd y) ≤ 0 → sgI (qd y - qd z) ≤ 0 → sgI (qd x - qd z) ≤ 0) ∧ (sgI (qd x - qd y) < 0 → sgI (qd y - qd z) ≤ 0 → sgI (qd x - qd z) < 0) := by
  rw [sgI_le, sgI_le, sgI_le, sgI_lt, sgI_lt]
  omega
end Go.Proofs.YtjdhadpfhnmkhaaDoor

namespace Go.Proofs.YtjdhadpfhnmkhaaDoor
open Go.RowKit

theorem nrm_len (m e : Int) : (nrm m e).1.mag.length ≤ 256 := by
  by_cases h : (nrm m e).2 = 0
  · exact (right_exp (nrm_ok h).1).2.2
  · rw [nrm_exp h]; simp [dy0]
theorem addD_len (d e : Dy) : (addD d e).1.mag.length ≤ 256 := by
  unfold addD
  split
  · exact nrm_len _ _
  · simp [dy0]
theorem mulD_len (d e : Dy) : (mulD d e).1.mag.length ≤ 256 := by
  unfold mulD
  split
  · exact nrm_len _ _
  · simp [dy0]
theorem addD_comm (x y : Dy) : addD x y = addD y x := by unfold addD; rw [Bool.and_comm, Int.add_comm]

set_option maxHeartbeats 2000000 in
set_option maxRecDepth 100000 in
theorem ring_early (a b c x y z : Dy) (ao bo co : Option Addr) (ac bc cc : Nat) (w : World) (ra : LRow w ao a.mag) (rb : LRow w bo b.mag) (rc : LRow w co c.mag) (hT : TabW w)
    (hmade : ∀ w', LRow w' ao a.mag → LRow w' bo b.mag → LRow w' co c.mag → TabW w' → Calls Tryd.prog 8 #[.agg #[.bool a.neg, .slice ao a.mag.length ac, .int .i64 a.exp], .agg #[.bool b.neg, .slice bo b.mag.length bc, .int .i64 b.exp], .agg #[.bool c.neg, .slice co c.mag.length cc, .int .i64 c.exp]] w' (Gave3 w' x y z false)) :
    Calls Tryd.prog 3 #[.agg #[.bool a.neg, .slice ao a.mag.length ac, .int .i64 a.exp], .agg #[.bool b.neg, .slice bo b.mag.length bc, .int .i64 b.exp], .agg #[.bool c.neg, .slice co c.mag.length cc, .int .i64 c.exp]] w fun e w' => e = .returned (.bool true) ∧ Below w.heap.size w w' := by
  go_enter Tryd.func3, Tryd.ntmps3
  go_upto_region 3 with (go_at_call 7; refine (awake_any _ (tabW_alloc (tabW_alloc (tabW_alloc hT _) _) _)).mono ?_; rintro e w1 ⟨rfl, hb1⟩)
  obtain ⟨⟨c0, c1, c2, d0, d1, d2⟩, ⟨z0, z1, z2⟩, _, ho1⟩ := box3 hb1
  clear hb1
  go_wp2_with (go_at_call 8; refine (hmade _ (ra.below ho1) (rb.below ho1) (rc.below ho1) (tabW_below hT ho1)).mono ?_; rintro e w2 ⟨xo, yo, zo, xc, yc, zc, rfl, hrx, hry, hrz, hb2⟩)
  go_ret
  have hB2 := ho1.trans (hb2.mono ho1.size)
  exact ⟨rfl, ((hB2.alloc hB2.size _).alloc (by have := hB2.size; go_simp; omega) _).alloc (by have := hB2.size; go_simp; omega) _⟩

end Go.Proofs.YtjdhadpfhnmkhaaDoor

namespace Go.Proofs.YtjdhadpfhnmkhaaDoor
open Go.RowKit

set_option maxHeartbeats 2000000 in
set_option maxRecDepth 100000 in
theorem order_early (a b c x y z : Dy) (ao bo co : Option Addr) (ac bc cc : Nat) (w : World) (ra : LRow w ao a.mag) (rb : LRow w bo b.mag) (rc : LRow w co c.mag) (hT : TabW w)
    (hmade : ∀ w', LRow w' ao a.mag → LRow w' bo b.mag → LRow w' co c.mag → TabW w' → Calls Tryd.prog 8 #[.agg #[.bool a.neg, .slice ao a.mag.length ac, .int .i64 a.exp], .agg #[.bool b.neg, .slice bo b.mag.length bc, .int .i64 b.exp], .agg #[.bool c.neg, .slice co c.mag.length cc, .int .i64 c.exp]] w' (Gave3 w' x y z false)) :
    Calls Tryd.prog 4 #[.agg #[.bool a.neg, .slice ao a.mag.length ac, .int .i64 a.exp], .agg #[.bool b.neg, .slice bo b.mag.length bc, .int .i64 b.exp], .agg #[.bool c.neg, .slice co c.mag.length cc, .int .i64 c.exp]] w fun e w' => e = .returned (.bool true) ∧ Below w.heap.size w w' := by
  go_enter Tryd.func4, Tryd.ntmps4
  go_upto_region 3 with (go_at_call 7; refine (awake_any _ (tabW_alloc (tabW_alloc (tabW_alloc hT _) _) _)).mono ?_; rintro e w1 ⟨rfl, hb1⟩)
  obtain ⟨⟨c0, c1, c2, d0, d1, d2⟩, ⟨z0, z1, z2⟩, _, ho1⟩ := box3 hb1
  clear hb1
  go_wp2_with (go_at_call 8; refine (hmade _ (ra.below ho1) (rb.below ho1) (rc.below ho1) (tabW_below hT ho1)).mono ?_; rintro e w2 ⟨xo, yo, zo, xc, yc, zc, rfl, hrx, hry, hrz, hb2⟩)
  go_ret
  have hB2 := ho1.trans (hb2.mono ho1.size)
  exact ⟨rfl, ((hB2.alloc hB2.size _).alloc (by have := hB2.size; go_simp; omega) _).alloc (by have := hB2.size; go_simp; omega) _⟩


theorem three_sg (x : Int) : sgI x = -1 ∨ sgI x = 0 ∨ sgI x = 1 := by have := sgI_bd x; omega
theorem order_law (a b c : Dy) (ao bo co : Option Addr) (ac bc cc : Nat) (w : World) (ra : LRow w ao a.mag) (rb : LRow w bo b.mag) (rc : LRow w co c.mag) (la : Lm a.mag) (lb : Lm b.mag) (lc : Lm c.mag)
    (sa : ao = none → ac = 0 ∧ a.mag.length = 0) (sb : bo = none → bc = 0 ∧ b.mag.length = 0) (sc : co = none → cc = 0 ∧ c.mag.length = 0) (na : a.mag.length ≤ 17592186044416) (nb : b.mag.length ≤ 17592186044416) (nc : c.mag.length ≤ 17592186044416) (hT : TabW w) :
    Calls Tryd.prog 4 #[.agg #[.bool a.neg, .slice ao a.mag.length ac, .int .i64 a.exp], .agg #[.bool b.neg, .slice bo b.mag.length bc, .int .i64 b.exp], .agg #[.bool c.neg, .slice co c.mag.length cc, .int .i64 c.exp]] w fun e w' => e = .returned (.bool true) ∧ Below w.heap.size w w' := by
  obtain ⟨⟨x, k1⟩, hx⟩ : ∃ r, normD a = r := ⟨_, rfl⟩
  obtain ⟨⟨y, k2⟩, hy⟩ : ∃ r, normD b = r := ⟨_, rfl⟩
  obtain ⟨⟨z, k3⟩, hz⟩ : ∃ r, normD c = r := ⟨_, rfl⟩
  have hmade := fun (ok : Bool) (hok : ((k1 == 0) && ((k2 == 0) && (k3 == 0))) = ok) w' (ra' : LRow w' ao a.mag) (rb' : LRow w' bo b.mag) (rc' : LRow w' co c.mag) (hT' : TabW w') =>
    made_walk a b c x y z k1 k2 k3 ao bo co ac bc cc w' ra' rb' rc' la lb lc sa sb sc na nb nc hT' hx hy hz ok hok
  cases hk : ((k1 == 0) && ((k2 == 0) && (k3 == 0)))
  · exact order_early a b c x y z ao bo co ac bc cc w ra rb rc hT (hmade false hk)
  · obtain ⟨e1, e2, e3⟩ : k1 = 0 ∧ k2 = 0 ∧ k3 = 0 := by simpa using hk
    have rt : ∀ d r k, normD d = (r, k) → k = 0 → rightB r = true ∧ Lm r.mag ∧ r.mag.length ≤ 256 := fun d r k h h0 => by
      have h1 : (nrm (sv d) d.exp).2 = 0 := by rw [show nrm (sv d) d.exp = (r, k) from h]; exact h0
      have h2 := (nrm_ok h1).1
      have h3 := nrm_lm (sv d) d.exp
      have h4 := nrm_len (sv d) d.exp
      rw [show nrm (sv d) d.exp = (r, k) from h] at h2 h3 h4
      exact ⟨h2, h3, h4⟩
    obtain ⟨rx, lx, nx⟩ := rt a x k1 hx e1
    obtain ⟨ry, ly, ny⟩ := rt b y k2 hy e2
    obtain ⟨rz, lz, nz⟩ := rt c z k3 hz e3
    exact order_ok a b c x y z (subD x y).1 (addD x z).1 (addD y z).1 (mulD x z).1 (mulD y z).1 (subD x y).2 (addD x z).2 (addD y z).2 (mulD x z).2 (mulD y z).2
      (sgI (qd x - qd y)) (sgI (qd y - qd x)) (sgI (qd y - qd z)) (sgI (qd x - qd z)) (sgD z) ao bo co ac bc cc w ra rb rc hT (hmade true hk)
      lx ly lz (subD_lm _ _) (addD_lm _ _) (addD_lm _ _) (mulD_lm _ _) (mulD_lm _ _) nx rx ry rz rfl rfl rfl rfl rfl rfl rfl rfl rfl rfl
      (three_sg _) (by have h := three_sg (qd z); rw [← sgD_qd rz] at h; exact h) (sgI_turn _ _) (ord_same rx ry lx ly) (ord_low x y z)
      (fun h => ord_sub rx ry h) (fun h1 h2 => ord_add rx ry rz h1 h2) (fun h1 h2 => ord_mul rx ry rz h1 h2)
end Go.Proofs.YtjdhadpfhnmkhaaDoor
