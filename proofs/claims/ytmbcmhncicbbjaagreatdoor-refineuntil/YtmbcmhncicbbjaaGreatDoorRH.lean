/- The document's number of a finite float. -/
import Derived.Test.YtmbcmhncicbbjaaGreatDoorRf4
import Derived.Test.YtmbcmhncicbbjaaGreatDoorYr
import Derived.Test.YtmbcmhncicbbjaaGreatDoorU8
import Derived.Test.YtmbcmhncicbbjaaGreatDoorR1
namespace Go.Proofs.YtmbcmhncicbbjaaGreatDoor
open Go.RowKit

/-- A finite float's number, as the document holds it. -/
def f2D (x : Nat) : Dy := ⟨sgn x, lo (spF x), spE x⟩
/-- The number of its product with another one. -/
def t2D (x y : Nat) : Dy := ⟨sgn x != sgn y, lo (vl (lo (spF x)) * vl (lo (spF y))), spE x + spE y⟩
def mnD (d : Dy) : Dy := ⟨!d.neg, d.mag, d.exp⟩
/-- b less the sum of the first k products, in units of 2^-2148. -/
def lI (row xs : List Nat) (b : Nat) : Nat → Int
  | 0 => vI b * 2 ^ 1074
  | k + 1 => lI row xs b k - vI (row.getD k 0) * vI (xs.getD k 0)
theorem f2_val {x : Nat} (hx : finB x = true) : sv (f2D x) * 2 ^ ((f2D x).exp + 1074).toNat = vI x ∧ -1074 ≤ (f2D x).exp ∧ (f2D x).exp ≤ 1023 ∧ spF x < 9007199254740992 := by
  by_cases h0 : rung x = 0
  · have e1 : spF x = 0 := by unfold spF; rw [if_pos h0]
    have e2 : spE x = 0 := by unfold spE; rw [if_pos h0]
    have e3 : vI x = 0 := by unfold vI; rw [h0, val_zero]; cases sgn x <;> rfl
    refine ⟨?_, by show -1074 ≤ spE x; omega, by show spE x ≤ 1023; omega, by omega⟩
    rw [e3, sv_zero (by show vl (lo (spF x)) = 0; rw [vl_lo, e1]), Int.zero_mul]
  · obtain ⟨p1, p2, p3⟩ := sp_parts h0
    obtain ⟨b1, b2, b3, b4, b5, b6⟩ := sp_bd hx h0
    refine ⟨?_, b4, b5, b2⟩
    have hv : val (rung x) = mg (rung x) * 2 ^ up (rung x) := (mg_up _).symm
    have e : ((f2D x).exp + 1074).toNat = spZ x + up (rung x) := by show (spE x + 1074).toNat = _; omega
    rw [e]
    unfold vI sv f2D
    simp only [vl_lo]
    rw [hv, ← p1, Nat.mul_assoc, ← Nat.pow_add]
    cases sgn x
    · simp only [Bool.false_eq_true, if_false]
      rw [Int.natCast_mul, Int.natCast_pow]; rfl
    · simp only [if_true]
      rw [Int.neg_mul, Int.natCast_mul, Int.natCast_pow]; rfl
theorem mn_val (d : Dy) : sv (mnD d) = - sv d := by
  unfold sv mnD
  cases d.neg <;> simp
theorem t2_val {x y : Nat} (hx : finB x = true) (hy : finB y = true) : Lm (t2D x y).mag ∧ (t2D x y).mag = lo (vl (t2D x y).mag) ∧ -2148 ≤ (t2D x y).exp ∧ (t2D x y).exp ≤ 2046 ∧ sv (t2D x y) * 2 ^ ((t2D x y).exp + 2148).toNat = vI x * vI y ∧ (t2D x y).mag.length ≤ 1000 := by
  obtain ⟨v1, v2, v3, v4⟩ := f2_val hx
  obtain ⟨u1, u2, u3, u4⟩ := f2_val hy
  have w2 : -1074 ≤ spE x := v2
  have w3 : spE x ≤ 1023 := v3
  have z2 : -1074 ≤ spE y := u2
  have z3 : spE y ≤ 1023 := u3
  have e : ((t2D x y).exp + 2148).toNat = (spE x + 1074).toNat + (spE y + 1074).toNat := by show (spE x + spE y + 2148).toNat = _; omega
  refine ⟨lo_lm _, ?_, by show -2148 ≤ spE x + spE y; omega, by show spE x + spE y ≤ 2046; omega, ?_, ?_⟩
  · show lo _ = lo (vl (lo _))
    rw [vl_lo (vl (lo (spF x)) * vl (lo (spF y)))]
  · rw [e, ← v1, ← u1, Int.pow_add]
    have hs : sv (t2D x y) = sv (f2D x) * sv (f2D y) := by
      unfold sv t2D f2D
      simp only [vl_lo]
      cases sgn x <;> cases sgn y <;> simp [Int.mul_neg, Int.neg_mul]
    rw [hs]
    show sv (f2D x) * sv (f2D y) * (2 ^ (spE x + 1074).toNat * 2 ^ (spE y + 1074).toNat) = sv (f2D x) * 2 ^ (spE x + 1074).toNat * (sv (f2D y) * 2 ^ (spE y + 1074).toNat)
    ac_rfl
  · show (lo _).length ≤ 1000
    rw [lo_length, vl_lo, vl_lo]
    refine Nat.le_trans (nl_le (n := 2) ?_) (by omega)
    have h1 := Nat.mul_lt_mul'' v4 u4
    omega
/-- What is left over the first k columns, as the document holds it. -/
def LfX (row xs : List Nat) (b k : Nat) (z : Dy) : Prop := Lm z.mag ∧ z.mag = lo (vl z.mag) ∧ -2148 ≤ z.exp ∧ z.exp ≤ 2046 ∧ sv z * 2 ^ (z.exp + 2148).toNat = lI row xs b k
theorem lfX_zero {row xs : List Nat} {b : Nat} (hb : finB b = true) : LfX row xs b 0 (f2D b) := by
  obtain ⟨v1, v2, v3, v4⟩ := f2_val hb
  have v2 : -1074 ≤ spE b := v2
  have v3 : spE b ≤ 1023 := v3
  refine ⟨lo_lm _, by show lo _ = lo (vl (lo _)); rw [vl_lo], by show -2148 ≤ spE b; omega, by show spE b ≤ 2046; omega, ?_⟩
  show sv (f2D b) * 2 ^ (spE b + 2148).toNat = vI b * 2 ^ 1074
  rw [← v1, show (spE b + 2148).toNat = ((f2D b).exp + 1074).toNat + 1074 by show (spE b + 2148).toNat = (spE b + 1074).toNat + 1074; omega, Int.pow_add, Int.mul_assoc]
theorem lfX_step {row xs : List Nat} {b k x y : Nat} (ex : row.getD k 0 = x) (ey : xs.getD k 0 = y) (hx : finB x = true) (hy : finB y = true) {z u : Dy} (hz : LfX row xs b k z) (hp : PlusV z (mnD (t2D x y)) u) (ht : u.mag = lo (vl u.mag) ∨ u.mag = z.mag ∨ u.mag = (mnD (t2D x y)).mag) : LfX row xs b (k + 1) u := by
  obtain ⟨z1, z2, z3, z4, z5⟩ := hz
  obtain ⟨f1, f2, f3, f4, f5, _⟩ := t2_val hx hy
  obtain ⟨p1, p2, p3⟩ := hp
  have g3 : -2148 ≤ (mnD (t2D x y)).exp := f3
  have g4 : (mnD (t2D x y)).exp ≤ 2046 := f4
  refine ⟨p1, ?_, by omega, by omega, ?_⟩
  · rcases ht with h | h | h
    · exact h
    · rw [h]; exact z2
    · rw [h]; exact f2
  · have := p3 (-2148) z3 g3
    rw [show u.exp - -2148 = u.exp + 2148 by omega, show z.exp - -2148 = z.exp + 2148 by omega, show (mnD (t2D x y)).exp - -2148 = (t2D x y).exp + 2148 by show (t2D x y).exp - -2148 = _; omega, z5, mn_val, Int.neg_mul, f5] at this
    rw [this, lI, ex, ey]; omega
/-- The program's own sum of products is the same number. -/
theorem ng_val {x : Nat} (h : finB x = true) : vI (ngW x) = - vI x := by
  have hr := fin_rung h
  have := word_rung (true ^^ sgn x) (show rung x < 9223372036854775808 by omega)
  unfold vI ngW
  rw [this.1, this.2]
  cases sgn x <;> simp
theorem one_val : vI 4607182418800017408 = 2 ^ 1074 := by kernel_rfl
theorem dI_app {av bs : List Nat} {c d : Nat} (h : av.length = bs.length) : ∀ k, k ≤ av.length → dI (av ++ [c]) (bs ++ [d]) k = dI av bs k
  | 0, _ => rfl
  | k + 1, hk => by
    have ha : (av ++ [c]).getD k 0 = av.getD k 0 := by rw [List.getD_eq_getElem?_getD, List.getD_eq_getElem?_getD, List.getElem?_append_left (by omega)]
    have hb : (bs ++ [d]).getD k 0 = bs.getD k 0 := by rw [List.getD_eq_getElem?_getD, List.getD_eq_getElem?_getD, List.getElem?_append_left (by omega)]
    rw [dI, dI, dI_app h k (by omega), ha, hb]
theorem lI_dI {row xs : List Nat} {b : Nat} (hr : row.all finB = true) (hl : xs.length = row.length) : ∀ k, k ≤ row.length → lI row xs b k = vI b * 2 ^ 1074 + dI (row.map ngW) xs k
  | 0, _ => by rw [lI, dI, Int.add_zero]
  | k + 1, hk => by
    have e : (row.map ngW).getD k 0 = ngW (row.getD k 0) := by
      rw [getD_at (by simp; omega), List.getElem_map, getD_at (by omega)]
    rw [lI, dI, lI_dI hr hl k (by omega), e, ng_val (fin_at hr (by omega)), Int.neg_mul]
    omega
theorem lI_all {row xs : List Nat} {b : Nat} (hr : row.all finB = true) (hl : xs.length = row.length) : dI (row.map ngW ++ [4607182418800017408]) (xs ++ [b]) (row.map ngW ++ [4607182418800017408]).length = lI row xs b row.length := by
  have h1 : (row.map ngW ++ [4607182418800017408]).length = (row.map ngW).length + 1 := by simp
  have hlm : (row.map ngW).length = xs.length := by simp [hl]
  have ea : (row.map ngW ++ [4607182418800017408]).getD (row.map ngW).length 0 = 4607182418800017408 := by
    rw [List.getD_eq_getElem?_getD, List.getElem?_append_right (Nat.le_refl _), Nat.sub_self]; rfl
  have eb : (xs ++ [b]).getD (row.map ngW).length 0 = b := by
    rw [hlm, List.getD_eq_getElem?_getD, List.getElem?_append_right (Nat.le_refl _), Nat.sub_self]; rfl
  rw [h1, dI, dI_app hlm _ (Nat.le_refl _), ea, eb, one_val, lI_dI hr hl row.length (Nat.le_refl _)]
  have : (row.map ngW).length = row.length := by simp
  rw [this, Int.mul_comm (2 ^ 1074)]
  omega
/-- What the document rounds it to. -/
theorem lf_round {row xs : List Nat} {b : Nat} (hr : row.all finB = true) (hl : xs.length = row.length) {z : Dy} (hz : LfX row xs b row.length z) {U t : Nat} (hU : U % 2 = 1) (hv : vl z.mag = U * 2 ^ t) (hlen : U < 2 ^ 16384) (hb14 : t < 60000) : sw z.neg (rSz U (z.exp + t) (szm z.neg 0)) = lfW row xs b := by
  obtain ⟨z1, z2, z3, z4, z5⟩ := hz
  have hX : lfW row xs b = rndW (dz (lI row xs b row.length)) 0 := by unfold lfW dxW; rw [lI_all hr hl]
  rw [hX]
  generalize lI row xs b row.length = X at *
  have U0 : U ≠ 0 := by omega
  have v0 : vl z.mag ≠ 0 := by rw [hv]; have := Nat.mul_pos (Nat.pos_of_ne_zero U0) (Nat.two_pow_pos t); omega
  have hp := pow_pos_int (z.exp + 2148).toNat
  have hab : X.natAbs = U * 2 ^ (t + (z.exp + 2148).toNat) := by
    rw [← z5, Int.natAbs_mul, sv_abs, hv, Nat.pow_add, ← Nat.mul_assoc]
    rw [Int.natAbs_pow]; rfl
  have hX0 : X ≠ 0 := by
    intro h
    rw [h] at hab
    have := Nat.mul_pos (Nat.pos_of_ne_zero U0) (Nat.two_pow_pos (t + (z.exp + 2148).toNat))
    simp at hab; omega
  have hneg : decide (X < 0) = z.neg := by
    rw [← sv_neg v0, ← z5]
    rcases (show sv z < 0 ∨ 0 ≤ sv z by omega) with h | h
    · rw [decide_eq_true h, decide_eq_true (Int.mul_neg_of_neg_of_pos h hp)]
    · rw [decide_eq_false (Int.not_lt.2 h), decide_eq_false (Int.not_lt.2 (Int.mul_nonneg h (Int.le_of_lt hp)))]
  have htz : tz X.natAbs = t + (z.exp + 2148).toNat := by
    rw [hab]
    obtain ⟨u, hu⟩ : ∃ u, U = 2 * u + 1 := ⟨U / 2, by omega⟩
    rw [hu, Nat.mul_comm]
    exact tz_of _ _
  have hdv : X.natAbs / 2 ^ tz X.natAbs = U := by rw [htz, hab, Nat.mul_div_cancel _ (Nat.two_pow_pos _)]
  have hbl : bl X.natAbs - tz X.natAbs ≤ 16384 := by
    rw [htz, hab, bl_mul_pow U0]
    have := bl_le_iff.2 hlen
    omega
  unfold dz nrm
  rw [if_neg hX0, if_neg (by rw [htz] at *; omega)]
  unfold rndW
  have hne : (lo (X.natAbs / 2 ^ tz X.natAbs)).length ≠ 0 := by
    rw [hdv]
    intro h
    have : vl (lo U) = 0 := by rw [List.eq_nil_of_length_eq_zero h]; rfl
    rw [vl_lo] at this; exact U0 this
  simp only
  rw [if_neg hne, vl_lo, hdv, hneg, htz]
  rw [show -2148 + ((t + (z.exp + 2148).toNat : Nat) : Int) = z.exp + t by omega]
  unfold sw
  rfl
end Go.Proofs.YtmbcmhncicbbjaaGreatDoor

namespace Go.Proofs.YtmbcmhncicbbjaaGreatDoor
open Go.RowKit

set_option maxHeartbeats 2000000 in
theorem rnum_any (x : Nat) (hx : x < 18446744073709551616) (hf : finB x = true) (w : World) : Calls Tryz.prog 29 #[.float .f64 x] w (GaveM w (f2D x)) := by
  have cS := fun W => rsplit_fin x hx hf W
  have bF : spF x < 9007199254740992 := (f2_val hf).2.2.2
  show Calls Tryz.prog 29 #[.float .f64 x] w (GaveM w ⟨sgn x, lo (spF x), spE x⟩)
  generalize sgn x = s at *
  generalize spF x = F at *
  generalize spE x = E at *
  have hN := fun W => natOf_any F (by omega) W
  have r0 : B3 (w.alloc (.cells #[.bool false, .slice none 0 0, .int .i64 0] 56)) w.heap.size (.bool false) (.slice none 0 0) (.int .i64 0) := B3.newAt rfl _ _ _ _
  go_enter Tryz.func29, Tryz.ntmps29
  go_upto_region 2 with (go_at_call 52; refine (cS _).mono ?_; rintro e w1 ⟨rfl, b1⟩)
  have n1 := (r0.below b1).alloc (.cells #[.bool s, .int .u64 F, .int .i64 E] 77)
  have q1 := B3.new w1 (.bool s) (.int .u64 F) (.int .i64 E) 77
  have bs := b1.size
  have hBw : Below w.heap.size w (w1.alloc (.cells #[.bool s, .int .u64 F, .int .i64 E] 77)) := by
    have b0 : Below w.heap.size w w1 := ((Below.refl _ w).alloc (Nat.le_refl _) _).trans (b1.mono (by simp))
    exact b0.alloc b0.size _
  have hs1 : (w1.alloc (.cells #[.bool s, .int .u64 F, .int .i64 E] 77)).heap.size = w1.heap.size + 1 := by simp
  have hlt : w.heap.size < w1.heap.size := by simp at bs; omega
  generalize w1.heap.size = G at *
  generalize w1.alloc (.cells #[.bool s, .int .u64 F, .int .i64 E] 77) = V at *
  obtain ⟨c0, c1, c2, _⟩ := id q1
  clear cS b1 bs r0
  have q5 : ¬ G = w.heap.size := by omega
  have q6 : ¬ w.heap.size = G := by omega
  go_region_held3 (fun w' => w'.cell? ⟨G, 0, none⟩ = some (.bool s) ∧ w'.cell? ⟨G, 1, none⟩ = some (.int .u64 F) ∧ w'.cell? ⟨G, 2, none⟩ = some (.int .i64 E)) (go_keep)
    (first | (go_at_call 53; refine (hN _).mono ?_; rintro e w2 ⟨ao1, cap1, rfl, h1, f1, b2⟩; replace b2 := undrew b2; obtain ⟨e0, e1, e2, k0, k1, k2, _⟩ := n1.below b2; obtain ⟨g0, g1, g2, _⟩ := q1.below b2))
  clear c0 c1 c2 g0 g1 g2
  have hfr : Frs (G + 1) ao1 := f1.mono (by simp [hs1])
  have hB2 : Below w.heap.size w w2 := hBw.trans (b2.mono hBw.size)
  go_wp2
  refine bodyPost_ret (v := .agg #[.bool s, .slice ao1 (lo F).length cap1, .int .i64 E]) (by simp [results, Tryz.results29, go_sem, e0, e1, e2]) rfl ⟨ao1, cap1, rfl, ?_, hfr.mono (by omega), ((hB2.setCell (by simp) _).setCell (by simp) _).setCell (by simp) _⟩
  exact ⟨((h1.1.box hfr (by omega) _ _).box hfr (by omega) _ _).box hfr (by omega) _ _, h1.2⟩
end Go.Proofs.YtmbcmhncicbbjaaGreatDoor
