/- What the reference's Mul answers. -/
import Derived.Test.YtjjchlfdaacddaaDoorMk
import Derived.Test.YtjjchlfdaacddaaDoorNn
namespace Go.Proofs.YtjjchlfdaacddaaDoor
open Go.RowKit

/-- A product's right dyad, by the values. -/
theorem dmul_norm {a b : Dy} (ha : rightB a = true) (hb : rightB b = true) : normD ⟨a.neg != b.neg, lo (vl a.mag * vl b.mag), a.exp + b.exp⟩ = mulD a b := by
  have h1 := right_exp ha
  have h2 := right_exp hb
  unfold mulD
  rw [ha, hb]
  simp only [Bool.and_self, if_true]
  unfold normD qd
  have e : sv ⟨a.neg != b.neg, lo (vl a.mag * vl b.mag), a.exp + b.exp⟩ = sv a * sv b := by
    unfold sv
    simp only [vl_lo]
    have h := Int.natCast_mul (vl a.mag) (vl b.mag)
    cases a.neg <;> cases b.neg <;> simp [h, Int.neg_mul, Int.mul_neg]
  rw [e]
  simp only
  have s := nrm_shift (sv a * sv b) (a.exp + b.exp) ((a.exp + 65536).toNat + (b.exp + 65536).toNat)
  rw [show a.exp + b.exp - (((a.exp + 65536).toNat + (b.exp + 65536).toNat : Nat) : Int) = -131072 by omega] at s
  rw [← s]
  congr 1
  rw [Int.pow_add]
  ac_rfl
theorem mul_not {a b : Dy} (h : rightB a = false ∨ rightB b = false) : mulD a b = (dy0, 2) := by
  unfold mulD
  rcases h with h | h <;> rw [h] <;> simp
set_option maxHeartbeats 2000000 in
theorem dmul_not (a b : Dy) (ao bo : Option Addr) (cap bcap : Nat) (w : World) (hr : LRow w ao a.mag) (hs : LRow w bo b.mag) (hL : Lm a.mag) (hM : Lm b.mag) (h : rightB a = false ∨ rightB b = false) :
    Calls Tryd.prog 31 #[.agg #[.bool a.neg, .slice ao a.mag.length cap, .int .i64 a.exp], .agg #[.bool b.neg, .slice bo b.mag.length bcap, .int .i64 b.exp]] w (GaveX w (mulD a b)) := by
  have hR := fun w' (h : LRow w' ao a.mag) => dright_any a ao cap w' h hL
  have hQ := fun w' (h : LRow w' bo b.mag) => dright_any b bo bcap w' h hM
  rw [mul_not h]
  cases ha : rightB a <;> rw [ha] at hR
  · obtain ⟨n1, xs, ex⟩ := a
    obtain ⟨n2, ys, ey⟩ := b
    simp only at *
    clear ha h
    go_enter Tryd.func31, Tryd.ntmps31
    go_wp2_with (go_at_call 16; refine (hR _ (hr.below al3)).mono ?_; rintro e w1 ⟨rfl, b1⟩; obtain ⟨⟨c0, c1, c2⟩, ⟨d0, d1, d2⟩, ⟨e0, e1, e2⟩, ⟨k0, k1, k2⟩, hB⟩ := bx3 b1)
    exact bodyPost_ret (v := .tuple #[.agg #[.bool false, .slice none 0 0, .int .i64 0], .int .i64 2]) (by simp [results, Tryd.results31, go_sem, e0, e1, e2]) rfl ⟨none, 0, rfl, NS.nil _, Frs.none _, ((hB.setCell (by simp; omega) _).setCell (by simp; omega) _).setCell (by simp; omega) _⟩
  · have hb : rightB b = false := by rcases h with h | h; · rw [ha] at h; cases h
                                     · exact h
    rw [hb] at hQ
    obtain ⟨n1, xs, ex⟩ := a
    obtain ⟨n2, ys, ey⟩ := b
    simp only at *
    clear ha h hb
    go_enter Tryd.func31, Tryd.ntmps31
    go_wp2_with (first
      | (go_at_call_of 16 (Value.agg #[.bool n1, .slice ao xs.length cap, .int .i64 ex]); refine (hR _ (hr.below al3)).mono ?_; rintro e w1 ⟨rfl, b1⟩; obtain ⟨⟨c0, c1, c2⟩, ⟨d0, d1, d2⟩, ⟨e0, e1, e2⟩, ⟨k0, k1, k2⟩, hB0⟩ := bx3 b1)
      | (go_at_call_of 16 (Value.agg #[.bool n2, .slice bo ys.length bcap, .int .i64 ey]); refine (hQ _ (hs.below hB0)).mono ?_; rintro e w2 ⟨rfl, b2⟩; have B2 := b1.trans (b2.mono b1.size); clear c0 c1 c2 d0 d1 d2 e0 e1 e2 k0 k1 k2; obtain ⟨⟨c0, c1, c2⟩, ⟨d0, d1, d2⟩, ⟨e0, e1, e2⟩, ⟨k0, k1, k2⟩, hB⟩ := bx3 B2))
    exact bodyPost_ret (v := .tuple #[.agg #[.bool false, .slice none 0 0, .int .i64 0], .int .i64 2]) (by simp [results, Tryd.results31, go_sem, e0, e1, e2]) rfl ⟨none, 0, rfl, NS.nil _, Frs.none _, ((hB.setCell (by simp; omega) _).setCell (by simp; omega) _).setCell (by simp; omega) _⟩
set_option maxHeartbeats 4000000 in
theorem dmul_ok (a b : Dy) (ao bo : Option Addr) (cap bcap : Nat) (w : World) (hr : NS w ao cap a.mag) (hs : NS w bo bcap b.mag) (hL : Lm a.mag) (hM : Lm b.mag) (ha : rightB a = true) (hb : rightB b = true) :
    Calls Tryd.prog 31 #[.agg #[.bool a.neg, .slice ao a.mag.length cap, .int .i64 a.exp], .agg #[.bool b.neg, .slice bo b.mag.length bcap, .int .i64 b.exp]] w (GaveX w (mulD a b)) := by
  have hR := fun w' (h : LRow w' ao a.mag) => dright_any a ao cap w' h hL
  have hQ := fun w' (h : LRow w' bo b.mag) => dright_any b bo bcap w' h hM
  have x1 := right_exp ha
  have x2 := right_exp hb
  rw [ha] at hR
  rw [hb] at hQ
  have hDa := fun w' (h : NS w' ao cap a.mag) => ddyad_any a ao cap w' h hL (by omega)
  have hDb := fun w' (h : NS w' bo bcap b.mag) => ddyad_any b bo bcap w' h hM (by omega)
  have l1 := lo_len hL
  have l2 := lo_len hM
  have hT := fun o1 o2 c1 c2 w' (h1 : NS w' o1 c1 (lo (vl a.mag))) (h2 : NS w' o2 c2 (lo (vl b.mag))) => times_any ⟨a.neg, lo (vl a.mag), a.exp⟩ ⟨b.neg, lo (vl b.mag), b.exp⟩ o1 o2 c1 c2 w' h1 h2 (lo_lm _) (lo_lm _) (by simp only; omega) (by simp only; omega) (by simp only; omega) (by simp only; omega)
  simp only [vl_lo] at hT
  have l3 : (lo (vl a.mag * vl b.mag)).length ≤ 512 := by
    obtain ⟨N, hN⟩ : ∃ N, N = 256 := ⟨_, rfl⟩
    have h1 : vl a.mag < 2 ^ (64 * N) := Nat.lt_of_lt_of_le (vl_lt hL) (Nat.pow_le_pow_right (by omega) (by omega))
    have h2 : vl b.mag < 2 ^ (64 * N) := Nat.lt_of_lt_of_le (vl_lt hM) (Nat.pow_le_pow_right (by omega) (by omega))
    have h3 : vl a.mag * vl b.mag < 2 ^ (64 * (N + N)) := by
      rw [show 64 * (N + N) = 64 * N + 64 * N by omega, Nat.pow_add]
      exact Nat.mul_lt_mul'' h1 h2
    rw [lo_length]
    have := nl_le h3
    omega
  have hN := fun o c w' (h : NS w' o c (lo (vl a.mag * vl b.mag))) => told_any ⟨a.neg != b.neg, lo (vl a.mag * vl b.mag), a.exp + b.exp⟩ o c w' h (lo_lm _) (by simp only; omega) (by simp only; omega) (by simp only; omega)
  rw [dmul_norm ha hb] at hN
  obtain ⟨⟨⟨rn, rm, re⟩, rk⟩, hrr⟩ : ∃ r, mulD a b = r := ⟨_, rfl⟩
  rw [hrr] at hN ⊢
  obtain ⟨n1, xs, ex⟩ := a
  obtain ⟨n2, ys, ey⟩ := b
  simp only at *
  obtain ⟨A, hA⟩ : ∃ A, lo (vl xs) = A := ⟨_, rfl⟩
  obtain ⟨B, hB'⟩ : ∃ B, lo (vl ys) = B := ⟨_, rfl⟩
  obtain ⟨C, hC⟩ : ∃ C, lo (vl xs * vl ys) = C := ⟨_, rfl⟩
  rw [hA] at hDa hT
  rw [hB'] at hDb hT
  rw [hC] at hT hN
  obtain ⟨n3, hn3⟩ : ∃ n3, (n1 != n2) = n3 := ⟨_, rfl⟩
  rw [hn3] at hT hN
  clear hrr ha hb hA hB' hC hn3 l1 l2 l3 x1 x2 hL hM
  have q1 : ¬ w.heap.size + 1 + 1 = w.heap.size := by omega
  have q2 : ¬ w.heap.size = w.heap.size + 1 + 1 := by omega
  go_enter Tryd.func31, Tryd.ntmps31
  go_wp2_with (first
    | (go_at_call_of 16 (Value.agg #[.bool n1, .slice ao xs.length cap, .int .i64 ex]); refine (hR _ (hr.below al3).1).mono ?_; rintro e w1 ⟨rfl, b1⟩; obtain ⟨⟨c0, c1, c2⟩, ⟨d0, d1, d2⟩, ⟨e0, e1, e2⟩, ⟨k0, k1, k2⟩, hB0⟩ := bx3 b1)
    | (go_at_call_of 16 (Value.agg #[.bool n2, .slice bo ys.length bcap, .int .i64 ey]); refine (hQ _ (hs.below hB0).1).mono ?_; rintro e w2 ⟨rfl, b2⟩; have B2 := b1.trans (b2.mono b1.size); clear c0 c1 c2 d0 d1 d2 e0 e1 e2 k0 k1 k2; obtain ⟨⟨c0, c1, c2⟩, ⟨d0, d1, d2⟩, ⟨e0, e1, e2⟩, ⟨k0, k1, k2⟩, hB2⟩ := bx3 B2))
  have hr2 : NS w2.drew ao cap xs := hr.below hB2.drew
  have hs2 : NS w2.drew bo bcap ys := hs.below hB2.drew
  go_region_held3 (fun w' => w'.cell? ⟨w.heap.size, 0, none⟩ = some (.bool n1) ∧ w'.cell? ⟨w.heap.size, 1, none⟩ = some (.slice ao xs.length cap) ∧ w'.cell? ⟨w.heap.size, 2, none⟩ = some (.int .i64 ex) ∧ w'.cell? ⟨w.heap.size + 1, 0, none⟩ = some (.bool n2) ∧ w'.cell? ⟨w.heap.size + 1, 1, none⟩ = some (.slice bo ys.length bcap) ∧ w'.cell? ⟨w.heap.size + 1, 2, none⟩ = some (.int .i64 ey)) (go_keep)
    (first
      | (go_at_call_of 51 (Value.agg #[.bool n1, .slice ao xs.length cap, .int .i64 ex]); refine (hDa _ (by first | exact hr2 | exact hr2.below bb)).mono ?_; rintro e wa ⟨oa, ca, rfl, ua, fa, ba⟩; have Ba : Below w2.heap.size w2 wa := (by first | exact undrew ba | exact (undrew bb).trans (ba.mono (undrew bb).size)); have B5 := B2.trans (Ba.mono B2.size); clear c0 c1 c2 d0 d1 d2 e0 e1 e2 k0 k1 k2; obtain ⟨⟨c0, c1, c2⟩, ⟨d0, d1, d2⟩, ⟨e0, e1, e2⟩, ⟨k0, k1, k2⟩, hB5⟩ := bx3 B5)
      | (go_at_call_of 51 (Value.agg #[.bool n2, .slice bo ys.length bcap, .int .i64 ey]); refine (hDb _ (by first | exact hs2 | exact hs2.below ba)).mono ?_; rintro e wb ⟨ob, cb, rfl, ub, fb, bb⟩; have Bb : Below w2.heap.size w2 wb := (by first | exact undrew bb | exact (undrew ba).trans (bb.mono (undrew ba).size)); have B6 := B2.trans (Bb.mono B2.size); clear c0 c1 c2 d0 d1 d2 e0 e1 e2 k0 k1 k2; obtain ⟨⟨c0, c1, c2⟩, ⟨d0, d1, d2⟩, ⟨e0, e1, e2⟩, ⟨k0, k1, k2⟩, hB6⟩ := bx3 B6)
      | (go_at_call 67; refine (hT _ _ _ _ _ (by first | exact ua.below bb | exact ua) (by first | exact ub | exact ub.below ba)).mono ?_; rintro e wt ⟨ot, ct, rfl, ut, ft, bt⟩; have Bt : Below w2.heap.size w2 wt := (by first | exact Bb.trans (bt.mono Bb.size) | exact Ba.trans (bt.mono Ba.size)); have B7 := B2.trans (Bt.mono B2.size); clear c0 c1 c2 d0 d1 d2 e0 e1 e2 k0 k1 k2; obtain ⟨⟨c0, c1, c2⟩, ⟨d0, d1, d2⟩, ⟨e0, e1, e2⟩, ⟨k0, k1, k2⟩, hB7⟩ := bx3 B7)
      | (go_at_call 56; refine (hN _ _ _ ut).mono ?_; rintro e wn ⟨on, cn, rfl, un, fn, bn⟩; have B8 := B7.trans (bn.mono B7.size); clear c0 c1 c2 d0 d1 d2 e0 e1 e2 k0 k1 k2; obtain ⟨⟨c0, c1, c2⟩, ⟨d0, d1, d2⟩, ⟨e0, e1, e2⟩, ⟨k0, k1, k2⟩, hB8⟩ := bx3 B8))
  have hs7 := B7.size
  simp at hs7
  have hfr2 : Frs (w.heap.size + 3) on := fn.mono (by omega)
  go_wp2
  refine bodyPost_ret (v := .tuple #[.agg #[.bool rn, .slice on rm.length cn, .int .i64 re], .int .i64 rk]) (by simp [results, Tryd.results31, go_sem, e0, e1, e2]) rfl ⟨on, cn, rfl, ?_, hfr2.mono (by omega), ((hB8.setCell (by simp; omega) _).setCell (by simp; omega) _).setCell (by simp; omega) _⟩
  exact ⟨((un.1.box hfr2 (by omega) _ _).box hfr2 (by omega) _ _).box hfr2 (by omega) _ _, un.2⟩
theorem dmul_any (a b : Dy) (ao bo : Option Addr) (cap bcap : Nat) (w : World) (hr : NS w ao cap a.mag) (hs : NS w bo bcap b.mag) (hL : Lm a.mag) (hM : Lm b.mag) :
    Calls Tryd.prog 31 #[.agg #[.bool a.neg, .slice ao a.mag.length cap, .int .i64 a.exp], .agg #[.bool b.neg, .slice bo b.mag.length bcap, .int .i64 b.exp]] w (GaveX w (mulD a b)) := by
  cases ha : rightB a
  · exact dmul_not a b ao bo cap bcap w hr.1 hs.1 hL hM (Or.inl ha)
  · cases hb : rightB b
    · exact dmul_not a b ao bo cap bcap w hr.1 hs.1 hL hM (Or.inr hb)
    · exact dmul_ok a b ao bo cap bcap w hr hs hL hM ha hb
end Go.Proofs.YtjjchlfdaacddaaDoor
