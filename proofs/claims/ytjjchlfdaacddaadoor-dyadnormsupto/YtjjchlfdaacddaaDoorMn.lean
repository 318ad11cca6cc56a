/- What the reference's Add answers. -/
import Derived.Test.YtjjchlfdaacddaaDoorMm
import Derived.Test.YtjjchlfdaacddaaDoorMl
namespace Go.Proofs.YtjjchlfdaacddaaDoor
open Go.RowKit

theorem add_not {a b : Dy} (h : rightB a = false ∨ rightB b = false) : addD a b = (dy0, 2) := by
  unfold addD
  rcases h with h | h <;> rw [h] <;> simp
theorem far_long {a b : Dy} (ra : rightB a = true) (rb : rightB b = true) (la : Lm a.mag) (lb : Lm b.mag) (h : farB a b = true) : addD a b = (dy0, 3) := by
  unfold farB at h
  simp at h
  obtain ⟨h1, h2, h3⟩ := h
  have na : a.mag.length ≠ 0 := fun e => h1 (List.eq_nil_of_length_eq_zero e)
  have nb : b.mag.length ≠ 0 := fun e => h2 (List.eq_nil_of_length_eq_zero e)
  by_cases hle : a.exp ≤ b.exp
  · exact far_add ra rb la na nb (k := (b.exp - a.exp).toNat) (by omega) (by omega)
  · rw [addD_turn]
    exact far_add rb ra lb nb na (k := (a.exp - b.exp).toNat) (by omega) (by omega)
/-- The right dyad of a number of the sum's value. -/
theorem plus_norm {a b z : Dy} (ra : rightB a = true) (rb : rightB b = true) (h : PlusV ⟨a.neg, lo (vl a.mag), a.exp⟩ ⟨b.neg, lo (vl b.mag), b.exp⟩ z) : normD z = addD a b := by
  have h1 := right_exp ra
  have h2 := right_exp rb
  obtain ⟨_, he, hv⟩ := h
  have hz : -65536 ≤ z.exp := by simp only at he; omega
  have e := hv (-65536) (by simp only; omega) (by simp only; omega)
  have sa : sv ⟨a.neg, lo (vl a.mag), a.exp⟩ = sv a := by unfold sv; simp only [vl_lo]
  have sb : sv ⟨b.neg, lo (vl b.mag), b.exp⟩ = sv b := by unfold sv; simp only [vl_lo]
  rw [sa, sb] at e
  simp only at e
  unfold addD
  rw [ra, rb]
  simp only [Bool.and_self, if_true]
  have s := nrm_shift (sv z) z.exp (z.exp + 65536).toNat
  rw [show z.exp - ((z.exp + 65536).toNat : Int) = -65536 by omega] at s
  unfold normD
  rw [← s]
  have e2 : sv z * 2 ^ (z.exp + 65536).toNat = qd a + qd b := e
  rw [e2]
set_option maxHeartbeats 2000000 in
theorem dadd_not (a b : Dy) (ao bo : Option Addr) (cap bcap : Nat) (w : World) (hr : LRow w ao a.mag) (hs : LRow w bo b.mag) (hL : Lm a.mag) (hM : Lm b.mag) (h : rightB a = false ∨ rightB b = false) :
    Calls Tryd.prog 29 #[.agg #[.bool a.neg, .slice ao a.mag.length cap, .int .i64 a.exp], .agg #[.bool b.neg, .slice bo b.mag.length bcap, .int .i64 b.exp]] w (GaveX w (addD a b)) := by
  have hR := fun w' (h : LRow w' ao a.mag) => dright_any a ao cap w' h hL
  have hQ := fun w' (h : LRow w' bo b.mag) => dright_any b bo bcap w' h hM
  rw [add_not h]
  cases ha : rightB a <;> rw [ha] at hR
  · obtain ⟨n1, xs, ex⟩ := a
    obtain ⟨n2, ys, ey⟩ := b
    simp only at *
    clear ha h
    go_enter Tryd.func29, Tryd.ntmps29
    go_wp2_with (go_at_call 16; refine (hR _ (hr.below al3)).mono ?_; rintro e w1 ⟨rfl, b1⟩; obtain ⟨⟨c0, c1, c2⟩, ⟨d0, d1, d2⟩, ⟨e0, e1, e2⟩, ⟨k0, k1, k2⟩, hB⟩ := bx3 b1)
    exact bodyPost_ret (v := .tuple #[.agg #[.bool false, .slice none 0 0, .int .i64 0], .int .i64 2]) (by simp [results, Tryd.results29, go_sem, e0, e1, e2]) rfl ⟨none, 0, rfl, NS.nil _, Frs.none _, ((hB.setCell (by simp; omega) _).setCell (by simp; omega) _).setCell (by simp; omega) _⟩
  · have hb : rightB b = false := by rcases h with h | h; · rw [ha] at h; cases h
                                     · exact h
    rw [hb] at hQ
    obtain ⟨n1, xs, ex⟩ := a
    obtain ⟨n2, ys, ey⟩ := b
    simp only at *
    clear ha h hb
    go_enter Tryd.func29, Tryd.ntmps29
    go_wp2_with (first
      | (go_at_call_of 16 (Value.agg #[.bool n1, .slice ao xs.length cap, .int .i64 ex]); refine (hR _ (hr.below al3)).mono ?_; rintro e w1 ⟨rfl, b1⟩; obtain ⟨⟨c0, c1, c2⟩, ⟨d0, d1, d2⟩, ⟨e0, e1, e2⟩, ⟨k0, k1, k2⟩, hB0⟩ := bx3 b1)
      | (go_at_call_of 16 (Value.agg #[.bool n2, .slice bo ys.length bcap, .int .i64 ey]); refine (hQ _ (hs.below hB0)).mono ?_; rintro e w2 ⟨rfl, b2⟩; have B2 := b1.trans (b2.mono b1.size); clear c0 c1 c2 d0 d1 d2 e0 e1 e2 k0 k1 k2; obtain ⟨⟨c0, c1, c2⟩, ⟨d0, d1, d2⟩, ⟨e0, e1, e2⟩, ⟨k0, k1, k2⟩, hB⟩ := bx3 B2))
    exact bodyPost_ret (v := .tuple #[.agg #[.bool false, .slice none 0 0, .int .i64 0], .int .i64 2]) (by simp [results, Tryd.results29, go_sem, e0, e1, e2]) rfl ⟨none, 0, rfl, NS.nil _, Frs.none _, ((hB.setCell (by simp; omega) _).setCell (by simp; omega) _).setCell (by simp; omega) _⟩
set_option maxHeartbeats 2000000 in
theorem dadd_far (a b : Dy) (ao bo : Option Addr) (cap bcap : Nat) (w : World) (hr : LRow w ao a.mag) (hs : LRow w bo b.mag) (hL : Lm a.mag) (hM : Lm b.mag) (ha : rightB a = true) (hb : rightB b = true) (hfar : farB a b = true) :
    Calls Tryd.prog 29 #[.agg #[.bool a.neg, .slice ao a.mag.length cap, .int .i64 a.exp], .agg #[.bool b.neg, .slice bo b.mag.length bcap, .int .i64 b.exp]] w (GaveX w (addD a b)) := by
  have hR := fun w' (h : LRow w' ao a.mag) => dright_any a ao cap w' h hL
  have hQ := fun w' (h : LRow w' bo b.mag) => dright_any b bo bcap w' h hM
  have x1 := right_exp ha
  have x2 := right_exp hb
  have hF := fun w' => far_any a b ao bo cap bcap w' (by omega) (by omega)
  rw [ha] at hR
  rw [hb] at hQ
  rw [hfar] at hF
  rw [far_long ha hb hL hM hfar]
  obtain ⟨n1, xs, ex⟩ := a
  obtain ⟨n2, ys, ey⟩ := b
  simp only at *
  clear ha hb hfar x1 x2
  go_enter Tryd.func29, Tryd.ntmps29
  go_wp2_with (first
    | (go_at_call_of 16 (Value.agg #[.bool n1, .slice ao xs.length cap, .int .i64 ex]); refine (hR _ (hr.below al3)).mono ?_; rintro e w1 ⟨rfl, b1⟩; obtain ⟨⟨c0, c1, c2⟩, ⟨d0, d1, d2⟩, ⟨e0, e1, e2⟩, ⟨k0, k1, k2⟩, hB0⟩ := bx3 b1)
    | (go_at_call_of 16 (Value.agg #[.bool n2, .slice bo ys.length bcap, .int .i64 ey]); refine (hQ _ (hs.below hB0)).mono ?_; rintro e w2 ⟨rfl, b2⟩; have B2 := b1.trans (b2.mono b1.size); clear c0 c1 c2 d0 d1 d2 e0 e1 e2 k0 k1 k2; obtain ⟨⟨c0, c1, c2⟩, ⟨d0, d1, d2⟩, ⟨e0, e1, e2⟩, ⟨k0, k1, k2⟩, hB2⟩ := bx3 B2)
    | (go_at_call 65; refine (hF _).mono ?_; rintro e w3 ⟨rfl, b3⟩; have B3 := B2.trans (b3.mono B2.size); clear c0 c1 c2 d0 d1 d2 e0 e1 e2 k0 k1 k2; obtain ⟨⟨c0, c1, c2⟩, ⟨d0, d1, d2⟩, ⟨e0, e1, e2⟩, ⟨k0, k1, k2⟩, hB⟩ := bx3 B3))
  exact bodyPost_ret (v := .tuple #[.agg #[.bool false, .slice none 0 0, .int .i64 0], .int .i64 3]) (by simp [results, Tryd.results29, go_sem, e0, e1, e2]) rfl ⟨none, 0, rfl, NS.nil _, Frs.none _, ((hB.setCell (by simp; omega) _).setCell (by simp; omega) _).setCell (by simp; omega) _⟩
set_option maxHeartbeats 4000000 in
theorem dadd_ok (a b : Dy) (ao bo : Option Addr) (cap bcap : Nat) (w : World) (hr : NS w ao cap a.mag) (hs : NS w bo bcap b.mag) (hL : Lm a.mag) (hM : Lm b.mag) (ha : rightB a = true) (hb : rightB b = true) (hfar : farB a b = false) :
    Calls Tryd.prog 29 #[.agg #[.bool a.neg, .slice ao a.mag.length cap, .int .i64 a.exp], .agg #[.bool b.neg, .slice bo b.mag.length bcap, .int .i64 b.exp]] w (GaveX w (addD a b)) := by
  have hR := fun w' (h : LRow w' ao a.mag) => dright_any a ao cap w' h hL
  have hQ := fun w' (h : LRow w' bo b.mag) => dright_any b bo bcap w' h hM
  have x1 := right_exp ha
  have x2 := right_exp hb
  rw [ha] at hR
  rw [hb] at hQ
  have hDa := fun w' (h : NS w' ao cap a.mag) => ddyad_any a ao cap w' h hL (by omega)
  have hDb := fun w' (h : NS w' bo bcap b.mag) => ddyad_any b bo bcap w' h hM (by omega)
  have l1 := lo_len hL
  have l2 := lo_len hM
  have hT := fun o1 o2 c1 c2 w' (h1 : NS w' o1 c1 (lo (vl a.mag))) (h2 : NS w' o2 c2 (lo (vl b.mag))) => plus_any ⟨a.neg, lo (vl a.mag), a.exp⟩ ⟨b.neg, lo (vl b.mag), b.exp⟩ o1 o2 c1 c2 w' h1 h2 (lo_lm _) (lo_lm _) (by simp only; omega) (by simp only; omega) (by simp only; omega) (by simp only; omega) (by simp only; omega) (by simp only; omega)
  have hF := fun w' => far_any a b ao bo cap bcap w' (by omega) (by omega)
  rw [hfar] at hF
  have hN0 := fun (z : Dy) (hv : PlusV ⟨a.neg, lo (vl a.mag), a.exp⟩ ⟨b.neg, lo (vl b.mag), b.exp⟩ z) (hl : z.mag.length ≤ (lo (vl a.mag)).length + (lo (vl b.mag)).length + 40000) o c w' (h : NS w' o c z.mag) => told_any z o c w' h hv.1 (by omega) (by have := hv.2.1; simp only at this; omega) (by have := hv.2.1; simp only at this; omega)
  have HP : Hid (∀ z, PlusV ⟨a.neg, lo (vl a.mag), a.exp⟩ ⟨b.neg, lo (vl b.mag), b.exp⟩ z → normD z = addD a b) := fun z hv => plus_norm ha hb hv
  have hN := fun (z : Dy) (hv : PlusV ⟨a.neg, lo (vl a.mag), a.exp⟩ ⟨b.neg, lo (vl b.mag), b.exp⟩ z) (hl : z.mag.length ≤ (lo (vl a.mag)).length + (lo (vl b.mag)).length + 40000) o c w' (h : NS w' o c z.mag) => by
    have hh := hN0 z hv hl o c w' h
    rw [HP.out z hv] at hh
    exact hh
  clear hN0 HP
  obtain ⟨⟨⟨rn, rm, re⟩, rk⟩, hrr⟩ : ∃ r, addD a b = r := ⟨_, rfl⟩
  rw [hrr] at hN ⊢
  obtain ⟨n1, xs, ex⟩ := a
  obtain ⟨n2, ys, ey⟩ := b
  simp only at *
  obtain ⟨A, hA⟩ : ∃ A, lo (vl xs) = A := ⟨_, rfl⟩
  obtain ⟨B, hB'⟩ : ∃ B, lo (vl ys) = B := ⟨_, rfl⟩
  rw [hA] at hDa hT hN
  rw [hB'] at hDb hT hN
  clear hrr ha hb hA hB' l1 l2 x1 x2 hL hM hfar
  have q1 : ¬ w.heap.size + 1 + 1 = w.heap.size := by omega
  have q2 : ¬ w.heap.size = w.heap.size + 1 + 1 := by omega
  go_enter Tryd.func29, Tryd.ntmps29
  go_wp2_with (first
    | (go_at_call_of 16 (Value.agg #[.bool n1, .slice ao xs.length cap, .int .i64 ex]); refine (hR _ (hr.below al3).1).mono ?_; rintro e w1 ⟨rfl, b1⟩; obtain ⟨⟨c0, c1, c2⟩, ⟨d0, d1, d2⟩, ⟨e0, e1, e2⟩, ⟨k0, k1, k2⟩, hB0⟩ := bx3 b1)
    | (go_at_call_of 16 (Value.agg #[.bool n2, .slice bo ys.length bcap, .int .i64 ey]); refine (hQ _ (hs.below hB0).1).mono ?_; rintro e w9 ⟨rfl, b2⟩; have B9 := b1.trans (b2.mono b1.size); clear c0 c1 c2 d0 d1 d2 e0 e1 e2 k0 k1 k2; obtain ⟨⟨c0, c1, c2⟩, ⟨d0, d1, d2⟩, ⟨e0, e1, e2⟩, ⟨k0, k1, k2⟩, hB9⟩ := bx3 B9)
    | (go_at_call 65; refine (hF _).mono ?_; rintro e w2 ⟨rfl, b3⟩; have B2 := B9.trans (b3.mono B9.size); clear c0 c1 c2 d0 d1 d2 e0 e1 e2 k0 k1 k2; obtain ⟨⟨c0, c1, c2⟩, ⟨d0, d1, d2⟩, ⟨e0, e1, e2⟩, ⟨k0, k1, k2⟩, hB2⟩ := bx3 B2))
  have hr2 : NS w2.drew ao cap xs := hr.below hB2.drew
  have hs2 : NS w2.drew bo bcap ys := hs.below hB2.drew
  go_region_held3 (fun w' => w'.cell? ⟨w.heap.size, 0, none⟩ = some (.bool n1) ∧ w'.cell? ⟨w.heap.size, 1, none⟩ = some (.slice ao xs.length cap) ∧ w'.cell? ⟨w.heap.size, 2, none⟩ = some (.int .i64 ex) ∧ w'.cell? ⟨w.heap.size + 1, 0, none⟩ = some (.bool n2) ∧ w'.cell? ⟨w.heap.size + 1, 1, none⟩ = some (.slice bo ys.length bcap) ∧ w'.cell? ⟨w.heap.size + 1, 2, none⟩ = some (.int .i64 ey)) (go_keep)
    (first
      | (go_at_call_of 51 (Value.agg #[.bool n1, .slice ao xs.length cap, .int .i64 ex]); refine (hDa _ (by first | exact hr2 | exact hr2.below bb)).mono ?_; rintro e wa ⟨oa, ca, rfl, ua, fa, ba⟩; have Ba : Below w2.heap.size w2 wa := (by first | exact undrew ba | exact (undrew bb).trans (ba.mono (undrew bb).size)); have B5 := B2.trans (Ba.mono B2.size); clear c0 c1 c2 d0 d1 d2 e0 e1 e2 k0 k1 k2; obtain ⟨⟨c0, c1, c2⟩, ⟨d0, d1, d2⟩, ⟨e0, e1, e2⟩, ⟨k0, k1, k2⟩, hB5⟩ := bx3 B5)
      | (go_at_call_of 51 (Value.agg #[.bool n2, .slice bo ys.length bcap, .int .i64 ey]); refine (hDb _ (by first | exact hs2 | exact hs2.below ba)).mono ?_; rintro e wb ⟨ob, cb, rfl, ub, fb, bb⟩; have Bb : Below w2.heap.size w2 wb := (by first | exact undrew bb | exact (undrew ba).trans (bb.mono (undrew ba).size)); have B6 := B2.trans (Bb.mono B2.size); clear c0 c1 c2 d0 d1 d2 e0 e1 e2 k0 k1 k2; obtain ⟨⟨c0, c1, c2⟩, ⟨d0, d1, d2⟩, ⟨e0, e1, e2⟩, ⟨k0, k1, k2⟩, hB6⟩ := bx3 B6)
      | (go_at_call 66; refine (hT _ _ _ _ _ (by first | exact ua.below bb | exact ua) (by first | exact ub | exact ub.below ba)).mono ?_; rintro e wt ⟨⟨zn, zm, ze⟩, ot, ct, rfl, hv, hzl, _, ut, bt⟩; have Bt : Below w2.heap.size w2 wt := (by first | exact Bb.trans (bt.mono Bb.size) | exact Ba.trans (bt.mono Ba.size)); have B7 := B2.trans (Bt.mono B2.size); clear c0 c1 c2 d0 d1 d2 e0 e1 e2 k0 k1 k2; obtain ⟨⟨c0, c1, c2⟩, ⟨d0, d1, d2⟩, ⟨e0, e1, e2⟩, ⟨k0, k1, k2⟩, hB7⟩ := bx3 B7)
      | (go_at_call 56; refine (hN ⟨zn, zm, ze⟩ hv hzl.1 _ _ _ ut).mono ?_; rintro e wn ⟨on, cn, rfl, un, fn, bn⟩; have B8 := B7.trans (bn.mono B7.size); clear c0 c1 c2 d0 d1 d2 e0 e1 e2 k0 k1 k2; obtain ⟨⟨c0, c1, c2⟩, ⟨d0, d1, d2⟩, ⟨e0, e1, e2⟩, ⟨k0, k1, k2⟩, hB8⟩ := bx3 B8))
  have hs7 := B7.size
  simp at hs7
  have hfr2 : Frs (w.heap.size + 3) on := fn.mono (by omega)
  go_wp2
  refine bodyPost_ret (v := .tuple #[.agg #[.bool rn, .slice on rm.length cn, .int .i64 re], .int .i64 rk]) (by simp [results, Tryd.results29, go_sem, e0, e1, e2]) rfl ⟨on, cn, rfl, ?_, hfr2.mono (by omega), ((hB8.setCell (by simp; omega) _).setCell (by simp; omega) _).setCell (by simp; omega) _⟩
  exact ⟨((un.1.box hfr2 (by omega) _ _).box hfr2 (by omega) _ _).box hfr2 (by omega) _ _, un.2⟩
theorem dadd_any (a b : Dy) (ao bo : Option Addr) (cap bcap : Nat) (w : World) (hr : NS w ao cap a.mag) (hs : NS w bo bcap b.mag) (hL : Lm a.mag) (hM : Lm b.mag) :
    Calls Tryd.prog 29 #[.agg #[.bool a.neg, .slice ao a.mag.length cap, .int .i64 a.exp], .agg #[.bool b.neg, .slice bo b.mag.length bcap, .int .i64 b.exp]] w (GaveX w (addD a b)) := by
  cases ha : rightB a
  · exact dadd_not a b ao bo cap bcap w hr.1 hs.1 hL hM (Or.inl ha)
  · cases hb : rightB b
    · exact dadd_not a b ao bo cap bcap w hr.1 hs.1 hL hM (Or.inr hb)
    · cases hfar : farB a b
      · exact dadd_ok a b ao bo cap bcap w hr hs hL hM ha hb hfar
      · exact dadd_far a b ao bo cap bcap w hr.1 hs.1 hL hM ha hb hfar
end Go.Proofs.YtjjchlfdaacddaaDoor
