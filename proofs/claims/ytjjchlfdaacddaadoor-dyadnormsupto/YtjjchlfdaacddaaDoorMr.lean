/- What Cmp answers, the program's and the reference's, of any two dyads. -/
import Derived.Test.YtjjchlfdaacddaaDoorMq
import Derived.Test.YtjjchlfdaacddaaDoorHk
namespace Go.Proofs.YtjjchlfdaacddaaDoor
open Go.RowKit

set_option maxHeartbeats 2000000 in
theorem cmp_arg (a b : Dy) (ao bo : Option Addr) (cap bcap : Nat) (w : World) (hr : LRow w ao a.mag) (hs : LRow w bo b.mag) (hL : Lm a.mag) (hM : Lm b.mag) (h : rightB a = false ∨ rightB b = false) :
    Calls Tryd.prog 26 #[.agg #[.bool a.neg, .slice ao a.mag.length cap, .int .i64 a.exp], .agg #[.bool b.neg, .slice bo b.mag.length bcap, .int .i64 b.exp]] w fun e w' => e = .returned (.tuple #[.int .i64 0, .int .i64 2]) ∧ Below w.heap.size w w' := by
  have hR := fun w' (h : LRow w' ao a.mag) => right_any a ao cap w' h hL
  have hQ := fun w' (h : LRow w' bo b.mag) => right_any b bo bcap w' h hM
  cases ha : rightB a <;> rw [ha] at hR
  · obtain ⟨n1, xs, ex⟩ := a
    obtain ⟨n2, ys, ey⟩ := b
    simp only at *
    clear ha h
    go_enter Tryd.func26, Tryd.ntmps26
    go_wp2_with (go_at_call 10; refine (hR _ ((hr.alloc _).alloc _)).mono ?_; rintro e w1 ⟨rfl, b1⟩; obtain ⟨⟨c0, c1, c2⟩, ⟨d0, d1, d2⟩, _⟩ := box2 b1)
    go_ret2
    exact ⟨rfl, box2_old b1⟩
  · have hb : rightB b = false := by
      rcases h with h | h
      · rw [ha] at h; cases h
      · exact h
    rw [hb] at hQ
    obtain ⟨n1, xs, ex⟩ := a
    obtain ⟨n2, ys, ey⟩ := b
    simp only at *
    clear ha h hb
    go_enter Tryd.func26, Tryd.ntmps26
    go_wp2_with (first
      | (go_at_call_of 10 (Value.agg #[.bool n1, .slice ao xs.length cap, .int .i64 ex]); refine (hR _ ((hr.alloc _).alloc _)).mono ?_; rintro e w1 ⟨rfl, b1⟩; obtain ⟨⟨c0, c1, c2⟩, ⟨d0, d1, d2⟩, _⟩ := box2 b1)
      | (go_at_call_of 10 (Value.agg #[.bool n2, .slice bo ys.length bcap, .int .i64 ey]); refine (hQ _ (hs.below (box2_old b1))).mono ?_; rintro e w2 ⟨rfl, b2⟩; have B2 := b1.trans (b2.mono b1.size)))
    go_ret2
    exact ⟨rfl, box2_old B2⟩
set_option maxHeartbeats 2000000 in
theorem dcmp_arg (a b : Dy) (ao bo : Option Addr) (cap bcap : Nat) (w : World) (hr : LRow w ao a.mag) (hs : LRow w bo b.mag) (hL : Lm a.mag) (hM : Lm b.mag) (h : rightB a = false ∨ rightB b = false) :
    Calls Tryd.prog 32 #[.agg #[.bool a.neg, .slice ao a.mag.length cap, .int .i64 a.exp], .agg #[.bool b.neg, .slice bo b.mag.length bcap, .int .i64 b.exp]] w fun e w' => e = .returned (.tuple #[.int .i64 0, .int .i64 2]) ∧ Below w.heap.size w w' := by
  have hR := fun w' (h : LRow w' ao a.mag) => dright_any a ao cap w' h hL
  have hQ := fun w' (h : LRow w' bo b.mag) => dright_any b bo bcap w' h hM
  cases ha : rightB a <;> rw [ha] at hR
  · obtain ⟨n1, xs, ex⟩ := a
    obtain ⟨n2, ys, ey⟩ := b
    simp only at *
    clear ha h
    go_enter Tryd.func32, Tryd.ntmps32
    go_wp2_with (go_at_call 16; refine (hR _ ((hr.alloc _).alloc _)).mono ?_; rintro e w1 ⟨rfl, b1⟩; obtain ⟨⟨c0, c1, c2⟩, ⟨d0, d1, d2⟩, _⟩ := box2 b1)
    go_ret2
    exact ⟨rfl, box2_old b1⟩
  · have hb : rightB b = false := by
      rcases h with h | h
      · rw [ha] at h; cases h
      · exact h
    rw [hb] at hQ
    obtain ⟨n1, xs, ex⟩ := a
    obtain ⟨n2, ys, ey⟩ := b
    simp only at *
    clear ha h hb
    go_enter Tryd.func32, Tryd.ntmps32
    go_wp2_with (first
      | (go_at_call_of 16 (Value.agg #[.bool n1, .slice ao xs.length cap, .int .i64 ex]); refine (hR _ ((hr.alloc _).alloc _)).mono ?_; rintro e w1 ⟨rfl, b1⟩; obtain ⟨⟨c0, c1, c2⟩, ⟨d0, d1, d2⟩, _⟩ := box2 b1)
      | (go_at_call_of 16 (Value.agg #[.bool n2, .slice bo ys.length bcap, .int .i64 ey]); refine (hQ _ (hs.below (box2_old b1))).mono ?_; rintro e w2 ⟨rfl, b2⟩; have B2 := b1.trans (b2.mono b1.size)))
    go_ret2
    exact ⟨rfl, box2_old B2⟩

theorem cmp_all (a b : Dy) (ao bo : Option Addr) (cap bcap : Nat) (w : World) (hr : LRow w ao a.mag) (hs : LRow w bo b.mag) (hL : Lm a.mag) (hM : Lm b.mag) :
    Calls Tryd.prog 26 #[.agg #[.bool a.neg, .slice ao a.mag.length cap, .int .i64 a.exp], .agg #[.bool b.neg, .slice bo b.mag.length bcap, .int .i64 b.exp]] w fun e w' => e = .returned (.tuple #[.int .i64 (cmpD a b).1, .int .i64 (cmpD a b).2]) ∧ Below w.heap.size w w' := by
  unfold cmpD
  cases ha : rightB a
  · simp only [Bool.false_and, Bool.false_eq_true, if_false]
    exact cmp_arg a b ao bo cap bcap w hr hs hL hM (Or.inl ha)
  · cases hb : rightB b
    · simp only [Bool.and_false, Bool.false_eq_true, if_false]
      exact cmp_arg a b ao bo cap bcap w hr hs hL hM (Or.inr hb)
    · simp only [Bool.and_self, if_true]
      exact Cmp_right a b ao bo cap bcap w hr hs hL hM ha hb
set_option maxHeartbeats 4000000 in
theorem dcmp_right (a b : Dy) (ao bo : Option Addr) (cap bcap : Nat) (w : World) (hr : NS w ao cap a.mag) (hs : NS w bo bcap b.mag) (hL : Lm a.mag) (hM : Lm b.mag) (ha : rightB a = true) (hb : rightB b = true) :
    Calls Tryd.prog 32 #[.agg #[.bool a.neg, .slice ao a.mag.length cap, .int .i64 a.exp], .agg #[.bool b.neg, .slice bo b.mag.length bcap, .int .i64 b.exp]] w fun e w' => e = .returned (.tuple #[.int .i64 (sgI (qd a - qd b)), .int .i64 0]) ∧ Below w.heap.size w w' := by
  have hR := fun w' (h : LRow w' ao a.mag) => dright_any a ao cap w' h hL
  have hQ := fun w' (h : LRow w' bo b.mag) => dright_any b bo bcap w' h hM
  have x1 := right_exp ha
  have x2 := right_exp hb
  rw [ha] at hR
  rw [hb] at hQ
  have hDa := fun w' (h : NS w' ao cap a.mag) => ddyad_any a ao cap w' h hL (by omega)
  have hDb := fun w' (h : NS w' bo bcap b.mag) => ddyad_any b bo bcap w' h hM (by omega)
  have l1 := lo_len hL
  have l2 := lo_len hM
  have hC := fun o1 o2 c1 c2 w' (h1 : NS w' o1 c1 (lo (vl a.mag))) (h2 : NS w' o2 c2 (lo (vl b.mag))) => compare_any ⟨a.neg, lo (vl a.mag), a.exp⟩ ⟨b.neg, lo (vl b.mag), b.exp⟩ o1 o2 c1 c2 w' h1 h2 (lo_lm _) (lo_lm _) (by simp only; omega) (by simp only; omega) (by simp only; omega) (by simp only; omega) (by simp only; omega) (by simp only; omega)
  have qa : qd ⟨a.neg, lo (vl a.mag), a.exp⟩ = qd a := by unfold qd sv; simp only [vl_lo]
  have qb : qd ⟨b.neg, lo (vl b.mag), b.exp⟩ = qd b := by unfold qd sv; simp only [vl_lo]
  rw [qa, qb] at hC
  generalize sgI (qd a - qd b) = g at *
  obtain ⟨n1, xs, ex⟩ := a
  obtain ⟨n2, ys, ey⟩ := b
  simp only at *
  obtain ⟨A, hA⟩ : ∃ A, lo (vl xs) = A := ⟨_, rfl⟩
  obtain ⟨B, hB'⟩ : ∃ B, lo (vl ys) = B := ⟨_, rfl⟩
  rw [hA] at hDa hC
  rw [hB'] at hDb hC
  clear ha hb hA hB' l1 l2 x1 x2 hL hM qa qb
  go_enter Tryd.func32, Tryd.ntmps32
  go_wp2_with (first
    | (go_at_call_of 16 (Value.agg #[.bool n1, .slice ao xs.length cap, .int .i64 ex]); refine (hR _ ((hr.1.alloc _).alloc _)).mono ?_; rintro e w1 ⟨rfl, b1⟩; obtain ⟨⟨c0, c1, c2⟩, ⟨d0, d1, d2⟩, _⟩ := box2 b1)
    | (go_at_call_of 16 (Value.agg #[.bool n2, .slice bo ys.length bcap, .int .i64 ey]); refine (hQ _ (hs.1.below (box2_old b1))).mono ?_; rintro e w2 ⟨rfl, b2⟩; have B2 := b1.trans (b2.mono b1.size); clear c0 c1 c2 d0 d1 d2; obtain ⟨⟨c0, c1, c2⟩, ⟨d0, d1, d2⟩, _⟩ := box2 B2))
  have hr2 : NS w2.drew ao cap xs := hr.below (box2_old B2).drew
  have hs2 : NS w2.drew bo bcap ys := hs.below (box2_old B2).drew
  go_region_held3 (fun w' => w'.cell? ⟨w.heap.size, 0, none⟩ = some (.bool n1) ∧ w'.cell? ⟨w.heap.size, 1, none⟩ = some (.slice ao xs.length cap) ∧ w'.cell? ⟨w.heap.size, 2, none⟩ = some (.int .i64 ex) ∧ w'.cell? ⟨w.heap.size + 1, 0, none⟩ = some (.bool n2) ∧ w'.cell? ⟨w.heap.size + 1, 1, none⟩ = some (.slice bo ys.length bcap) ∧ w'.cell? ⟨w.heap.size + 1, 2, none⟩ = some (.int .i64 ey)) (go_keep)
    (first
      | (go_at_call_of 51 (Value.agg #[.bool n1, .slice ao xs.length cap, .int .i64 ex]); refine (hDa _ hr2).mono ?_; rintro e wa ⟨oa, ca, rfl, ua, fa, ba⟩; have Ba := B2.trans ((undrew ba).mono B2.size); clear c0 c1 c2 d0 d1 d2; obtain ⟨⟨c0, c1, c2⟩, ⟨d0, d1, d2⟩, _⟩ := box2 Ba)
      | (go_at_call_of 51 (Value.agg #[.bool n2, .slice bo ys.length bcap, .int .i64 ey]); refine (hDb _ (hs2.below ba)).mono ?_; rintro e wb ⟨ob, cb, rfl, ub, fb, bb⟩; have Bb := Ba.trans (bb.mono Ba.size); clear c0 c1 c2 d0 d1 d2; obtain ⟨⟨c0, c1, c2⟩, ⟨d0, d1, d2⟩, _⟩ := box2 Bb)
      | (go_at_call 52; refine (hC _ _ _ _ _ (ua.below bb) ub).mono ?_; rintro e wt ⟨rfl, bt⟩; have Bt := Bb.trans (bt.mono Bb.size); clear c0 c1 c2 d0 d1 d2; obtain ⟨⟨c0, c1, c2⟩, ⟨d0, d1, d2⟩, _⟩ := box2 Bt))
  go_wp2
  go_ret2
  exact ⟨rfl, box2_old Bt⟩
theorem dcmp_all (a b : Dy) (ao bo : Option Addr) (cap bcap : Nat) (w : World) (hr : NS w ao cap a.mag) (hs : NS w bo bcap b.mag) (hL : Lm a.mag) (hM : Lm b.mag) :
    Calls Tryd.prog 32 #[.agg #[.bool a.neg, .slice ao a.mag.length cap, .int .i64 a.exp], .agg #[.bool b.neg, .slice bo b.mag.length bcap, .int .i64 b.exp]] w fun e w' => e = .returned (.tuple #[.int .i64 (cmpD a b).1, .int .i64 (cmpD a b).2]) ∧ Below w.heap.size w w' := by
  unfold cmpD
  cases ha : rightB a
  · simp only [Bool.false_and, Bool.false_eq_true, if_false]
    exact dcmp_arg a b ao bo cap bcap w hr.1 hs.1 hL hM (Or.inl ha)
  · cases hb : rightB b
    · simp only [Bool.and_false, Bool.false_eq_true, if_false]
      exact dcmp_arg a b ao bo cap bcap w hr.1 hs.1 hL hM (Or.inr hb)
    · simp only [Bool.and_self, if_true]
      exact dcmp_right a b ao bo cap bcap w hr hs hL hM ha hb
end Go.Proofs.YtjjchlfdaacddaaDoor
