/- RoundBetween, whatever floats it is given: the walk. -/
import Derived.Test.YtalkdjgmblabgaaDoorX2
namespace Go.Proofs.YtalkdjgmblabgaaDoor
open Go.RowKit

theorem o_gt {k x y : Nat} (hx : Ok k x) (hy : Ok k y) {B : Bool} (h : decide (place y < place x) = B) : (FloatKind.f64.format.order x y == some .gt) = B := by
  rw [ord_num hx.1 hy.1 (ok_nan hx) (ok_nan hy), cmp_gt, h]
theorem o_lt {k x y : Nat} (hx : Ok k x) (hy : Ok k y) {B : Bool} (h : decide (place x < place y) = B) : (FloatKind.f64.format.order x y == some .lt) = B := by
  rw [ord_num hx.1 hy.1 (ok_nan hx) (ok_nan hy), cmp_lt, h]
theorem o_eq {k x y : Nat} (hx : Ok k x) (hy : Ok k y) {B : Bool} (h : decide (place x = place y) = B) : (FloatKind.f64.format.order x y == some .eq) = B := by
  rw [ord_num hx.1 hy.1 (ok_nan hx) (ok_nan hy), cmp_eq, h]
theorem o_ne {k x y : Nat} (hx : Ok k x) (hy : Ok k y) {B : Bool} (h : decide (place x = place y) = !B) : (FloatKind.f64.format.order x y != some .eq) = B := by
  unfold bne
  rw [o_eq hx hy h, Bool.not_not]
theorem o_ge {k x y : Nat} (hx : Ok k x) (hy : Ok k y) {B : Bool} (h : decide (place y ≤ place x) = B) : (FloatKind.f64.format.order x y == some .gt || FloatKind.f64.format.order x y == some .eq) = B := by
  rw [ord_num hx.1 hy.1 (ok_nan hx) (ok_nan hy), cmp_gt, cmp_eq, ← Bool.decide_or, ← h]
  exact decide_eq_decide.2 (by omega)
theorem o_le {k x y : Nat} (hx : Ok k x) (hy : Ok k y) {B : Bool} (h : decide (place x ≤ place y) = B) : (FloatKind.f64.format.order x y == some .lt || FloatKind.f64.format.order x y == some .eq) = B := by
  rw [ord_num hx.1 hy.1 (ok_nan hx) (ok_nan hy), cmp_lt, cmp_eq, ← Bool.decide_or, ← h]
  exact decide_eq_decide.2 (by omega)
theorem ok_zero (k : Nat) : Ok k 0 := ⟨by omega, by decide, fun _ => Or.inl rfl⟩
theorem did_is {k a b c : Nat} {m : Int} {v : Nat} (hk : k ≤ 5) (h : Ask k a b c) (e : dO k a b c m = some v) (w : World) (hT : TabW w) :
    Calls Tryd.prog 13 #[.int .i64 k, .float .f64 a, .float .f64 b, .float .f64 c, .int .i8 m] w fun e w' => e = .returned (.float .f64 v) ∧ Below w.heap.size w w' := by
  refine (did_all k a b c m hk h.ha h.hb h.hc w hT).mono ?_
  rintro r w' ⟨q, rfl, h1, h2⟩
  rw [e] at h1
  have e2 : q = v := h1.2
  rw [e2]
  exact ⟨rfl, h2⟩
set_option maxRecDepth 100000 in
set_option maxHeartbeats 4000000 in
theorem between_law (x : Int) (a b c : Nat) (ha : a < 18446744073709551616) (hb : b < 18446744073709551616) (hc : c < 18446744073709551616) (w : World) (hT : TabW w) :
    Calls Tryd.prog 4 #[.int .i64 x, .float .f64 a, .float .f64 b, .float .f64 c] w fun e w' => e = .returned (.bool true) ∧ Below w.heap.size w w' := by
  have HB : Below w.heap.size w w := Below.refl _ _
  go_enter Tryd.func4, Tryd.ntmps4
  go_upto_if 22 with (first
    | (go_at_call 11; refine (pick6 _ _).mono ?_; rintro e w' ⟨k, rfl, hk, h'⟩; subst w')
    | (go_at_call 12; refine (asks_all k a b c hk ha hb hc _).mono ?_; rintro e wz ⟨B, rfl, hAsk, bz⟩; replace HB := bth3 HB bz; have hT := tabW_below hT bz))
  cases B
  · go_wp2_with (go_at_call 10; refine (rawake _ hT).mono ?_; rintro e wz ⟨rfl, bz⟩; replace HB := bth3 HB bz)
    go_ret
    exact ⟨rfl, HB⟩
  have hA := hAsk rfl
  clear hAsk
  obtain ⟨lo, hi, ze, ne, e1, e2, e3, e0, hcase⟩ := six_ways hA
  have d1 := fun w h => did_is hk hA e1 w h
  have d2 := fun w h => did_is hk hA e2 w h
  have d3 := fun w h => did_is hk hA e3 w h
  have d0 := fun w h => did_is hk hA e0 w h
  clear e1 e2 e3 e0
  go_upto_region 6 with (first
    | (go_at_call_of 13 (Value.int IntKind.i8 1); refine (d1 _ hT).mono ?_; rintro e wz ⟨rfl, bz⟩; replace HB := bth3 HB bz; have hT := tabW_below hT bz)
    | (go_at_call_of 13 (Value.int IntKind.i8 2); refine (d2 _ hT).mono ?_; rintro e wz ⟨rfl, bz⟩; replace HB := bth3 HB bz; have hT := tabW_below hT bz)
    | (go_at_call_of 13 (Value.int IntKind.i8 3); refine (d3 _ hT).mono ?_; rintro e wz ⟨rfl, bz⟩; replace HB := bth3 HB bz; have hT := tabW_below hT bz)
    | (go_at_call_of 13 (Value.int IntKind.i8 0); refine (d0 _ hT).mono ?_; rintro e wz ⟨rfl, bz⟩; replace HB := bth3 HB bz; have hT := tabW_below hT bz))
  clear d0 d1 d2 d3
  rcases hcase with ⟨kl, kh, kz, kn, p1, p2, p3, hbl, hab⟩ | ⟨s, kl, kh, kz, kn, p1, p2, p3, p4, s1, s2, s3, s4, hbl, hab, kx, ky, p5, hbx, hay⟩
  · have cb := fun w h => below_all hk hA kl w h
    have ca := fun w h => above_all hk hA kh w h
    rw [hbl] at cb
    rw [hab] at ca
    have o1 := o_gt kl kh (B := false) (decide_eq_false (by omega))
    have o2 := o_eq kl kh (B := true) (decide_eq_true (by omega))
    have o3 := o_eq kz kl (B := true) (decide_eq_true (by omega))
    have o4 := o_eq kn kl (B := true) (decide_eq_true (by omega))
    have cx := next_any lo true kl.1
    have cy := next_any hi false kh.1
    clear p1 p2 p3 hbl hab
    go_wp2_with (first
      | (go_at_call 14; refine (cb _ hT).mono ?_; rintro e wz ⟨rfl, bz⟩; replace HB := bth3 HB bz; have hT := tabW_below hT bz)
      | (go_at_call 15; refine (ca _ hT).mono ?_; rintro e wz ⟨rfl, bz⟩; replace HB := bth3 HB bz; have hT := tabW_below hT bz)
      | (go_at_call_of 16 (Value.bool true); refine (cx _).mono ?_; rintro e w' ⟨rfl, h'⟩; subst w')
      | (go_at_call_of 16 (Value.bool false); refine (cy _).mono ?_; rintro e w' ⟨rfl, h'⟩; subst w')
      | (go_at_call 10; refine (rawake _ hT).mono ?_; rintro e wz ⟨rfl, bz⟩; replace HB := bth3 HB bz))
    go_ret
    exact ⟨rfl, HB⟩
  · have cb := fun w h => below_all hk hA kl w h
    have ca := fun w h => above_all hk hA kh w h
    have cb2 := fun w h => below_all hk hA kx w h
    have ca2 := fun w h => above_all hk hA ky w h
    rw [hbl] at cb
    rw [hab] at ca
    rw [hbx] at cb2
    rw [hay] at ca2
    have o1 := o_gt kl kh (B := false) (decide_eq_false (by omega))
    have o2 := o_eq kl kh (B := false) (decide_eq_false (by omega))
    have o3 := o_ne kx kh (B := false) (by rw [decide_eq_true (by omega)]; rfl)
    have cx := next_any lo true kl.1
    have cy := next_any hi false kh.1
    have c1 := signbit_any lo kl.1
    have c2 := signbit_any hi kh.1
    have c3 := signbit_any ze kz.1
    have c4 := signbit_any ne kn.1
    rw [s1] at c1
    rw [s2] at c2
    rw [s3] at c3
    rw [s4] at c4
    have z0 : place 0 = 0 := rfl
    clear hbl hab hbx hay
    generalize nextF lo true = nx at *
    generalize nextF hi false = ah at *
    cases s
    · obtain ⟨q1, q2⟩ := p2 rfl
      have o4 := o_ge kl (ok_zero k) (B := true) (decide_eq_true (by omega))
      have o5 := o_ne kz kl (B := false) (by rw [decide_eq_true (by omega)]; rfl)
      have o6 := o_le kh (ok_zero k) (B := false) (decide_eq_false (by omega))
      have o7 := o_lt kl (ok_zero k) (B := false) (decide_eq_false (by omega))
      rcases p4 with p4 | p4
      · have o8 := o_ne kn kl (B := false) (by rw [decide_eq_true (by omega)]; rfl)
        clear p1 p2 p3 p4 p5 q1 q2 z0
        go_wp2_with (first
      | (go_at_call_of 14 (Value.float FloatKind.f64 lo); refine (cb _ hT).mono ?_; rintro e wz ⟨rfl, bz⟩; replace HB := bth3 HB bz; have hT := tabW_below hT bz)
      | (go_at_call_of 15 (Value.float FloatKind.f64 hi); refine (ca _ hT).mono ?_; rintro e wz ⟨rfl, bz⟩; replace HB := bth3 HB bz; have hT := tabW_below hT bz)
      | (go_at_call_of 16 (Value.bool true); refine (cx _).mono ?_; rintro e w' ⟨rfl, h'⟩; subst w')
      | (go_at_call_of 16 (Value.bool false); refine (cy _).mono ?_; rintro e w' ⟨rfl, h'⟩; subst w')
      | (go_at_call_of 14 (Value.float FloatKind.f64 nx); refine (cb2 _ hT).mono ?_; rintro e wz ⟨rfl, bz⟩; replace HB := bth3 HB bz; have hT := tabW_below hT bz)
      | (go_at_call_of 15 (Value.float FloatKind.f64 ah); refine (ca2 _ hT).mono ?_; rintro e wz ⟨rfl, bz⟩; replace HB := bth3 HB bz; have hT := tabW_below hT bz)
      | (go_at_call_of 17 (Value.float FloatKind.f64 lo); refine (c1 _).mono ?_; rintro e w' ⟨rfl, h'⟩; subst w')
      | (go_at_call_of 17 (Value.float FloatKind.f64 hi); refine (c2 _).mono ?_; rintro e w' ⟨rfl, h'⟩; subst w')
      | (go_at_call_of 17 (Value.float FloatKind.f64 ze); refine (c3 _).mono ?_; rintro e w' ⟨rfl, h'⟩; subst w')
      | (go_at_call_of 17 (Value.float FloatKind.f64 ne); refine (c4 _).mono ?_; rintro e w' ⟨rfl, h'⟩; subst w')
      | (go_at_call 10; refine (rawake _ hT).mono ?_; rintro e wz ⟨rfl, bz⟩; replace HB := bth3 HB bz))
        go_ret
        exact ⟨rfl, HB⟩
      · have o8 := o_ne kn kl (B := true) (by rw [decide_eq_false (by omega)]; rfl)
        have o9 := o_ne kn kh (B := false) (by rw [decide_eq_true (by omega)]; rfl)
        clear p1 p2 p3 p4 p5 q1 q2 z0
        go_wp2_with (first
      | (go_at_call_of 14 (Value.float FloatKind.f64 lo); refine (cb _ hT).mono ?_; rintro e wz ⟨rfl, bz⟩; replace HB := bth3 HB bz; have hT := tabW_below hT bz)
      | (go_at_call_of 15 (Value.float FloatKind.f64 hi); refine (ca _ hT).mono ?_; rintro e wz ⟨rfl, bz⟩; replace HB := bth3 HB bz; have hT := tabW_below hT bz)
      | (go_at_call_of 16 (Value.bool true); refine (cx _).mono ?_; rintro e w' ⟨rfl, h'⟩; subst w')
      | (go_at_call_of 16 (Value.bool false); refine (cy _).mono ?_; rintro e w' ⟨rfl, h'⟩; subst w')
      | (go_at_call_of 14 (Value.float FloatKind.f64 nx); refine (cb2 _ hT).mono ?_; rintro e wz ⟨rfl, bz⟩; replace HB := bth3 HB bz; have hT := tabW_below hT bz)
      | (go_at_call_of 15 (Value.float FloatKind.f64 ah); refine (ca2 _ hT).mono ?_; rintro e wz ⟨rfl, bz⟩; replace HB := bth3 HB bz; have hT := tabW_below hT bz)
      | (go_at_call_of 17 (Value.float FloatKind.f64 lo); refine (c1 _).mono ?_; rintro e w' ⟨rfl, h'⟩; subst w')
      | (go_at_call_of 17 (Value.float FloatKind.f64 hi); refine (c2 _).mono ?_; rintro e w' ⟨rfl, h'⟩; subst w')
      | (go_at_call_of 17 (Value.float FloatKind.f64 ze); refine (c3 _).mono ?_; rintro e w' ⟨rfl, h'⟩; subst w')
      | (go_at_call_of 17 (Value.float FloatKind.f64 ne); refine (c4 _).mono ?_; rintro e w' ⟨rfl, h'⟩; subst w')
      | (go_at_call 10; refine (rawake _ hT).mono ?_; rintro e wz ⟨rfl, bz⟩; replace HB := bth3 HB bz))
        go_ret
        exact ⟨rfl, HB⟩
    · obtain ⟨q1, q2⟩ := p3 rfl
      have o4 := o_ge kl (ok_zero k) (B := false) (decide_eq_false (by omega))
      have o5 := o_ne kz kh (B := false) (by rw [decide_eq_true (by omega)]; rfl)
      have o6 := o_le kh (ok_zero k) (B := true) (decide_eq_true (by omega))
      have o7 := o_lt kl (ok_zero k) (B := true) (decide_eq_true (by omega))
      have oA := o_gt kh (ok_zero k) (B := false) (decide_eq_false (by omega))
      rcases p4 with p4 | p4
      · have o8 := o_ne kn kl (B := false) (by rw [decide_eq_true (by omega)]; rfl)
        clear p1 p2 p3 p4 p5 q1 q2 z0
        go_wp2_with (first
      | (go_at_call_of 14 (Value.float FloatKind.f64 lo); refine (cb _ hT).mono ?_; rintro e wz ⟨rfl, bz⟩; replace HB := bth3 HB bz; have hT := tabW_below hT bz)
      | (go_at_call_of 15 (Value.float FloatKind.f64 hi); refine (ca _ hT).mono ?_; rintro e wz ⟨rfl, bz⟩; replace HB := bth3 HB bz; have hT := tabW_below hT bz)
      | (go_at_call_of 16 (Value.bool true); refine (cx _).mono ?_; rintro e w' ⟨rfl, h'⟩; subst w')
      | (go_at_call_of 16 (Value.bool false); refine (cy _).mono ?_; rintro e w' ⟨rfl, h'⟩; subst w')
      | (go_at_call_of 14 (Value.float FloatKind.f64 nx); refine (cb2 _ hT).mono ?_; rintro e wz ⟨rfl, bz⟩; replace HB := bth3 HB bz; have hT := tabW_below hT bz)
      | (go_at_call_of 15 (Value.float FloatKind.f64 ah); refine (ca2 _ hT).mono ?_; rintro e wz ⟨rfl, bz⟩; replace HB := bth3 HB bz; have hT := tabW_below hT bz)
      | (go_at_call_of 17 (Value.float FloatKind.f64 lo); refine (c1 _).mono ?_; rintro e w' ⟨rfl, h'⟩; subst w')
      | (go_at_call_of 17 (Value.float FloatKind.f64 hi); refine (c2 _).mono ?_; rintro e w' ⟨rfl, h'⟩; subst w')
      | (go_at_call_of 17 (Value.float FloatKind.f64 ze); refine (c3 _).mono ?_; rintro e w' ⟨rfl, h'⟩; subst w')
      | (go_at_call_of 17 (Value.float FloatKind.f64 ne); refine (c4 _).mono ?_; rintro e w' ⟨rfl, h'⟩; subst w')
      | (go_at_call 10; refine (rawake _ hT).mono ?_; rintro e wz ⟨rfl, bz⟩; replace HB := bth3 HB bz))
        go_ret
        exact ⟨rfl, HB⟩
      · have o8 := o_ne kn kl (B := true) (by rw [decide_eq_false (by omega)]; rfl)
        have o9 := o_ne kn kh (B := false) (by rw [decide_eq_true (by omega)]; rfl)
        clear p1 p2 p3 p4 p5 q1 q2 z0
        go_wp2_with (first
      | (go_at_call_of 14 (Value.float FloatKind.f64 lo); refine (cb _ hT).mono ?_; rintro e wz ⟨rfl, bz⟩; replace HB := bth3 HB bz; have hT := tabW_below hT bz)
      | (go_at_call_of 15 (Value.float FloatKind.f64 hi); refine (ca _ hT).mono ?_; rintro e wz ⟨rfl, bz⟩; replace HB := bth3 HB bz; have hT := tabW_below hT bz)
      | (go_at_call_of 16 (Value.bool true); refine (cx _).mono ?_; rintro e w' ⟨rfl, h'⟩; subst w')
      | (go_at_call_of 16 (Value.bool false); refine (cy _).mono ?_; rintro e w' ⟨rfl, h'⟩; subst w')
      | (go_at_call_of 14 (Value.float FloatKind.f64 nx); refine (cb2 _ hT).mono ?_; rintro e wz ⟨rfl, bz⟩; replace HB := bth3 HB bz; have hT := tabW_below hT bz)
      | (go_at_call_of 15 (Value.float FloatKind.f64 ah); refine (ca2 _ hT).mono ?_; rintro e wz ⟨rfl, bz⟩; replace HB := bth3 HB bz; have hT := tabW_below hT bz)
      | (go_at_call_of 17 (Value.float FloatKind.f64 lo); refine (c1 _).mono ?_; rintro e w' ⟨rfl, h'⟩; subst w')
      | (go_at_call_of 17 (Value.float FloatKind.f64 hi); refine (c2 _).mono ?_; rintro e w' ⟨rfl, h'⟩; subst w')
      | (go_at_call_of 17 (Value.float FloatKind.f64 ze); refine (c3 _).mono ?_; rintro e w' ⟨rfl, h'⟩; subst w')
      | (go_at_call_of 17 (Value.float FloatKind.f64 ne); refine (c4 _).mono ?_; rintro e w' ⟨rfl, h'⟩; subst w')
      | (go_at_call 10; refine (rawake _ hT).mono ?_; rintro e wz ⟨rfl, bz⟩; replace HB := bth3 HB bz))
        go_ret
        exact ⟨rfl, HB⟩
end Go.Proofs.YtalkdjgmblabgaaDoor
