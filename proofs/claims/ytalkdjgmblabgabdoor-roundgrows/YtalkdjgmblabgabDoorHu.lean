/- RoundGrows, whatever floats and way it is given: the walk. -/
import Derived.Test.YtalkdjgmblabgabDoorX8
import Derived.Test.YtalkdjgmblabgabDoorWu
namespace Go.Proofs.YtalkdjgmblabgabDoor
open Go.RowKit

theorem rsqrt_all (a : Nat) (m : Int) (ha : a < 18446744073709551616) (w : World) (hT : TabW w) :
    Calls Tryd.prog 27 #[.float .f64 a, .int .i8 m] w fun e w' => ∃ r, e = .returned (.float .f64 r) ∧ NR (sqO a m) r ∧ Below w.heap.size w w' := by
  unfold sqO
  cases hs : (someB a && !sgn a)
  · exact rsqrt_sp a m ha hs w
  · have sa : someB a = true := by revert hs; cases someB a <;> simp
    have ga : sgn a = false := by revert hs; cases sgn a <;> simp
    refine (rsqrt_any a m ha sa ga w hT).mono ?_
    rintro e w' ⟨rfl, h⟩
    refine ⟨_, rfl, ⟨?_, rfl⟩, h⟩
    have e : sqO a m = some (stepF (tQ a) (tS a) m) := by unfold sqO; rw [hs]; rfl
    exact (sqO_facts m ⟨ha, rung_nan (Nat.le_of_lt (fin_rung (some_rung sa).1))⟩ e).2.2.2.2.2.1
theorem gt_no {o p : Option Nat} {r s : Nat} (h : LeO o p) (hr : NR o r) (hs : NR p s) : (FloatKind.f64.format.order r s == some .gt) = false := by
  cases nr : nanB r
  · cases ns : nanB s
    · rw [ord_num hr.1 hs.1 nr ns, cmp_gt]
      cases o with
      | none => have := hr.2; rw [nr] at this; cases this
      | some v =>
        cases p with
        | none => have := hs.2; rw [ns] at this; cases this
        | some q =>
          have e1 : r = v := hr.2
          have e2 : s = q := hs.2
          have := h v q rfl rfl
          rw [← e1, ← e2] at this
          exact decide_eq_false (by omega)
    · rw [ord_nan hr.1 hs.1 (Or.inr ns)]; rfl
  · rw [ord_nan hr.1 hs.1 (Or.inl nr)]; rfl
theorem did_none {k a b c : Nat} {m : Int} (hk : k ≤ 5) (ha : a < 18446744073709551616) (hb : b < 18446744073709551616) (hc : c < 18446744073709551616) (e : dO k a b c m = none) (w : World) (hT : TabW w) :
    Calls Tryd.prog 9 #[.int .i64 k, .float .f64 a, .float .f64 b, .float .f64 c, .int .i8 m] w fun e w' => ∃ r, e = .returned (.float .f64 r) ∧ (FloatKind.f64.format.order r r != some .eq) = true ∧ (FloatKind.f64.format.order r r == some .eq) = false ∧ Below w.heap.size w w' := by
  refine (did_all k a b c m hk ha hb hc w hT).mono ?_
  rintro r w' ⟨q, rfl, h1, h2⟩
  rw [e] at h1
  have hn : nanB q = true := h1.2
  exact ⟨q, rfl, by rw [ord_self q h1.1]; exact hn, by rw [ord_nan h1.1 h1.1 (Or.inl hn)]; rfl, h2⟩
theorem did_some {k a b c : Nat} {m : Int} {v : Nat} (hk : k ≤ 5) (ha : a < 18446744073709551616) (hb : b < 18446744073709551616) (hc : c < 18446744073709551616) (e : dO k a b c m = some v) (w : World) (hT : TabW w) :
    Calls Tryd.prog 9 #[.int .i64 k, .float .f64 a, .float .f64 b, .float .f64 c, .int .i8 m] w fun e w' => e = .returned (.float .f64 v) ∧ Below w.heap.size w w' := by
  refine (did_all k a b c m hk ha hb hc w hT).mono ?_
  rintro r w' ⟨q, rfl, h1, h2⟩
  rw [e] at h1
  have e2 : q = v := h1.2
  rw [e2]
  exact ⟨rfl, h2⟩
theorem fn_self {x : Nat} (h : Fn x) : (FloatKind.f64.format.order x x != some .eq) = false := by rw [ord_self x h.1]; exact h.2
theorem fn_gt {x y : Nat} (hx : Fn x) (hy : Fn y) (h : place x ≤ place y) : (FloatKind.f64.format.order x y == some .gt) = false := by
  rw [ord_num hx.1 hy.1 hx.2 hy.2, cmp_gt]; exact decide_eq_false (by omega)
theorem fn_ne {x y : Nat} (hx : Fn x) (hy : Fn y) : (FloatKind.f64.format.order x y != some .eq) = decide (place x ≠ place y) := by
  unfold bne
  rw [ord_num hx.1 hy.1 hx.2 hy.2, cmp_eq]
  by_cases h : place x = place y <;> simp [h]
theorem fn_abs {x : Nat} (h : Fn x) : Fn (rung x) := ⟨by have := rung_lt x; omega, by rw [show nanB (rung x) = nanB x by unfold nanB; rw [rung_small (rung_lt x)]]; exact h.2⟩
theorem abs_gt {x y : Nat} (hx : Fn x) (hy : Fn y) (h : rung x ≤ rung y) : (FloatKind.f64.format.order (rung x) (rung y) == some .gt) = false :=
  fn_gt (fn_abs hx) (fn_abs hy) (by rw [place_small (rung_lt x), place_small (rung_lt y)]; omega)
set_option maxRecDepth 100000 in
set_option maxHeartbeats 8000000 in
theorem grows_law (a b c : Nat) (m : Int) (ha : a < 18446744073709551616) (hb : b < 18446744073709551616) (hc : c < 18446744073709551616) (w : World) (hT : TabW w) :
    Calls Tryd.prog 5 #[.float .f64 a, .float .f64 b, .float .f64 c, .int .i8 m] w fun e w' => e = .returned (.bool true) ∧ Below w.heap.size w w' := by
  have HB : Below w.heap.size w w := Below.refl _ _
  have na := ord_self a ha
  have nb := ord_self b hb
  have nc := ord_self c hc
  cases ea : nanB a
  case true =>
    rw [ea] at na
    go_enter Tryd.func5, Tryd.ntmps5
    go_wp2_with (go_at_call 8; refine (rawake _ hT).mono ?_; rintro e wz ⟨rfl, bz⟩)
    go_ret
    exact ⟨rfl, bz⟩
  rw [ea] at na
  cases eb : nanB b
  case true =>
    rw [eb] at nb
    go_enter Tryd.func5, Tryd.ntmps5
    go_wp2_with (go_at_call 8; refine (rawake _ hT).mono ?_; rintro e wz ⟨rfl, bz⟩)
    go_ret
    exact ⟨rfl, bz⟩
  rw [eb] at nb
  cases ec : nanB c
  case true =>
    rw [ec] at nc
    go_enter Tryd.func5, Tryd.ntmps5
    go_wp2_with (go_at_call 8; refine (rawake _ hT).mono ?_; rintro e wz ⟨rfl, bz⟩)
    go_ret
    exact ⟨rfl, bz⟩
  rw [ec] at nc
  have fa : Fn a := ⟨ha, ea⟩
  have fb : Fn b := ⟨hb, eb⟩
  have fc : Fn c := ⟨hc, ec⟩
  clear ea eb ec
  obtain ⟨l, h, hmin, hmax, fl, fh, hlh⟩ := min_max (P := Tryd.prog) fa fb
  have fr := fn_abs fc
  have gr : sgn (rung c) = false := sgn_small (rung_lt c)
  have q1 := addO_le m fl fh fc hlh
  have q2 := mulO_le m fl fh fr gr hlh
  have q4 := sqO_le m fl fh hlh
  have q3 : rung c ≠ 0 → LeO (divO l (rung c) m) (divO h (rung c) m) := fun g => divO_le m fl fh fr gr (by rw [rung_small (rung_lt c)]; exact g) hlh
  have oc : (FloatKind.f64.format.order c 0 != some .eq) = decide (rung c ≠ 0) := by
    have := zero_eq hc
    unfold bne
    rw [this]
    by_cases g : rung c = 0 <;> simp [g]
  have cab := abs_any c hc
  have s1 := radd_any l c m fl.1 hc
  have s2 := radd_any h c m fh.1 hc
  have s3 := rmul_all l (rung c) m fl.1 fr.1
  have s4 := rmul_all h (rung c) m fh.1 fr.1
  have s5 := rdiv_all l (rung c) m fl.1 fr.1
  have s6 := rdiv_all h (rung c) m fh.1 fr.1
  have s7 := rsqrt_all l m fl.1
  have s8 := rsqrt_all h m fh.1
  have hw : Hid (∀ k, k ≤ 5 → Ways k a b c) := fun k hk => ways_all hk fa fb fc
  clear hlh fr gr fa fb fc
  go_enter Tryd.func5, Tryd.ntmps5
  go_upto_region 4 with fail
  go_upto_region 8 with (first
    | (go_at_call_of 19 (Value.float FloatKind.f64 l); refine (s1 _).mono ?_; rintro e wz ⟨r1, rfl, n1, bz⟩; replace HB := bth3 HB bz; have hT := tabW_below hT bz)
    | (go_at_call_of 19 (Value.float FloatKind.f64 h); refine (s2 _).mono ?_; rintro e wz ⟨r2, rfl, n2, bz⟩; replace HB := bth3 HB bz; have hT := tabW_below hT bz)
    | (go_at_call 26; refine (cab _).mono ?_; rintro e w' ⟨rfl, h'⟩; subst w')
    | (go_at_call_of 20 (Value.float FloatKind.f64 l); refine (s3 _ hT).mono ?_; rintro e wz ⟨r3, rfl, n3, bz⟩; replace HB := bth3 HB bz; have hT := tabW_below hT bz)
    | (go_at_call_of 20 (Value.float FloatKind.f64 h); refine (s4 _ hT).mono ?_; rintro e wz ⟨r4, rfl, n4, bz⟩; replace HB := bth3 HB bz; have hT := tabW_below hT bz)
    | (go_at_call_of 21 (Value.float FloatKind.f64 l); refine (s5 _ hT).mono ?_; rintro e wz ⟨r5, rfl, n5, bz⟩; replace HB := bth3 HB bz; have hT := tabW_below hT bz)
    | (go_at_call_of 21 (Value.float FloatKind.f64 h); refine (s6 _ hT).mono ?_; rintro e wz ⟨r6, rfl, n6, bz⟩; replace HB := bth3 HB bz; have hT := tabW_below hT bz)
    | (go_at_call_of 27 (Value.float FloatKind.f64 l); refine (s7 _ hT).mono ?_; rintro e wz ⟨r7, rfl, n7, bz⟩; replace HB := bth3 HB bz; have hT := tabW_below hT bz)
    | (go_at_call_of 27 (Value.float FloatKind.f64 h); refine (s8 _ hT).mono ?_; rintro e wz ⟨r8, rfl, n8, bz⟩; replace HB := bth3 HB bz; have hT := tabW_below hT bz))
  have o1 := gt_no q1 n1 n2
  have o2 := gt_no q2 n3 n4
  have o4 := gt_no q4 n7 n8
  have o3 : Hid (rung c ≠ 0 → (FloatKind.f64.format.order r5 r6 == some .gt) = false) := fun g => gt_no (q3 g) n5 n6
  clear s1 s2 s3 s4 s5 s6 s7 s8 q1 q2 q3 q4 n1 n2 n3 n4 n5 n6 n7 n8
  go_cut [78, 79, 80, 81, 82, 83, 84, 85, 86, 87, 88, 89, 90, 91, 92, 93, 94, 95, 96, 97, 98, 99] (fun _ _ _ _ _ _ _ _ _ _ _ _ _ _ _ _ _ _ _ _ _ t wx => t = .bool false ∧ wx = wz)
  case first =>
    by_cases g : rung c = 0
    · rw [decide_eq_false (by omega)] at oc
      cases o5 : (FloatKind.f64.format.order r5 r6 == some .gt)
      · go_wp2
        go_meet
        exact ⟨rfl, rfl⟩
      · go_wp2
        go_meet
        exact ⟨rfl, rfl⟩
    · have o5 := o3.out g
      clear g
      go_wp2
      go_meet
      exact ⟨rfl, rfl⟩
  obtain ⟨rfl, rfl⟩ := hcut
  clear o1 o2 o3 o4 oc na nb nc cab
  go_wp2
  go_loopg [19, 20, 21, 22, 23] 6 (fun g i _ _ _ _ wr => ∃ k : Nat, k ≤ 6 ∧ g = 6 - k ∧ i = .int .i64 k ∧ TabW wr ∧ Below w.heap.size w wr)
  case atStart => exact ⟨0, by omega, rfl, rfl, hT, HB⟩
  case round =>
    clear hT HB
    obtain ⟨k, hk, hg, rfl, hT, HB⟩ := hrel
    have HG : Hid (gk = 6 - k) := hg
    clear hg
    by_cases hlt : k < 6
    · have i1 : (k : Int) < 6 := by omega
      have k5 : k ≤ 5 := by omega
      rcases hw.out k k5 with hz | ⟨d, n, u, z, e1, e0, e2, e3, fd, fn, fu, fz, p1, p2, p3, p4, p5⟩
      · have d1 := fun w h => did_none k5 ha hb hc (hz 1) w h
        have d0 := fun w h => did_none k5 ha hb hc (hz 0) w h
        have d2 := fun w h => did_none k5 ha hb hc (hz 2) w h
        have d3 := fun w h => did_none k5 ha hb hc (hz 3) w h
        clear hz hw
        go_wp2_with (first
          | (go_at_call_of 9 (Value.int IntKind.i8 1); refine (d1 _ hT).mono ?_; rintro e wz ⟨x1, rfl, y1, z1, bz⟩; replace HB := bth3 HB bz; have hT := tabW_below hT bz)
          | (go_at_call_of 9 (Value.int IntKind.i8 0); refine (d0 _ hT).mono ?_; rintro e wz ⟨x0, rfl, y0, z0, bz⟩; replace HB := bth3 HB bz; have hT := tabW_below hT bz)
          | (go_at_call_of 9 (Value.int IntKind.i8 2); refine (d2 _ hT).mono ?_; rintro e wz ⟨x2, rfl, y2, z2, bz⟩; replace HB := bth3 HB bz; have hT := tabW_below hT bz)
          | (go_at_call_of 9 (Value.int IntKind.i8 3); refine (d3 _ hT).mono ?_; rintro e wz ⟨x3, rfl, y3, z3, bz⟩; replace HB := bth3 HB bz; have hT := tabW_below hT bz))
        go_roundg (6 - (k + 1))
        case measure => rw [HG.out]; omega
        case rel => exact ⟨k + 1, by omega, rfl, by go_num, hT, HB⟩
      · have d1 := fun w h => did_some k5 ha hb hc e1 w h
        have d0 := fun w h => did_some k5 ha hb hc e0 w h
        have d2 := fun w h => did_some k5 ha hb hc e2 w h
        have d3 := fun w h => did_some k5 ha hb hc e3 w h
        have y1 := fn_self fd
        have y2 := fn_self fu
        have y3 := fn_self fn
        have y4 := fn_self fz
        have t1 := fn_gt fd fn p1
        have t2 := fn_gt fn fu p2
        have t3 := fn_ne fz fd
        have t4 := fn_ne fz fu
        have t5 := abs_gt fz fd p4
        have t6 := abs_gt fz fu p5
        have b1 := abs_any z fz.1
        have b2 := abs_any d fd.1
        have b3 := abs_any u fu.1
        clear e1 e0 e2 e3 p1 p2 p4 p5 hw
        by_cases g : place z = place d
        · rw [decide_eq_false (fun x => x g)] at t3
          clear g p3 t4
          go_wp2_with (first
            | (go_at_call_of 9 (Value.int IntKind.i8 1); refine (d1 _ hT).mono ?_; rintro e wz ⟨rfl, bz⟩; replace HB := bth3 HB bz; have hT := tabW_below hT bz)
            | (go_at_call_of 9 (Value.int IntKind.i8 0); refine (d0 _ hT).mono ?_; rintro e wz ⟨rfl, bz⟩; replace HB := bth3 HB bz; have hT := tabW_below hT bz)
            | (go_at_call_of 9 (Value.int IntKind.i8 2); refine (d2 _ hT).mono ?_; rintro e wz ⟨rfl, bz⟩; replace HB := bth3 HB bz; have hT := tabW_below hT bz)
            | (go_at_call_of 9 (Value.int IntKind.i8 3); refine (d3 _ hT).mono ?_; rintro e wz ⟨rfl, bz⟩; replace HB := bth3 HB bz; have hT := tabW_below hT bz)
            | (go_at_call_of 26 (Value.float FloatKind.f64 z); refine (b1 _).mono ?_; rintro e w' ⟨rfl, h'⟩; subst w')
            | (go_at_call_of 26 (Value.float FloatKind.f64 d); refine (b2 _).mono ?_; rintro e w' ⟨rfl, h'⟩; subst w')
            | (go_at_call_of 26 (Value.float FloatKind.f64 u); refine (b3 _).mono ?_; rintro e w' ⟨rfl, h'⟩; subst w'))
          go_roundg (6 - (k + 1))
          case measure => rw [HG.out]; omega
          case rel => exact ⟨k + 1, by omega, rfl, by go_num, hT, HB⟩
        · rw [decide_eq_true g] at t3
          rw [decide_eq_false (fun x => x (p3.resolve_left g))] at t4
          clear g p3
          go_wp2_with (first
            | (go_at_call_of 9 (Value.int IntKind.i8 1); refine (d1 _ hT).mono ?_; rintro e wz ⟨rfl, bz⟩; replace HB := bth3 HB bz; have hT := tabW_below hT bz)
            | (go_at_call_of 9 (Value.int IntKind.i8 0); refine (d0 _ hT).mono ?_; rintro e wz ⟨rfl, bz⟩; replace HB := bth3 HB bz; have hT := tabW_below hT bz)
            | (go_at_call_of 9 (Value.int IntKind.i8 2); refine (d2 _ hT).mono ?_; rintro e wz ⟨rfl, bz⟩; replace HB := bth3 HB bz; have hT := tabW_below hT bz)
            | (go_at_call_of 9 (Value.int IntKind.i8 3); refine (d3 _ hT).mono ?_; rintro e wz ⟨rfl, bz⟩; replace HB := bth3 HB bz; have hT := tabW_below hT bz)
            | (go_at_call_of 26 (Value.float FloatKind.f64 z); refine (b1 _).mono ?_; rintro e w' ⟨rfl, h'⟩; subst w')
            | (go_at_call_of 26 (Value.float FloatKind.f64 d); refine (b2 _).mono ?_; rintro e w' ⟨rfl, h'⟩; subst w')
            | (go_at_call_of 26 (Value.float FloatKind.f64 u); refine (b3 _).mono ?_; rintro e w' ⟨rfl, h'⟩; subst w'))
          go_roundg (6 - (k + 1))
          case measure => rw [HG.out]; omega
          case rel => exact ⟨k + 1, by omega, rfl, by go_num, hT, HB⟩
    · have i1 : ¬ (k : Int) < 6 := by omega
      go_wp2_with (go_at_call 8; refine (rawake _ hT).mono ?_; rintro e wz ⟨rfl, bz⟩; replace HB := bth3 HB bz)
      go_ret
      exact ⟨rfl, HB⟩
end Go.Proofs.YtalkdjgmblabgabDoor
